/-
  truchmanref1.Unbase: signs read one by one, and compared with their Base.
-/
import Derived.Test.YtbnlcacjldnnjaaBase
import Derived.Test.YtbnlcacjldnnjaaBaseRef
import Derived.BigQuiet
namespace Go.Proofs.Ytbnlcacjldnnjaa
open Go.RowKit
open Go.Lib
theorem conv_new (W : World) (l : List UInt8) (cs : Array Value) (k : Nat) (hk : l.length = k) (hc : cs = (Lib.byteCells l).toArray) (x : ByteArray) (hx : x = ⟨l.toArray⟩) :
    (convert 30 9 (.slice (some ⟨W.heap.size, 0, none⟩) k k)).run Try.prog (W.alloc (.cells cs 5)) = .ok (.string x) (W.alloc (.cells cs 5)) := by
  subst hc hk hx
  have := conv_row (w := W.alloc (.cells (Lib.byteCells l).toArray 5)) (g := W.heap.size) (l := l) (by rw [World.alloc]; exact Array.getElem?_push_size) 0 l.length l.length (by omega)
  rw [this]
  simp
theorem conv_one (x : UInt8) (c : Int) (hc : c = ((x.toNat : Nat) : Int)) (z : ByteArray) (hz : z = ⟨[x].toArray⟩) : ∀ W : World, (convert 30 9 (.slice (some ⟨W.heap.size, 0, none⟩) 1 1)).run Try.prog (W.alloc (.cells #[.int .u8 c] 5)) = .ok (.string z) (W.alloc (.cells #[.int .u8 c] 5)) := by
  subst hc hz
  exact fun W => conv_new W [x] _ 1 rfl rfl _ rfl
/-- The place of a byte among the first k signs. -/
def dOf (c : UInt8) : Nat → Int
  | 0 => -1
  | k + 1 => if sgn k = c then (k : Int) else dOf c k
theorem dOf_no (c : UInt8) (k : Nat) (h : ∀ j, j < k → sgn j ≠ c) : dOf c k = -1 := by
  induction k with
  | zero => rfl
  | succ k ih => rw [dOf, if_neg (h k (by omega))]; exact ih fun j hj => h j (by omega)
theorem dOf_is (d k : Nat) (h : d < k) (hk : k ≤ 64) : dOf (sgn d) k = d := by
  induction k with
  | zero => omega
  | succ k ih =>
    rw [dOf]
    by_cases hd : d = k
    · rw [if_pos (by rw [hd]), hd]
    · rw [if_neg ?_]
      · exact ih (by omega) (by omega)
      · intro he
        have h1 := val_sgn d (by omega)
        rw [← he, val_sgn k (by omega)] at h1
        injection h1 with h1
        omega
theorem dOf_none (c : UInt8) (h : valS c.toNat = none) : dOf c 64 = -1 := dOf_no c 64 fun j hj he => by
  rw [← he, val_sgn j hj] at h
  cases h
theorem dOf_some (c : UInt8) (d : Nat) (h : valS c.toNat = some d) : dOf c 64 = d := by
  rw [← sgn_of c d h]
  exact dOf_is d 64 (sgn_val _ _ h).1 (by decide)
theorem dOf_ge (c : UInt8) (k : Nat) : -1 ≤ dOf c k := by
  induction k with
  | zero => rw [dOf]; decide
  | succ k ih => rw [dOf]; split <;> omega
theorem dOf_lt (c : UInt8) (k : Nat) : dOf c k < k := by
  induction k with
  | zero => rw [dOf]; decide
  | succ k ih => rw [dOf]; split <;> omega
theorem sign_at64 (d : Nat) (h : d < 64) (W : World) : (Instr.index 9 (.string ⟨#[65, 66, 67, 68, 69, 70, 71, 72, 73, 74, 75, 76, 77, 78, 79, 80, 81, 82, 83, 84, 85, 86, 87, 88, 89, 90, 97, 98, 99, 100, 101, 102, 103, 104, 105, 106, 107, 108, 109, 110, 111, 112, 113, 114, 115, 116, 117, 118, 119, 120, 121, 122, 48, 49, 50, 51, 52, 53, 54, 55, 56, 57, 45, 95]⟩) (.int .i64 (d : Int))).run Try.prog W = .ok (.int .u8 (((sgn d).toNat : Nat) : Int)) W := by
  have h2 := signs64_at ⟨d, h⟩
  obtain ⟨h3, h4⟩ := List.getElem?_eq_some_iff.1 h2
  show (Instr.index 9 (.string signs64) (.int .i64 (d : Int))).run Try.prog W = _
  rw [run_index_string W 9 signs64 .i64 (d : Int) Try.underlying9, dif_pos (by exact ⟨by omega, by show (d : Int) < 64; omega⟩)]
  rw [← h4]
  rfl
theorem index_str (s : ByteArray) (k : Nat) (h : k < s.size) (W : World) : (Instr.index 9 (.string s) (.int .i64 (k : Int))).run Try.prog W = .ok (.int .u8 ((((s[k]'h).toNat : Nat)) : Int)) W := by
  rw [run_index_string W 9 s .i64 (k : Int) Try.underlying9, dif_pos (by exact ⟨by omega, by omega⟩)]
  rfl
theorem andk_i (x k : Nat) (h : x < 4096) (hk : k ≤ 12) : bits .and .i64 (x : Int) ((2 ^ k - 1 : Nat) : Int) = ((x % 2 ^ k : Nat) : Int) := by
  have hp : 2 ^ k ≤ 2 ^ 12 := Nat.pow_le_pow_right (by decide) hk
  have h1 : (BitVec.ofInt 64 (x : Int)).toNat = x := by
    rw [BitVec.ofInt_natCast, BitVec.toNat_ofNat]; exact Nat.mod_eq_of_lt (by omega)
  have h2 : (BitVec.ofInt 64 ((2 ^ k - 1 : Nat) : Int)).toNat = 2 ^ k - 1 := by
    rw [BitVec.ofInt_natCast, BitVec.toNat_ofNat]; exact Nat.mod_eq_of_lt (by omega)
  show IntKind.i64.wrap ((BitVec.ofInt 64 (x : Int) &&& BitVec.ofInt 64 ((2 ^ k - 1 : Nat) : Int)).toNat : Int) = _
  rw [BitVec.toNat_and, h1, h2, Nat.and_two_pow_sub_one_eq_mod, IntKind.wrap_i64]
  have := Nat.mod_le x (2 ^ k)
  omega
structure UnR (s : ByteArray) (x n pos : Nat) (a : List UInt8) : Prop where
  eq : runU (0, 0, []) (s.data.toList.take pos) = some (x, n, a)
  hn : n = 0 ∨ n = 2 ∨ n = 4 ∨ n = 6
  hx : x < 2 ^ n
  len : a.length ≤ pos
set_option maxRecDepth 100000 in
set_option maxHeartbeats 4000000 in
theorem unbase_any (s : ByteArray) (w : World) (hs : s.size ≤ 1000000) :
    Calls Try.prog 11 #[.string s] w fun e w' => e = .returned (.tuple #[.string ⟨((getS s.data.toList).getD []).toArray⟩, .bool (getS s.data.toList).isSome]) ∧ Below w.heap.size w w' := by
  have hl : s.data.toList.length = s.size := size_list s
  obtain ⟨Z, hZ⟩ : ∃ Z : ByteArray, Z = ⟨((getS s.data.toList).getD []).toArray⟩ := ⟨_, rfl⟩
  obtain ⟨Y, hY⟩ : ∃ Y : Bool, Y = (getS s.data.toList).isSome := ⟨_, rfl⟩
  rw [← hZ, ← hY]
  have HZ := Lib.hid (And.intro hZ hY)
  clear hZ hY
  have B0 : Hid (Below w.heap.size w w) := Lib.hid (Below.refl _ w)
  obtain ⟨B, hB⟩ : ∃ B, B = w.heap.size := ⟨_, rfl⟩
  rw [← hB] at B0 ⊢
  have HB := Lib.hid hB
  clear hB
  go_enter Try.func11, Try.ntmps11
  go_wp2_with fail
  go_loopw [4, 5, 6, 7] (fun x y o i wr => ∃ (pos h n : Nat) (a : List UInt8), x = .int .i64 h ∧ y = .int .i64 n ∧ o = .string ⟨a.toArray⟩ ∧ i = .int .i64 pos ∧ pos ≤ s.size ∧ Hid (UnR s h n pos a) ∧ Hid (Below B w wr)) (fun _ _ _ i _ => s.size - (RowKit.intOf i).toNat)
  case atStart => exact ⟨0, 0, 0, [], rfl, rfl, rfl, rfl, Nat.zero_le _, Lib.hid { eq := rfl, hn := .inl rfl, hx := by decide, len := Nat.le_refl _ }, B0⟩
  case round =>
    obtain ⟨pos, h, n, a, rfl, rfl, rfl, rfl, hpos, HR, HBl⟩ := hrel
    clear B0
    by_cases hp : pos < s.size
    · obtain ⟨c, hc⟩ : ∃ c : UInt8, c = s[pos]'hp := ⟨_, rfl⟩
      have hix : ∀ W : World, (Instr.index 9 (.string s) (.int .i64 (pos : Int))).run Try.prog W = .ok (.int .u8 ((c.toNat : Nat) : Int)) W := by
        rw [hc]
        exact index_str s pos hp
      have HC := Lib.hid hc
      clear hc
      have HIX := Lib.hid hix
      clear hix
      go_wp2_with fail
      go_loopw [8, 9] (fun d k wq => ∃ j : Nat, d = .int .i64 (dOf c j) ∧ k = .int .i64 j ∧ j ≤ 64 ∧ Hid (Below B w wq)) (fun _ k _ => 64 - (RowKit.intOf k).toNat)
      case atStart => exact ⟨0, rfl, rfl, by omega, HBl⟩
      case round =>
        obtain ⟨j, rfl, rfl, hj, HBq⟩ := hrel
        by_cases h64 : j < 64
        · have hsg := sign_at64 j h64
          have hix := HIX.out
          have HD : Hid (dOf c (j + 1) = if sgn j = c then (j : Int) else dOf c j) := Lib.hid rfl
          generalize dOf c j = D at *
          by_cases he : sgn j = c
          · have heq : ((((sgn j).toNat : Nat) : Int) == ((c.toNat : Nat) : Int)) = true := by rw [he]; exact beq_self_eq_true _
            rw [if_pos he] at HD
            clear he
            have h64i : (j : Int) < 64 := by omega
            go_wp2_with fail
            go_quiet (fail)
            have HBr : Hid (Below B w (wr.drewN nq)) := Lib.hid (below_drewN HBq.out nq)
            generalize wr.drewN nq = wz at HBr ⊢
            go_wp2_with fail
            go_roundw
            case rel => exact ⟨j + 1, by rw [HD.out], by go_num, by omega, HBr⟩
            case measure =>
              simp only [RowKit.intOf]
              omega
          · have heq : ((((sgn j).toNat : Nat) : Int) == ((c.toNat : Nat) : Int)) = false := by
              apply beq_false_of_ne
              intro h1
              exact he (UInt8.toNat_inj.1 (by omega))
            rw [if_neg he] at HD
            clear he
            have h64i : (j : Int) < 64 := by omega
            go_wp2_with fail
            go_quiet (fail)
            have HBr : Hid (Below B w (wr.drewN nq)) := Lib.hid (below_drewN HBq.out nq)
            generalize wr.drewN nq = wz at HBr ⊢
            go_wp2_with fail
            go_roundw
            case rel => exact ⟨j + 1, by rw [HD.out], by go_num, by omega, HBr⟩
            case measure =>
              simp only [RowKit.intOf]
              omega
        · obtain rfl : j = 64 := by omega
          cases hv : valS c.toNat with
          | none =>
            rw [dOf_none c hv]
            have HN : Hid (getS s.data.toList = none) := Lib.hid (getS_other _ c (by rw [HC.out]; exact List.getElem_mem _) hv)
            have hY : Y = false := by rw [HZ.out.2, HN.out]; rfl
            have hZ : Z = ⟨#[]⟩ := by rw [HZ.out.1, HN.out]; rfl
            subst hY hZ
            go_wp2_with fail
            go_ret2
            exact ⟨rfl, HBq.out⟩
          | some d =>
            rw [dOf_some c d hv]
            have hd : d < 64 := (sgn_val _ _ hv).1
            have HS : Hid (runU (0, 0, []) (s.data.toList.take (pos + 1)) = some (stepU (h, n, a) d)) := Lib.hid (by
              rw [List.take_add_one, show s.data.toList[pos]? = some c by rw [List.getElem?_eq_getElem (by omega), HC.out]; rfl, Option.toList_some]
              exact runU_snoc _ _ d _ HR.out.eq hv)
            have hlen := HR.out.len
            have hn := HR.out.hn
            have hx := HR.out.hx
            clear hv HC HBl HIX
            rcases hn with rfl | rfl | rfl | rfl
            · have hx : h < 1 := hx
              have HS2 : Hid (UnR s (h * 64 + d) 6 (pos + 1) a) := Lib.hid { eq := HS.out, hn := .inr (.inr (.inr rfl)), hx := by show h * 64 + d < 64; omega, len := by omega }
              clear HS HR
              have HL := Lib.hid hlen
              clear hlen
              go_wp2_with fail
              refine ⟨⟨pos + 1, h * 64 + d, 6, a, by go_num, by go_num, rfl, by go_num, hp, HS2, HBq⟩, ?_⟩
              simp only [RowKit.intOf]
              omega
            · have hx : h < 4 := hx
              have hS := HS.out
              rw [step2] at hS
              generalize hX : h * 64 + d = X at hS
              have hXl : X < 256 := by omega
              have hXi : (h : Int) * 64 + (d : Int) = (X : Int) := by omega
              have hc : (UInt8.ofNat (X)).toNat = X := u8_nat _ (by omega)
              have hci : (X : Int) = (((UInt8.ofNat (X)).toNat : Nat) : Int) := by rw [hc]
              have ha : bits .and .i64 (X : Int) 0 = ((0 : Nat) : Int) := by
                have := andk_i X 0 (by omega) (by decide)
                simpa [Nat.mod_one] using this
              have HCO := Lib.hid (conv_one (UInt8.ofNat (X)) _ hci _ rfl)
              generalize UInt8.ofNat (X) = b at hS HCO
              have HS2 : Hid (UnR s (0) 0 (pos + 1) (a ++ [b])) := Lib.hid { eq := hS, hn := .inl rfl, hx := by show 0 < 1; omega, len := by rw [List.length_append]; simp; omega }
              have HAB : Hid ((⟨a.toArray⟩ : ByteArray) ++ ⟨[b].toArray⟩ = ⟨(a ++ [b]).toArray⟩) := Lib.hid (cat_of _ _)
              have hab : ((⟨a.toArray⟩ : ByteArray).size : Int) ≤ 1000000 := by rw [size_of]; omega
              have hbs : ((⟨[b].toArray⟩ : ByteArray).size : Int) = 1 := by rw [size_of]; rfl
              generalize (⟨[b].toArray⟩ : ByteArray) = bz at HCO HAB hbs
              have HL := Lib.hid hlen
              have hcc := HCO.out
              clear HS HR hS hlen hc hci
              have HX : Hid (h * 64 + d = X) := Lib.hid hX
              go_wp2_with fail
              refine ⟨⟨pos + 1, 0, 0, a ++ [b], by go_num, by go_num, by rw [HAB.out], by go_num, hp, HS2, Lib.hid (HBq.out.alloc (by have := HB.out; have := HBq.out.size; omega) _)⟩, ?_⟩
              simp only [RowKit.intOf]
              omega
            · have hx : h < 16 := hx
              have hS := HS.out
              rw [step4] at hS
              generalize hX : h * 64 + d = X at hS
              have hXl : X < 1024 := by omega
              have hXi : (h : Int) * 64 + (d : Int) = (X : Int) := by omega
              have hc : (UInt8.ofNat (X / 4)).toNat = X / 4 := u8_nat _ (by omega)
              have hci : (X : Int) / 4 = (((UInt8.ofNat (X / 4)).toNat : Nat) : Int) := by rw [hc]; simp
              have ha : bits .and .i64 (X : Int) 3 = ((X % 4 : Nat) : Int) := by
                have := andk_i X 2 (by omega) (by decide)
                simpa using this
              have HCO := Lib.hid (conv_one (UInt8.ofNat (X / 4)) _ hci _ rfl)
              generalize UInt8.ofNat (X / 4) = b at hS HCO
              have HS2 : Hid (UnR s (X % 4) 2 (pos + 1) (a ++ [b])) := Lib.hid { eq := hS, hn := .inr (.inl rfl), hx := by show X % 4 < 4; omega, len := by rw [List.length_append]; simp; omega }
              have HAB : Hid ((⟨a.toArray⟩ : ByteArray) ++ ⟨[b].toArray⟩ = ⟨(a ++ [b]).toArray⟩) := Lib.hid (cat_of _ _)
              have hab : ((⟨a.toArray⟩ : ByteArray).size : Int) ≤ 1000000 := by rw [size_of]; omega
              have hbs : ((⟨[b].toArray⟩ : ByteArray).size : Int) = 1 := by rw [size_of]; rfl
              generalize (⟨[b].toArray⟩ : ByteArray) = bz at HCO HAB hbs
              have HL := Lib.hid hlen
              have hcc := HCO.out
              clear HS HR hS hlen hc hci
              have HX : Hid (h * 64 + d = X) := Lib.hid hX
              go_wp2_with fail
              refine ⟨⟨pos + 1, X % 4, 2, a ++ [b], by go_num, by go_num, by rw [HAB.out], by go_num, hp, HS2, Lib.hid (HBq.out.alloc (by have := HB.out; have := HBq.out.size; omega) _)⟩, ?_⟩
              simp only [RowKit.intOf]
              omega
            · have hx : h < 64 := hx
              have hS := HS.out
              rw [step6] at hS
              generalize hX : h * 64 + d = X at hS
              have hXl : X < 4096 := by omega
              have hXi : (h : Int) * 64 + (d : Int) = (X : Int) := by omega
              have hc : (UInt8.ofNat (X / 16)).toNat = X / 16 := u8_nat _ (by omega)
              have hci : (X : Int) / 16 = (((UInt8.ofNat (X / 16)).toNat : Nat) : Int) := by rw [hc]; simp
              have ha : bits .and .i64 (X : Int) 15 = ((X % 16 : Nat) : Int) := by
                have := andk_i X 4 (by omega) (by decide)
                simpa using this
              have HCO := Lib.hid (conv_one (UInt8.ofNat (X / 16)) _ hci _ rfl)
              generalize UInt8.ofNat (X / 16) = b at hS HCO
              have HS2 : Hid (UnR s (X % 16) 4 (pos + 1) (a ++ [b])) := Lib.hid { eq := hS, hn := .inr (.inr (.inl rfl)), hx := by show X % 16 < 16; omega, len := by rw [List.length_append]; simp; omega }
              have HAB : Hid ((⟨a.toArray⟩ : ByteArray) ++ ⟨[b].toArray⟩ = ⟨(a ++ [b]).toArray⟩) := Lib.hid (cat_of _ _)
              have hab : ((⟨a.toArray⟩ : ByteArray).size : Int) ≤ 1000000 := by rw [size_of]; omega
              have hbs : ((⟨[b].toArray⟩ : ByteArray).size : Int) = 1 := by rw [size_of]; rfl
              generalize (⟨[b].toArray⟩ : ByteArray) = bz at HCO HAB hbs
              have HL := Lib.hid hlen
              have hcc := HCO.out
              clear HS HR hS hlen hc hci
              have HX : Hid (h * 64 + d = X) := Lib.hid hX
              go_wp2_with fail
              refine ⟨⟨pos + 1, X % 16, 4, a ++ [b], by go_num, by go_num, by rw [HAB.out], by go_num, hp, HS2, Lib.hid (HBq.out.alloc (by have := HB.out; have := HBq.out.size; omega) _)⟩, ?_⟩
              simp only [RowKit.intOf]
              omega
    · have he : ((pos : Int) < (s.size : Int)) = False := by
        apply eq_false
        omega
      obtain rfl : pos = s.size := by omega
      have hru := HR.out.eq
      rw [List.take_of_length_le (by omega)] at hru
      have HG : Hid ((Z = (if putS a = s.data.toList then (⟨a.toArray⟩ : ByteArray) else ⟨#[]⟩)) ∧ Y = decide (putS a = s.data.toList)) := Lib.hid (by
        have hg : getS s.data.toList = if putS a = s.data.toList then some a else none := by
          unfold getS
          rw [hru]
        rw [HZ.out.1, HZ.out.2, hg]
        by_cases hq : putS a = s.data.toList
        · rw [if_pos hq, if_pos hq]; exact ⟨rfl, (decide_eq_true hq).symm⟩
        · rw [if_neg hq, if_neg hq]; exact ⟨rfl, (decide_eq_false hq).symm⟩)
      have hr : Calls Try.prog 12 #[.string ⟨a.toArray⟩] wr fun e w' => e = .returned (.string ⟨(putS a).toArray⟩) ∧ wr = w' := rbase_any ⟨a.toArray⟩ wr (by rw [size_of]; have := HR.out.len; omega)
      have HRB := Lib.hid hr
      have HP : Hid ((putS a = s.data.toList) ↔ (⟨(putS a).toArray⟩ : ByteArray) = s) := Lib.hid ⟨fun h => by rw [h, list_bytes], fun h => by rw [← h]⟩
      clear hr hru HR
      generalize (⟨(putS a).toArray⟩ : ByteArray) = PA at HRB HP
      by_cases hq : putS a = s.data.toList
      · have hps := HP.out.1 hq
        have ht : (PA.toList == s.toList) = true := by rw [hps]; simp
        have h1 := HG.out.1
        have h2 := HG.out.2
        rw [if_pos hq] at h1
        rw [decide_eq_true hq] at h2
        clear hps hq
        generalize (⟨a.toArray⟩ : ByteArray) = AA at *
        subst h1 h2
        go_wp2_with fail
        refine HRB.out.mono ?_
        rintro e w2 ⟨rfl, rfl⟩
        go_wp2_with fail
        go_ret2
        exact ⟨rfl, HBl.out⟩
      · have ht : (PA.toList == s.toList) = false := by
          apply beq_false_of_ne
          intro h
          apply hq
          apply HP.out.2
          simp only [ByteArray.toList_eq] at h
          exact ByteArray.ext (Array.toList_inj.1 h)
        have h1 := HG.out.1
        have h2 := HG.out.2
        rw [if_neg hq] at h1
        rw [decide_eq_false hq] at h2
        clear hq
        subst h1 h2
        go_wp2_with fail
        refine HRB.out.mono ?_
        rintro e w2 ⟨rfl, rfl⟩
        go_wp2_with fail
        go_ret2
        exact ⟨rfl, HBl.out⟩
end Go.Proofs.Ytbnlcacjldnnjaa
