/-
  LAWS of chapter 12: the first call, JsonoutBlobs, JsonoutKeys, JsonoutPlain, JsonoutEnds; two Writers beside each other.
-/
import Derived.Test.YtkolebnjhndmkaaDoorGg
import Derived.Test.YtkolebnjhndmkaaDoorGi
import Derived.Test.YtkolebnjhndmkaaDoorGb
import Derived.Test.YtkolebnjhndmkaaDoorGf
import Derived.Test.YtkolebnjhndmkaaDoorGa
/-
  Documents written part by part: the machine of JoutPure over documents that Check lets by; no byte below 32; counts change nothing.
-/
namespace Go.Proofs.YtkolebnjhndmkaaDoor
open Go.RowKit
open Go.Lib
def ckO : Ck → Os
  | .live s => ⟨s, false⟩
  | _ => ⟨[], true⟩
theorem step_ckO {s : List Bx} {e : Ev} (h : ∀ f, stepC (.live s) e ≠ .bad f) : (stepO ⟨s, false⟩ e).1.2 = 0 ∧ (stepO ⟨s, false⟩ e).2 = ckO (stepC (.live s) e) := by
  obtain ⟨h1, h2⟩ := stepO_ck h
  refine ⟨h1, ?_⟩
  cases hc : stepC (.live s) e with
  | bad f => exact absurd hc (h f)
  | live s' => rw [hc] at h2; exact h2
  | done => rw [hc] at h2; exact h2
theorem run_ended {l : List Ev} (h : runC .done l = .done) : l = [] := by
  cases l with
  | nil => rfl
  | cons e l =>
    have : runC .done (e :: l) = runC (.bad 2) l := rfl
    rw [this, runC_bad] at h
    cases h
theorem stepC_may {s : List Bx} {e : Ev} (h : ∀ f, stepC (.live s) e ≠ .bad f) : mayE e := by
  by_cases hm : mayE e
  · exact hm
  · exact absurd (by simp only [stepC]; rw [if_pos hm]) (h 2)
theorem all_ckO : ∀ (l : List Ev) (s : List Bx), runC (.live s) l = .done → (allO ⟨s, false⟩ l).2 = 0
  | [], s, h => by cases h
  | e :: l, s, h => by
    have hr : runC (.live s) (e :: l) = runC (stepC (.live s) e) l := rfl
    rw [hr] at h
    have hb : ∀ f, stepC (.live s) e ≠ .bad f := fun f hf => by
      rw [hf, runC_bad] at h
      cases h
    obtain ⟨h1, h2⟩ := step_ckO hb
    rw [allO_cons_ok (stepC_may hb) h1, h2]
    show (allO (ckO (stepC (.live s) e)) l).2 = 0
    cases hc : stepC (.live s) e with
    | bad f => exact absurd hc (hb f)
    | live s' =>
      rw [hc] at h
      exact all_ckO l s' h
    | done =>
      rw [hc] at h
      rw [run_ended h]
      rfl
/-! ### No byte below 32 -/
theorem outB_inside (e : Ev) (x : UInt8) (h : x ∈ outB e) : 32 ≤ x.toNat := by
  unfold outB at h
  split at h
  · simp only [List.cons_append, List.mem_cons, List.mem_append, List.not_mem_nil, or_false] at h
    rcases h with rfl | h | rfl
    · decide
    · obtain ⟨d, hd, rfl⟩ := putS_signs _ x h
      have : ∀ d : Fin 64, 32 ≤ (sgn d.val).toNat := by decide +kernel
      exact this ⟨d, hd⟩
    · decide
  · unfold outW at h
    split at h
    · simp at h; rcases h with rfl | rfl | rfl <;> decide
    · split at h
      · split at h
        · simp at h; rcases h with rfl | rfl | rfl | rfl <;> decide
        · simp at h; rcases h with rfl | rfl | rfl | rfl | rfl <;> decide
      · split at h
        · unfold printD at h
          split at h
          · rcases List.mem_cons.1 h with rfl | h
            · decide
            · have := dec_bytes _ x h
              omega
          · have := dec_bytes _ x h
            omega
        · split at h
          · simp only [List.cons_append, List.mem_cons, List.mem_append, List.not_mem_nil, or_false] at h
            rcases h with rfl | h | rfl
            · decide
            · exact escW_inside _ x h
            · decide
          · split at h
            · simp at h; subst h; decide
            · simp at h; subst h; decide
theorem sepW_inside (s : List Bx) (x : UInt8) (h : x ∈ sepW s) : 32 ≤ x.toNat := by
  unfold sepW at h
  split at h
  · simp at h
  · split at h
    · simp at h
    · split at h
      · simp at h; subst h; decide
      · simp at h; subst h; decide
theorem stepO_inside (q : Os) (e : Ev) (x : UInt8) (h : x ∈ (stepO q e).1.1) : 32 ≤ x.toNat := by
  unfold stepO at h
  split at h
  · simp at h
  · split at h
    · split at h
      · simp at h
      · split at h
        · simp at h
        · simp only [List.mem_singleton] at h
          subst h
          split <;> decide
    · split at h
      · simp at h
      · split at h
        · rcases List.mem_append.1 h with h | h
          · exact sepW_inside _ x h
          · simp only [List.mem_singleton] at h
            subst h
            split <;> decide
        · rcases List.mem_append.1 h with h | h
          · exact sepW_inside _ x h
          · exact outB_inside _ x h
theorem allO_inside : ∀ (l : List Ev) (q : Os) (x : UInt8), x ∈ (allO q l).1 → 32 ≤ x.toNat
  | [], q, x, h => by simp [allO] at h
  | e :: l, q, x, h => by
    by_cases hm : mayE e
    · by_cases h0 : (stepO q e).1.2 = 0
      · rw [allO_cons_ok hm h0] at h
        rcases List.mem_append.1 h with h | h
        · exact stepO_inside q e x h
        · exact allO_inside l _ x h
      · rw [allO_cons_err hm h0] at h
        simp at h
    · rw [allO_cons_bad hm] at h
      simp at h
/-! ### Counts change nothing -/
def dropB (b : Bx) : Bx := ⟨b.map, -1, b.have_⟩
def dropC (s : List Bx) : List Bx := s.map dropB
theorem key_drop (s : List Bx) : keyB (dropC s) = keyB s := by cases s <;> rfl
theorem sep_drop (s : List Bx) : sepW (dropC s) = sepW s := by cases s <;> rfl
theorem inc_drop (s : List Bx) : incB (dropC s) = dropC (incB s) := by cases s <;> rfl
theorem empty_drop (s : List Bx) : (dropC s).isEmpty = s.isEmpty := by cases s <;> rfl
theorem openE_k (e : Ev) : (openE e).k = e.k := by unfold openE; split <;> rfl
theorem openE_may {e : Ev} (h : mayE e) : mayE (openE e) := by
  have h1 := h.1
  have h2 := h.2.1
  refine ⟨by rw [openE_k]; exact h1, by rw [openE_k]; exact h2, fun h5 => ?_⟩
  rw [openE_k] at h5
  unfold openE
  rw [if_pos h5]
  show (-1 : Int) ≤ -1
  omega
theorem step_drop (q : Os) (e : Ev) (hm : mayE e) : stepO ⟨dropC q.s, q.dn⟩ (openE e) = ((stepO q e).1, ⟨dropC (stepO q e).2.s, (stepO q e).2.dn⟩) := by
  obtain ⟨s, dn⟩ := q
  have hm' := openE_may hm
  have hk := openE_k e
  cases dn with
  | true => rw [stepO_bad _ _ (.inr rfl), stepO_bad ⟨s, true⟩ e (.inr rfl)]
  | false =>
    by_cases h7 : e.k = 7
    · cases s with
      | nil =>
        rw [stepO_none hm h7]
        exact stepO_none hm' (by rw [hk]; exact h7)
      | cons x r =>
        by_cases ho : x.map = true ∧ x.have_ % 2 = 1
        · rw [stepO_odd hm h7 ho]
          exact stepO_odd (b := dropB x) (r := dropC r) hm' (by rw [hk]; exact h7) ho
        · rw [stepO_end hm h7 ho]
          have := stepO_end (b := dropB x) (r := dropC r) hm' (by rw [hk]; exact h7) ho
          rw [empty_drop] at this
          exact this
    · by_cases hkk : keyB s = true ∧ e.k ≠ 3
      · rw [stepO_key hm h7 hkk.1 hkk.2]
        exact stepO_key hm' (by rw [hk]; exact h7) (by show keyB (dropC s) = true; rw [key_drop]; exact hkk.1) (by rw [hk]; exact hkk.2)
      · by_cases h56 : e.k = 5 ∨ e.k = 6
        · have hkf : keyB s = false := by
            cases hq : keyB s with
            | false => rfl
            | true => exact absurd ⟨hq, by omega⟩ hkk
          rw [stepO_open hm h56 hkf]
          have := stepO_open (s := dropC s) hm' (by rw [hk]; exact h56) (by rw [key_drop]; exact hkf)
          rw [hk, sep_drop, inc_drop] at this
          have hc : (openE e).c = -1 := by unfold openE; rw [if_pos h56]
          rw [hc] at this
          exact this
        · rw [stepO_val hm h7 h56 hkk]
          have he : openE e = e := by unfold openE; rw [if_neg h56]
          rw [he]
          have := stepO_val (s := dropC s) hm h7 h56 (by rw [key_drop]; exact hkk)
          rw [sep_drop, inc_drop, empty_drop] at this
          exact this
theorem all_drop : ∀ (l : List Ev) (q : Os), (∀ e ∈ l, mayE e) → allO ⟨dropC q.s, q.dn⟩ (l.map openE) = allO q l
  | [], q, _ => rfl
  | e :: l, q, h => by
    have hm := h e (by simp)
    have hs := step_drop q e hm
    by_cases h0 : (stepO q e).1.2 = 0
    · rw [List.map_cons, allO_cons_ok (openE_may hm) (by rw [hs]; exact h0), allO_cons_ok hm h0, hs]
      simp only
      rw [all_drop l _ (fun x hx => h x (by simp [hx]))]
    · rw [List.map_cons, allO_cons_err (openE_may hm) (by rw [hs]; exact h0), allO_cons_err hm h0, hs]
/-! ### The first part writes something -/
theorem outB_ne (e : Ev) : outB e ≠ [] := by
  unfold outB
  split
  · simp
  · unfold outW
    split
    · simp
    · split
      · split <;> simp
      · split
        · unfold printD
          split
          · simp
          · exact dec_ne _
        · split
          · simp
          · split <;> simp
theorem first_ne (e : Ev) (l : List Ev) (h : (allO ⟨[], false⟩ (e :: l)).2 = 0) : (allO ⟨[], false⟩ (e :: l)).1 ≠ [] := by
  by_cases hm : mayE e
  · by_cases h0 : (stepO ⟨[], false⟩ e).1.2 = 0
    · rw [allO_cons_ok hm h0]
      have : (stepO ⟨[], false⟩ e).1.1 ≠ [] := by
        by_cases h7 : e.k = 7
        · rw [stepO_none hm h7] at h0
          cases h0
        · by_cases h56 : e.k = 5 ∨ e.k = 6
          · rw [stepO_open hm h56 rfl]
            simp
          · rw [stepO_val hm h7 h56 (fun hh => by cases hh.1)]
            simp [outB_ne]
      simp [this]
    · rw [allO_cons_err hm h0] at h
      exact absurd h h0
  · rw [allO_cons_bad hm] at h
    cases h
theorem allO_size : ∀ (l : List Ev) (q : Os), (∀ e ∈ l, e.m < 18446744073709551616 ∧ e.t.size ≤ 1000) → (allO q l).1.length ≤ 100001 * l.length
  | [], q, _ => by simp [allO]
  | e :: l, q, h => by
    by_cases hm : mayE e
    · by_cases h0 : (stepO q e).1.2 = 0
      · rw [allO_cons_ok hm h0]
        have h1 := step_size q e hm (h e (by simp)).1 (h e (by simp)).2
        have h2 := allO_size l (stepO q e).2 (fun x hx => h x (by simp [hx]))
        simp only [List.length_append, List.length_cons]
        omega
      · rw [allO_cons_err hm h0]
        simp
    · rw [allO_cons_bad hm]
      simp
end Go.Proofs.YtkolebnjhndmkaaDoor
/-
  LAWS of chapter 12: the first call (alive); JsonoutBlobs.
-/
namespace Go.Proofs.YtkolebnjhndmkaaDoor
open Go.RowKit
open Go.Lib
theorem joall_win {w : World} {a : Option Addr} {m cap : Nat} {T : TypeId} {L : List Ev} (h : Win w T 5 (.slice a m cap) m (evsC L)) (hm : L.length = m) (hn : m ≤ 900) (hok : ∀ e ∈ L, EvOk e ∧ e.t.size ≤ 1000) (hT : Tab w) :
    Calls Tryd.prog 17 #[.slice a m cap] w fun r w' => r = .returned (.tuple #[.string ⟨(allO ⟨[], false⟩ L).1.toArray⟩, .int .i64 ((allO ⟨[], false⟩ L).2 : Nat)]) ∧ Below w.heap.size w w' := by
  subst hm
  have := joall_any a L.length cap (getE L) w hn (evs_win h (Nat.le_refl _)) (fun i hi => by
    have : getE L i = L[i] := by simp [getE, hi]
    rw [this]
    exact hok _ (List.getElem_mem hi)) hT
  rwa [pre_getE] at this
def oList : List Ev := [⟨5, false, 0, ⟨#[]⟩, -1⟩, evZ, ⟨3, false, 0, ⟨#[97]⟩, 0⟩, ⟨7, false, 0, ⟨#[]⟩, 0⟩]
theorem o_list : evsC oList = [.int .i64 5, .bool false, .int .u64 0, .string ⟨#[]⟩, .int .i64 (-1), .int .i64 0, .bool false, .int .u64 0, .string ⟨#[]⟩, .int .i64 0, .int .i64 3, .bool false, .int .u64 0, .string ⟨#[97]⟩, .int .i64 0, .int .i64 7, .bool false, .int .u64 0, .string ⟨#[]⟩, .int .i64 0] := rfl
theorem o_ok : ∀ e ∈ oList, EvOk e ∧ e.t.size ≤ 1000 := by
  intro e he
  simp only [oList, evZ, List.mem_cons, List.not_mem_nil, or_false] at he
  rcases he with rfl | rfl | rfl | rfl
  all_goals exact ⟨ok_small _ _ _ _ _ (by decide) (by decide) (by decide) (by decide), by decide⟩
theorem o_all : allO ⟨[], false⟩ oList = ([91, 110, 117, 108, 108, 44, 34, 97, 34, 93], 0) := by decide +kernel
set_option maxRecDepth 100000 in
set_option maxHeartbeats 2000000 in
theorem oalive_any (w : World) (hT : Tab w) : Calls Tryd.prog 9 #[] w fun e w' => e = .returned (.bool true) ∧ Below w.heap.size w w' := by
  have hC : Calls Tryd.prog 17 #[.slice (some ⟨w.heap.size, 0, none⟩) 4 4] (w.alloc (.cells (evsC oList).toArray 34)) fun r w' => r = .returned (.tuple #[.string ⟨#[91, 110, 117, 108, 108, 44, 34, 97, 34, 93]⟩, .int .i64 0]) ∧ Below (w.alloc (.cells (evsC oList).toArray 34)).heap.size (w.alloc (.cells (evsC oList).toArray 34)) w' := by
    have := joall_win (win_list w oList 34 4 rfl (by omega)) rfl (by omega) o_ok (hT.alloc _)
    rwa [o_all] at this
  rw [o_list] at hC
  have HC := Lib.hid hC
  clear hC hT
  go_enter Tryd.func9, Tryd.ntmps9
  go_wp2_with fail
  refine HC.out.mono ?_
  rintro e w1 ⟨rfl, b1⟩
  have B1 := Lib.hid (up_trans (up_alloc (Below.refl _ _) _) b1)
  clear b1
  go_wp2
  go_ret
  exact ⟨rfl, B1.out⟩
set_option maxRecDepth 100000 in
set_option maxHeartbeats 4000000 in
theorem blobs_any (x : ByteArray) (w : World) (hT : Tab w) :
    Calls Tryd.prog 7 #[.string x] w fun e w' => e = .returned (.bool true) ∧ Below w.heap.size w w' := by
  have HA := Lib.hid (oalive_any w hT)
  by_cases hx : x.size ≤ 200
  · have c1 : ((200 : Int) < (x.size : Int)) = False := by simp; omega
    obtain ⟨P, hP⟩ : ∃ P, putS x.data.toList = P := ⟨_, rfl⟩
    have hPl : P.length ≤ 400 := by
      have := putS_length x.data.toList
      rw [size_list] at this
      rw [← hP]
      omega
    have hall : allO ⟨[], false⟩ [⟨4, false, 0, x, 0⟩] = (34 :: P ++ [34], 0) := by
      have hm : mayE ⟨4, false, 0, x, 0⟩ := ⟨by simp, by simp, by simp⟩
      have hs := stepO_val (s := []) hm (by simp) (by simp) (by simp [keyB])
      rw [allO_cons_ok hm (by rw [hs]), hs]
      simp [allO, sepW, outB, hP]
    have HC : Hid (∀ W, Tab W → Calls Tryd.prog 17 #[.slice (some ⟨W.heap.size, 0, none⟩) 1 1] (W.alloc (.cells #[.int .i64 4, .bool false, .int .u64 0, .string x, .int .i64 0] 34)) fun r w' => r = .returned (.tuple #[.string ⟨(34 :: P ++ [34]).toArray⟩, .int .i64 0]) ∧ Below (W.alloc (.cells #[.int .i64 4, .bool false, .int .u64 0, .string x, .int .i64 0] 34)).heap.size (W.alloc (.cells #[.int .i64 4, .bool false, .int .u64 0, .string x, .int .i64 0] 34)) w') := Lib.hid (fun W hW => by
      have := joall_win (win_list W [⟨4, false, 0, x, 0⟩] 34 1 rfl (by omega)) rfl (by omega) (fun e he => by
        simp only [List.mem_singleton] at he
        subst he
        exact ⟨⟨by constructor <;> simp, by simp, by constructor <;> simp, by show x.size ≤ _; omega⟩, by show x.size ≤ 1000; omega⟩) (hW.alloc _)
      rw [hall] at this
      simpa [evsC, evCells] using this)
    obtain ⟨S, hS⟩ : ∃ S : ByteArray, (⟨(34 :: P ++ [34]).toArray⟩ : ByteArray) = S := ⟨_, rfl⟩
    rw [hS] at HC
    have hSs : S.size = P.length + 2 := by rw [← hS, size_of]; simp
    have hI0 : ∀ W, (Instr.index 9 (.string S) (.int .i64 0)).run Tryd.prog W = .ok (.int .u8 34) W := fun W => by
      have := index_str S 0 (by omega) W
      simp only [Int.natCast_zero] at this
      rw [this]
      subst hS
      rfl
    have hlt : P.length + 1 < S.size := by omega
    have hI1 : ((((S[P.length + 1]'hlt).toNat : Nat) : Int) != 34) = false := by
      have hS2 : S[P.length + 1]'hlt = (34 :: P ++ [34])[P.length + 1]'(by simp) := by
        subst hS
        rfl
      rw [hS2]
      simp
    obtain ⟨Y, hY⟩ : ∃ Y : ByteArray, S.extract 1 (P.length + 1) = Y := ⟨_, rfl⟩
    have hYl : Y.data.toList = P := by
      rw [← hY, ext_list, ← hS]
      simp
    have hSl : ∀ W, (Instr.slice 9 (.string S) (some (.int .i64 1)) (some (.int .i64 ((P.length : Int) + 1))) none).run Tryd.prog W = .ok (.string Y) W := fun W => by
      have := slice_str_lh S 1 (P.length + 1) (by omega) (by omega) W
      rw [hY] at this
      exact this
    have HU : Hid (∀ W, Calls Tryd.prog 21 #[.string Y] W fun e w' => e = .returned (.tuple #[.string x, .bool true]) ∧ Below W.heap.size W w') := Lib.hid (fun W => by
      have := unbase_any Y W (by rw [← size_list, hYl]; omega)
      rw [hYl, ← hP, getS_put] at this
      simpa using this)
    have hz : (S.size : Int) = (P.length : Int) + 2 := by omega
    have c2 : ((P.length : Int) + 2 < 2) = False := by simp; omega
    have hw : (P.length : Int) + 2 - 1 = (P.length : Int) + 1 := by omega
    have he : (x.toList == x.toList) = true := by simp
    have HT : Hid (∀ w', Below w.heap.size w w' → Tab w') := Lib.hid (fun w' k => hT.below k)
    clear hT hP hall hS hY hYl hx hSs
    generalize P.length = p at *
    go_enter Tryd.func7, Tryd.ntmps7
    go_wp2_with fail
    refine HA.out.mono ?_
    rintro e w1 ⟨rfl, b1⟩
    have B1 := Lib.hid b1
    clear b1
    go_wp2_with fail
    refine (HC.out _ (HT.out _ B1.out)).mono ?_
    rintro e w2 ⟨rfl, b2⟩
    have B2 := Lib.hid (up_trans (up_alloc B1.out _) b2)
    clear b2
    go_wp2_with fail
    refine (HU.out _).mono ?_
    rintro e w3 ⟨rfl, b3⟩
    have B3 := Lib.hid (up_trans B2.out b3)
    clear b3
    go_wp2
    go_ret
    exact ⟨rfl, B3.out⟩
  · have c1 : ((200 : Int) < (x.size : Int)) = True := by simp; omega
    clear hx hT
    go_enter Tryd.func7, Tryd.ntmps7
    go_wp2_with fail
    refine HA.out.mono ?_
    rintro e w1 ⟨rfl, b1⟩
    have B1 := Lib.hid b1
    clear b1
    go_wp2
    go_ret
    exact ⟨rfl, B1.out⟩
end Go.Proofs.YtkolebnjhndmkaaDoor
/-
  LAWS of chapter 12: JsonoutKeys.
-/
namespace Go.Proofs.YtkolebnjhndmkaaDoor
open Go.RowKit
open Go.Lib
/-- STEP, its answer as it is. -/
theorem jw_to {w0 w : World} {b : Nat} {F : List Nat} {q : Os} (h : JW w0 w b F q) (hT : Tab w0) (hs : q.s.length ≤ 900) (e : Ev) (hm : mayE e) (hmag : e.m < 18446744073709551616) (ht : e.t.size ≤ 1000) {bs : List UInt8} {n : Nat} {q' : Os} (hq : stepO q e = ((bs, n), q')) {v : Value} (hv : valE e = v) :
    Calls Tryd.prog 11 #[.pointer (some ⟨b, 0, none⟩), v] w fun r w' => r = .returned (.tuple #[.string ⟨bs.toArray⟩, .int .i64 (n : Nat)]) ∧ ∃ F', JW w0 w' b F' q' ∧ Jf b 0 F F' w w' := by
  have := jw_step h hT hs e hm hmag ht
  rw [hq, hv] at this
  exact this
theorem small_ev (k : Int) (y : Bool) (t : ByteArray) (c : Int) (hk : 0 ≤ k ∧ k ≤ 7) (hc : -1 ≤ c) : mayE ⟨k, y, 0, t, c⟩ := ⟨hk.1, hk.2, fun _ => hc⟩
set_option maxRecDepth 100000 in
set_option maxHeartbeats 4000000 in
theorem keys_in (e : Ev) (hok : EvOk e) (x : ByteArray) (w : World) (hT : Tab w) (h1 : x.size ≤ 60) (h2 : e.t.size ≤ 100) :
    Calls Tryd.prog 8 #[evV e, .string x] w fun r w' => r = .returned (.bool true) ∧ Below w.heap.size w w' := by
  have c1 : ((60 : Int) < (x.size : Int)) = False := by simp; omega
  have c2 : ((100 : Int) < (e.t.size : Int)) = False := by simp; omega
  have HA : Hid (∀ X, Calls Tryd.prog 9 #[] (w.alloc X) fun r w' => r = .returned (.bool true) ∧ Below (w.alloc X).heap.size (w.alloc X) w') := Lib.hid (fun X => oalive_any _ (hT.alloc X))
  have HO := Lib.hid (fun W => of_any e W)
  have q1 : stepO ⟨[], false⟩ ⟨6, false, 0, ⟨#[]⟩, -1⟩ = (([123], 0), ⟨[⟨true, -1, 0⟩], false⟩) := by kernel_rfl
  have q3 : stepO ⟨[⟨true, -1, 0⟩], false⟩ ⟨3, false, 0, x, 0⟩ = ((34 :: escW x.data.toList ++ [34], 0), ⟨[⟨true, -1, 1⟩], false⟩) := by
    rw [stepO_val (small_ev 3 false x 0 (by omega) (by omega)) (by simp) (by simp) (by simp)]
    simp [sepW, outB, outW, incB]
  have q4 : stepO ⟨[⟨true, -1, 1⟩], false⟩ ⟨7, false, 0, ⟨#[]⟩, 0⟩ = (([], 14), ⟨[⟨true, -1, 1⟩], false⟩) := by kernel_rfl
  have q5 : stepO ⟨[⟨true, -1, 1⟩], false⟩ evZ = (([58, 110, 117, 108, 108], 0), ⟨[⟨true, -1, 2⟩], false⟩) := by kernel_rfl
  have q6 : stepO ⟨[⟨true, -1, 2⟩], false⟩ ⟨7, false, 0, ⟨#[]⟩, 0⟩ = (([125], 0), ⟨[], true⟩) := by kernel_rfl
  have H1 := Lib.hid (fun (U W : World) b F (hU : Tab U) (h : JW U W b F ⟨[], false⟩) => jw_to h hU (by simp) ⟨6, false, 0, ⟨#[]⟩, -1⟩ (small_ev 6 false _ _ (by omega) (by omega)) (by simp) (by decide) q1 (v := .iface 56 (.agg #[.bool true, .int .i64 (-1)])) rfl)
  have H3 := Lib.hid (fun (U W : World) b F (hU : Tab U) (h : JW U W b F ⟨[⟨true, -1, 0⟩], false⟩) => jw_to h hU (by simp) ⟨3, false, 0, x, 0⟩ (small_ev 3 false x 0 (by omega) (by omega)) (by simp) (by show x.size ≤ 1000; omega) q3 (v := .iface 57 (.string x)) rfl)
  have H4 := Lib.hid (fun (U W : World) b F (hU : Tab U) (h : JW U W b F ⟨[⟨true, -1, 1⟩], false⟩) => jw_to h hU (by simp) ⟨7, false, 0, ⟨#[]⟩, 0⟩ (small_ev 7 false _ _ (by omega) (by omega)) (by simp) (by decide) q4 (v := .iface 59 (.agg #[])) rfl)
  have H5 := Lib.hid (fun (U W : World) b F (hU : Tab U) (h : JW U W b F ⟨[⟨true, -1, 1⟩], false⟩) => jw_to h hU (by simp) evZ (small_ev 0 false _ _ (by omega) (by omega)) (by simp [evZ]) (by decide) q5 (v := .nilIface) rfl)
  have H6 := Lib.hid (fun (U W : World) b F (hU : Tab U) (h : JW U W b F ⟨[⟨true, -1, 2⟩], false⟩) => jw_to h hU (by simp) ⟨7, false, 0, ⟨#[]⟩, 0⟩ (small_ev 7 false _ _ (by omega) (by omega)) (by simp) (by decide) q6 (v := .iface 59 (.agg #[])) rfl)
  obtain ⟨Z, hZ⟩ : ∃ Z : ByteArray, (⟨(34 :: escW x.data.toList ++ [34]).toArray⟩ : ByteArray) = Z := ⟨_, rfl⟩
  rw [hZ] at H3
  have c3 : ((Z.size : Int) < 2) = False := by
    rw [← hZ, size_of]
    simp
    omega
  have c4 : ((2 : Int) ≤ (Z.size : Int)) = True := by
    rw [← hZ, size_of]
    simp
    omega
  clear q1 q3 q4 q5 q6 hZ h1
  by_cases hm : mayE e
  · rw [if_pos hm, decide_eq_true hm] at HO
    have tail : ∀ (W : World) (b : Nat) (F : List Nat), JW w W b F ⟨[⟨true, -1, 0⟩], false⟩ → True := fun _ _ _ _ => trivial
    by_cases hk : e.k ≠ 3 ∧ e.k ≠ 7
    · have hq2 : stepO ⟨[⟨true, -1, 0⟩], false⟩ e = (([], 8), ⟨[⟨true, -1, 0⟩], false⟩) := stepO_key hm hk.2 (by simp [keyB]) hk.1
      have H2 := Lib.hid (fun (U W : World) b F (hU : Tab U) (h : JW U W b F ⟨[⟨true, -1, 0⟩], false⟩) => jw_to h hU (by simp) e hm hok.2.1 (by omega) hq2 (v := valE e) rfl)
      have n3 : (e.k != 3) = true := by simpa using hk.1
      have n7 : (e.k != 7) = true := by simpa using hk.2
      generalize valE e = V at *
      obtain ⟨k, y, m, t, c⟩ := e
      simp only [evV] at *
      clear hm hk hok hq2 tail h2
      have HT : Hid (∀ X, Tab (w.alloc X)) := Lib.hid (fun X => hT.alloc X)
      have HFIN := Lib.hid (fun (X : Obj) W' (k : Below (w.alloc X).heap.size (w.alloc X) W') => up_trans (up_alloc (Below.refl w.heap.size w) X) k)
      have E0 := Lib.hid (blk_new w #[.int .i64 k, .bool y, .int .u64 m, .string t, .int .i64 c] 34)
      clear hT
      go_enter Tryd.func8, Tryd.ntmps8
      go_wp2_with fail
      refine (HA.out _).mono ?_
      rintro r w1 ⟨rfl, b1⟩
      obtain ⟨⟨z0, z1, z2, z3, z4⟩, ⟨y0, y1, y2, y3, y4⟩⟩ := (E0.out.go b1).ev
      have B1 := Lib.hid b1
      clear b1
      go_wp2_with fail
      refine (HO.out _).mono ?_
      rintro r w2 ⟨rfl, b2⟩
      have J2 := Lib.hid (jw_new (w.alloc (.cells #[.int .i64 k, .bool y, .int .u64 m, .string t, .int .i64 c] 34)) w2 (up_trans B1.out b2))
      clear b2 z0 z1 z2 z3 z4 y0 y1 y2 y3 y4
      go_wp2_with fail
      refine (H1.out _ _ _ _ (HT.out _) J2.out).mono ?_
      rintro r w3 ⟨rfl, F3, j3, f3⟩
      have J3 := Lib.hid j3
      obtain ⟨⟨z0, z1, z2, z3, z4⟩, ⟨y0, y1, y2, y3, y4⟩⟩ := (E0.out.go j3.bel).ev
      clear j3 f3
      go_wp2_with fail
      refine (H2.out _ _ _ _ (HT.out _) J3.out).mono ?_
      rintro r w4 ⟨rfl, F4, j4, f4⟩
      have J4 := Lib.hid j4
      clear j4 f4 z0 z1 z2 z3 z4 y0 y1 y2 y3 y4
      go_wp2_with fail
      refine (H3.out _ _ _ _ (HT.out _) J4.out).mono ?_
      rintro r w5 ⟨rfl, F5, j5, f5⟩
      have J5 := Lib.hid j5
      clear j5 f5
      go_wp2_with fail
      refine (H4.out _ _ _ _ (HT.out _) J5.out).mono ?_
      rintro r w6 ⟨rfl, F6, j6, f6⟩
      have J6 := Lib.hid j6
      clear j6 f6
      go_wp2_with fail
      refine (H5.out _ _ _ _ (HT.out _) J6.out).mono ?_
      rintro r w7 ⟨rfl, F7, j7, f7⟩
      have J7 := Lib.hid j7
      clear j7 f7
      go_wp2_with fail
      refine (H6.out _ _ _ _ (HT.out _) J7.out).mono ?_
      rintro r w8 ⟨rfl, F8, j8, f8⟩
      have J8 := Lib.hid j8
      clear j8 f8
      go_wp2_with fail
      refine (doneO J8.out.at_).mono ?_
      rintro r w9 ⟨rfl, rfl⟩
      go_wp2
      go_ret
      exact ⟨rfl, HFIN.out _ _ J8.out.bel⟩
    · have n37 : e.k = 3 ∨ e.k = 7 := by omega
      have key : ∀ K : Int, e.k = K → (K = 3 ∨ K = 7) → Calls Tryd.prog 8 #[evV e, .string x] w fun r w' => r = .returned (.bool true) ∧ Below w.heap.size w w' := by
        intro K hK hKK
        generalize valE e = V at *
        obtain ⟨k, y, m, t, c⟩ := e
        simp only [evV] at *
        subst hK
        have HT : Hid (∀ X, Tab (w.alloc X)) := Lib.hid (fun X => hT.alloc X)
        have HFIN := Lib.hid (fun (X : Obj) W' (k : Below (w.alloc X).heap.size (w.alloc X) W') => up_trans (up_alloc (Below.refl w.heap.size w) X) k)
        have E0 := Lib.hid (blk_new w #[.int .i64 k, .bool y, .int .u64 m, .string t, .int .i64 c] 34)
        clear hT hm hk hok tail h2 n37
        rcases hKK with rfl | rfl
        all_goals
          go_enter Tryd.func8, Tryd.ntmps8
          go_wp2_with fail
          refine (HA.out _).mono ?_
          rintro r w1 ⟨rfl, b1⟩
          obtain ⟨⟨z0, z1, z2, z3, z4⟩, ⟨y0, y1, y2, y3, y4⟩⟩ := (E0.out.go b1).ev
          have B1 := Lib.hid b1
          clear b1
          go_wp2_with fail
          refine (HO.out _).mono ?_
          rintro r w2 ⟨rfl, b2⟩
          have J2 := Lib.hid (jw_new _ w2 (up_trans B1.out b2))
          clear b2 z0 z1 z2 z3 z4 y0 y1 y2 y3 y4
          go_wp2_with fail
          refine (H1.out _ _ _ _ (HT.out _) J2.out).mono ?_
          rintro r w3 ⟨rfl, F3, j3, f3⟩
          have J3 := Lib.hid j3
          obtain ⟨⟨z0, z1, z2, z3, z4⟩, ⟨y0, y1, y2, y3, y4⟩⟩ := (E0.out.go j3.bel).ev
          clear j3 f3
          go_wp2_with fail
          refine (H3.out _ _ _ _ (HT.out _) J3.out).mono ?_
          rintro r w5 ⟨rfl, F5, j5, f5⟩
          have J5 := Lib.hid j5
          clear j5 f5 z0 z1 z2 z3 z4 y0 y1 y2 y3 y4
          go_wp2_with fail
          refine (H4.out _ _ _ _ (HT.out _) J5.out).mono ?_
          rintro r w6 ⟨rfl, F6, j6, f6⟩
          have J6 := Lib.hid j6
          clear j6 f6
          go_wp2_with fail
          refine (H5.out _ _ _ _ (HT.out _) J6.out).mono ?_
          rintro r w7 ⟨rfl, F7, j7, f7⟩
          have J7 := Lib.hid j7
          clear j7 f7
          go_wp2_with fail
          refine (H6.out _ _ _ _ (HT.out _) J7.out).mono ?_
          rintro r w8 ⟨rfl, F8, j8, f8⟩
          have J8 := Lib.hid j8
          clear j8 f8
          go_wp2_with fail
          refine (doneO J8.out.at_).mono ?_
          rintro r w9 ⟨rfl, rfl⟩
          go_wp2
          go_ret
          exact ⟨rfl, HFIN.out _ _ J8.out.bel⟩
      exact key e.k rfl n37
  · rw [if_neg hm, decide_eq_false hm] at HO
    obtain ⟨k, y, m, t, c⟩ := e
    simp only [evV] at *
    have E0 := Lib.hid (blk_new w #[.int .i64 k, .bool y, .int .u64 m, .string t, .int .i64 c] 34)
    have HFIN := Lib.hid (fun (X : Obj) W' (k : Below (w.alloc X).heap.size (w.alloc X) W') => up_trans (up_alloc (Below.refl w.heap.size w) X) k)
    clear hT hm hok h2
    go_enter Tryd.func8, Tryd.ntmps8
    go_wp2_with fail
    refine (HA.out _).mono ?_
    rintro r w1 ⟨rfl, b1⟩
    obtain ⟨⟨z0, z1, z2, z3, z4⟩, ⟨y0, y1, y2, y3, y4⟩⟩ := (E0.out.go b1).ev
    have B1 := Lib.hid b1
    clear b1
    go_wp2_with fail
    refine (HO.out _).mono ?_
    rintro r w2 ⟨rfl, b2⟩
    have B2 := Lib.hid (up_trans B1.out b2)
    clear b2
    go_wp2
    go_ret
    exact ⟨rfl, HFIN.out _ _ B2.out⟩
set_option maxRecDepth 100000 in
set_option maxHeartbeats 2000000 in
theorem keys_row (e : Ev) (hok : EvOk e) (x : ByteArray) (w : World) (hT : Tab w) :
    Calls Tryd.prog 8 #[evV e, .string x] w fun r w' => r = .returned (.bool true) ∧ Below w.heap.size w w' := by
  by_cases h1 : x.size ≤ 60
  · by_cases h2 : e.t.size ≤ 100
    · exact keys_in e hok x w hT h1 h2
    · have c1 : ((60 : Int) < (x.size : Int)) = False := by simp; omega
      have c2 : ((100 : Int) < (e.t.size : Int)) = True := by simp; omega
      have HA : Hid (∀ X, Calls Tryd.prog 9 #[] (w.alloc X) fun r w' => r = .returned (.bool true) ∧ Below w.heap.size w w') := Lib.hid (fun X => (oalive_any _ (hT.alloc X)).mono (by
        rintro r w' ⟨h1, h2⟩
        exact ⟨h1, up_trans (up_alloc (Below.refl _ _) X) h2⟩))
      obtain ⟨k, y, m, t, c⟩ := e
      simp only [evV] at *
      clear hT hok h1 h2
      go_enter Tryd.func8, Tryd.ntmps8
      go_wp2_with fail
      refine (HA.out _).mono ?_
      rintro r w1 ⟨rfl, b1⟩
      have B1 := Lib.hid b1
      clear b1
      go_wp2
      go_ret
      exact ⟨rfl, B1.out⟩
  · have c1 : ((60 : Int) < (x.size : Int)) = True := by simp; omega
    have HA : Hid (∀ X, Calls Tryd.prog 9 #[] (w.alloc X) fun r w' => r = .returned (.bool true) ∧ Below w.heap.size w w') := Lib.hid (fun X => (oalive_any _ (hT.alloc X)).mono (by
      rintro r w' ⟨h1, h2⟩
      exact ⟨h1, up_trans (up_alloc (Below.refl _ _) X) h2⟩))
    obtain ⟨k, y, m, t, c⟩ := e
    simp only [evV] at *
    clear hT hok h1
    go_enter Tryd.func8, Tryd.ntmps8
    go_wp2_with fail
    refine (HA.out _).mono ?_
    rintro r w1 ⟨rfl, b1⟩
    have B1 := Lib.hid b1
    clear b1
    go_wp2
    go_ret
    exact ⟨rfl, B1.out⟩
end Go.Proofs.YtkolebnjhndmkaaDoor
/-
  LAWS of chapter 12: JsonoutPlain.
-/
namespace Go.Proofs.YtkolebnjhndmkaaDoor
open Go.RowKit
open Go.Lib
theorem doc_run (n : Nat) (L : Nat → Int) (D : Nat) (hD : D ≤ 16) : runC (.live []) (itemD n L D 0).1 = .done := by
  have h := (doc_one false D n L hD).1
  rw [gE_false, List.map_id] at h
  exact check_zero h
theorem doc_e (n : Nat) (L : Nat → Int) (D : Nat) : ∀ e ∈ (itemD n L D 0).1, DocE e := docE_item n L D 0
theorem docE_may {e : Ev} (h : DocE e) : mayE e := by
  have h1 := h.kind
  have h2 := h.cnt
  exact ⟨by omega, by omega, fun _ => h2.1⟩
theorem docE_small {e : Ev} (h : DocE e) : EvOk e ∧ e.t.size ≤ 1000 := by
  refine ⟨h.ok, ?_⟩
  have := h.text.2
  rw [size_list] at this
  omega
set_option maxRecDepth 100000 in
set_option maxHeartbeats 8000000 in
theorem oplain_in (A : Option Addr) (n cp : Nat) (Li : Nat → Int) (w : World) (hT : Tab w) (hL : DLAt w w.heap.size A n Li) (hn : n ≤ 60) :
    Calls Tryd.prog 6 #[.slice A n cp] w fun r w' => r = .returned (.bool true) ∧ Below w.heap.size w w' := by
  have t1 : ((60 : Int) < (n : Int)) = False := by simp; omega
  have HAL := Lib.hid (oalive_any w hT)
  have HTB : Hid (∀ w', Below w.heap.size w w' → Tab w') := Lib.hid (fun w' k => hT.below k)
  have hrun := doc_run n Li 8 (by omega)
  have hde := doc_e n Li 8
  have hlen := item_length n Li 8
  have HDOC := Lib.hid (fun W (h : DLAt W W.heap.size A n Li) => doc_any A n cp Li 8 W h (by omega) (by omega) (cap16 8 (by omega)))
  have HLI := Lib.hid hL
  generalize (itemD n Li 8 0).1 = I at *
  have hfin := all_ckO I [] hrun
  have hins := allO_inside I ⟨[], false⟩
  have hdrop := all_drop I ⟨[], false⟩ (fun e he => docE_may (hde e he))
  have hdrop : allO ⟨[], false⟩ (I.map openE) = allO ⟨[], false⟩ I := hdrop
  have hsz := allO_size I ⟨[], false⟩ (fun e he => ⟨(docE_small (hde e he)).1.2.1, (docE_small (hde e he)).2⟩)
  have hne : (allO ⟨[], false⟩ I).1 ≠ [] := by
    cases I with
    | nil => simp at hlen
    | cons e l => exact first_ne e l hfin
  have HALL1 := Lib.hid (fun W a c (h : Win W 34 5 (.slice a I.length c) I.length (evsC I)) (hT : Tab W) => joall_win h rfl (by omega) (fun e he => docE_small (hde e he)) hT)
  have HALL2 := Lib.hid (fun W a c (h : Win W 34 5 (.slice a I.length c) I.length (evsC (I.map openE))) (hT : Tab W) => joall_win h (by simp) (by omega) (fun e he => by
    obtain ⟨x, hx, rfl⟩ := List.mem_map.1 he
    exact docE_small (docE_open (hde x hx)).1) hT)
  have HOP : Hid (∀ W a c, Win W 34 5 (.slice a I.length c) I.length (evsC I) → Calls Tryd.prog 20 #[.slice a I.length c] W fun r w' => ∃ v, r = .returned v ∧ Made W w' v I.length (I.map openE)) := Lib.hid (fun W a c h => by
    have := dopen_any a I.length c (getE I) W (by omega) (evs_win h (Nat.le_refl _))
    rwa [pre_getE] at this)
  rw [hdrop, hfin] at HALL2
  rw [hfin] at HALL1
  generalize (allO ⟨[], false⟩ I).1 = X at *
  generalize I.map openE = I2 at *
  generalize I.length = N at *
  obtain ⟨S, hS⟩ : ∃ S : ByteArray, (⟨X.toArray⟩ : ByteArray) = S := ⟨_, rfl⟩
  rw [hS] at HALL1 HALL2
  have hSl : S.size = X.length := by rw [← hS]; exact size_of X
  have hat : ∀ (i : Nat) (h : i < S.size), ((((S[i]'h).toNat : Nat) : Int) < 32) = False := by
    intro i h
    have : S[i]'h = X[i]'(by omega) := by subst hS; rfl
    rw [this]
    have := hins _ (List.getElem_mem (by omega : i < X.length))
    simp
    omega
  have hSt : S.toList = X := by rw [← hS, ByteArray.toList_eq]
  have he1 : (S.toList == S.toList) = true := by simp
  have he2 : (S.toList = []) = False := by rw [hSt]; simp [hne]
  have he3 : S.toList.isEmpty = false := by rw [hSt]; cases X with | nil => exact absurd rfl hne | cons => rfl
  have hs9 : S.size ≤ 100001 * 482 := by rw [hSl]; omega
  have HAT := Lib.hid hat
  clear hT hL hrun hde hlen hfin hins hdrop hsz hne hS hSl hat hSt hn
  go_enter Tryd.func6, Tryd.ntmps6
  go_wp2_with fail
  refine HAL.out.mono ?_
  rintro e w1 ⟨rfl, b1⟩
  have B1 := Lib.hid b1
  have HL1 := Lib.hid (show DLAt w1 w1.heap.size A n Li from fun h0 => by
    obtain ⟨b, off, h1, h2, h3⟩ := HLI.out.below b1 h0
    exact ⟨b, off, h1, Nat.lt_of_lt_of_le h2 b1.size, h3⟩)
  clear b1
  go_wp2_with fail
  refine (HDOC.out _ HL1.out).mono ?_
  rintro r w2 ⟨v2, rfl, hM2⟩
  obtain ⟨a2, c2, rfl, _, _⟩ := hM2.2.1.slice_form
  have B2 := Lib.hid (up_trans B1.out hM2.1)
  have HM2 := Lib.hid hM2.2.1
  clear hM2
  go_wp2_with fail
  refine (HALL1.out _ _ _ HM2.out (HTB.out _ B2.out)).mono ?_
  rintro r w3 ⟨rfl, b3⟩
  have B3 := Lib.hid (up_trans B2.out b3)
  have HM3 := Lib.hid (HM2.out.keep fun k hk => b3.block k (HM2.out.lt k hk))
  clear b3
  go_wp2_with fail
  refine (HOP.out _ _ _ HM3.out).mono ?_
  rintro r w4 ⟨v4, rfl, hM4⟩
  obtain ⟨a4, c4, rfl, _, _⟩ := hM4.2.1.slice_form
  have B4 := Lib.hid (up_trans B3.out hM4.1)
  have HM4 := Lib.hid hM4.2.1
  clear hM4
  go_wp2_with fail
  refine (HALL2.out _ _ _ HM4.out (HTB.out _ B4.out)).mono ?_
  rintro r w5 ⟨rfl, b5⟩
  have B5 := Lib.hid (up_trans B4.out b5)
  clear b5
  go_wp2
  go_loopw [8] (fun i wr => ∃ j : Nat, i = .int .i64 j ∧ j ≤ S.size ∧ wr = w5) (fun i _ => S.size - (RowKit.intOf i).toNat)
  case atStart => exact ⟨0, rfl, Nat.zero_le _, rfl⟩
  case round =>
    obtain ⟨j, rfl, hj, rfl⟩ := hrel
    by_cases hlt : j < S.size
    · have z1 := HAT.out j hlt
      go_wp2
      go_roundw
      case rel => exact ⟨j + 1, rfl, hlt, by first | rfl | trivial⟩
      case measure => simp [RowKit.intOf]; omega
    · go_wp2
      go_ret
      exact ⟨rfl, B5.out⟩
set_option maxRecDepth 100000 in
set_option maxHeartbeats 2000000 in
theorem oplain_row (A : Option Addr) (n cp : Nat) (Li : Nat → Int) (w : World) (hT : Tab w) (hL : DLAt w w.heap.size A n Li) :
    Calls Tryd.prog 6 #[.slice A n cp] w fun r w' => r = .returned (.bool true) ∧ Below w.heap.size w w' := by
  by_cases hn : n ≤ 60
  · exact oplain_in A n cp Li w hT hL hn
  · have t1 : ((60 : Int) < (n : Int)) = True := by simp; omega
    have HA := Lib.hid (oalive_any w hT)
    clear hT hL hn
    go_enter Tryd.func6, Tryd.ntmps6
    go_wp2_with fail
    refine HA.out.mono ?_
    rintro r w1 ⟨rfl, b1⟩
    have B1 := Lib.hid b1
    clear b1
    go_wp2
    go_ret
    exact ⟨rfl, B1.out⟩
end Go.Proofs.YtkolebnjhndmkaaDoor
/-
  LAWS of chapter 12: JsonoutEnds.
-/
namespace Go.Proofs.YtkolebnjhndmkaaDoor
open Go.RowKit
open Go.Lib
/-- In the midst of a document, part by part: a Writer as Check's state. -/
structure EndI (w0 wr : World) (b : Nat) (L : List Ev) (j : Nat) (q : Os) (F : List Nat) : Prop where
  jw : JW w0 wr b F q
  st : q = ckO (runC (.live []) (L.take j))
  dep : q.s.length ≤ j
theorem EndI.live {w0 wr : World} {b : Nat} {L : List Ev} {j : Nat} {q : Os} {F : List Nat} (h : EndI w0 wr b L j q F) (hr : runC (.live []) L = .done) (hj : j < L.length) :
    q.dn = false ∧ (stepO q L[j]).1.2 = 0 ∧ (stepO q L[j]).2 = ckO (runC (.live []) (L.take (j + 1))) := by
  obtain ⟨s, hs, hb⟩ := live_at hr hj
  have hq := h.st
  rw [hs] at hq
  subst hq
  obtain ⟨h1, h2⟩ := step_ckO hb
  exact ⟨rfl, h1, by rw [runC_take hj, hs]; exact h2⟩
theorem EndI.next {w0 wr w2 : World} {b : Nat} {L : List Ev} {j : Nat} {q : Os} {F F2 : List Nat} (h : EndI w0 wr b L j q F) (hr : runC (.live []) L = .done) (hj : j < L.length) (hw : JW w0 w2 b F2 (stepO q L[j]).2) :
    EndI w0 w2 b L (j + 1) (stepO q L[j]).2 F2 := by
  refine ⟨hw, (h.live hr hj).2.2, ?_⟩
  have := ostep_len q L[j]
  have := h.dep
  omega
theorem EndI.over {w0 wr : World} {b : Nat} {L : List Ev} {j : Nat} {q : Os} {F : List Nat} (h : EndI w0 wr b L j q F) (hr : runC (.live []) L = .done) (hj : L.length ≤ j) : q = ⟨[], true⟩ := by
  have hq := h.st
  rw [List.take_of_length_le hj, hr] at hq
  exact hq
set_option maxRecDepth 100000 in
set_option maxHeartbeats 8000000 in
theorem oends_in (A : Option Addr) (n cp : Nat) (Li : Nat → Int) (e : Ev) (hok : EvOk e) (w : World) (hT : Tab w) (hL : DLAt w w.heap.size A n Li) (hn : n ≤ 50) (ht : e.t.size ≤ 100) :
    Calls Tryd.prog 5 #[.slice A n cp, evV e] w fun r w' => r = .returned (.bool true) ∧ Below w.heap.size w w' := by
  have t1 : ((50 : Int) < (n : Int)) = False := by simp; omega
  have t2 : ((100 : Int) < (e.t.size : Int)) = False := by simp; omega
  have HA : Hid (∀ X, Calls Tryd.prog 9 #[] (w.alloc X) fun r w' => r = .returned (.bool true) ∧ Below (w.alloc X).heap.size (w.alloc X) w') := Lib.hid (fun X => oalive_any _ (hT.alloc X))
  have HO := Lib.hid (fun W => of_any e W)
  have hrun := doc_run n Li 6 (by omega)
  have hde := doc_e n Li 6
  have hlen := item_length n Li 6
  have HDOC := Lib.hid (fun W (h : DLAt W W.heap.size A n Li) => doc_any A n cp Li 6 W h (by omega) (by omega) (cap16 6 (by omega)))
  have HLI := Lib.hid hL
  generalize (itemD n Li 6 0).1 = I at *
  have HRUN := Lib.hid hrun
  have HDE := Lib.hid hde
  obtain ⟨N, hN⟩ : ∃ N, I.length = N := ⟨_, rfl⟩
  rw [hN] at HDOC hlen
  have HN := Lib.hid hN
  have hN482 : N ≤ 482 := by omega
  have HT : Hid (∀ X, Tab (w.alloc X)) := Lib.hid (fun X => hT.alloc X)
  have HFIN := Lib.hid (fun (X : Obj) W' (k : Below (w.alloc X).heap.size (w.alloc X) W') => up_trans (up_alloc (Below.refl w.heap.size w) X) k)
  have hq2 : mayE e → stepO ⟨[], true⟩ e = (([], 14), ⟨[], true⟩) := fun hm => stepO_bad ⟨[], true⟩ e (.inr rfl)
  have H2 : Hid (∀ (hm : mayE e) (U W : World) b F (hU : Tab U) (h : JW U W b F ⟨[], true⟩), Calls Tryd.prog 11 #[.pointer (some ⟨b, 0, none⟩), valE e] W fun r w' => r = .returned (.tuple #[.string ⟨#[]⟩, .int .i64 14]) ∧ ∃ F', JW U w' b F' ⟨[], true⟩ ∧ Jf b 0 F F' W w') :=
    Lib.hid (fun hm U W b F hU h => jw_to h hU (by simp) e hm hok.2.1 (by omega) (hq2 hm) (v := valE e) rfl)
  have HEV : Hid (evV e = evV e) := Lib.hid rfl
  have hdec : (decide (mayE e) = true) ∨ (decide (mayE e) = false) := by cases decide (mayE e) <;> simp
  obtain ⟨V, hV⟩ : ∃ V, valE e = V := ⟨_, rfl⟩
  by_cases hm : mayE e
  · rw [if_pos hm, decide_eq_true hm, hV] at HO
    have H3 := Lib.hid (H2.out hm)
    rw [hV] at H3
    obtain ⟨k, y, m, t, c⟩ := e
    simp only [evV] at *
    have E0 := Lib.hid (blk_new w #[.int .i64 k, .bool y, .int .u64 m, .string t, .int .i64 c] 34)
    clear hT hrun hde hlen hN hL hn hok hq2 H2 hdec hV hm HEV ht
    go_enter Tryd.func5, Tryd.ntmps5
    go_wp2_with fail
    refine (HA.out _).mono ?_
    rintro r w1 ⟨rfl, b1⟩
    have B1 := Lib.hid b1
    have HL1 := Lib.hid (show DLAt w1 w1.heap.size A n Li from fun h0 => by
      obtain ⟨b, off, h1, h2, h3⟩ := HLI.out.below (up_trans (up_alloc (Below.refl _ _) _) b1) h0
      exact ⟨b, off, h1, Nat.lt_of_lt_of_le h2 (up_trans (up_alloc (Below.refl w.heap.size w) _) b1).size, h3⟩)
    clear b1
    go_wp2_with fail
    refine (HDOC.out _ HL1.out).mono ?_
    rintro r w2 ⟨v2, rfl, hM2⟩
    obtain ⟨a2, c2, rfl, _, _⟩ := hM2.2.1.slice_form
    have B2 := Lib.hid (up_trans B1.out hM2.1)
    have HE2 := Lib.hid (evs_win hM2.2.1 (n := N) (by rw [HN.out]; exact Nat.le_refl _))
    clear hM2
    have BW := Lib.hid (up_trans (up_alloc (Below.refl w.heap.size w) (.cells #[.int .i64 k, .bool y, .int .u64 m, .string t, .int .i64 c] 34)) B2.out)
    have TW := Lib.hid ((HT.out (.cells #[.int .i64 k, .bool y, .int .u64 m, .string t, .int .i64 c] 34)).below B2.out)
    have E2 := Lib.hid (E0.out.go B2.out)
    have H0 : Hid (EndI w2 (w2.alloc (.cells #[.int .i64 0, .slice none 0 0] 27)) w2.heap.size I 0 ⟨[], false⟩ []) := Lib.hid ⟨jw_new _ w2 (Below.refl _ _), rfl, by simp⟩
    clear E0 B1 B2 HL1
    go_wp2
    go_loopw [7, 8, 9, 10, 11, 36] (fun _ _ _ _ _ i wr => ∃ (j : Nat) (q : Os) (F : List Nat), i = .int .i64 j ∧ j ≤ N ∧ Hid (EndI w2 wr w2.heap.size I j q F)) (fun _ _ _ _ _ i _ => N - (RowKit.intOf i).toNat)
    case atStart => exact ⟨0, _, _, rfl, by omega, H0⟩
    case round =>
      obtain ⟨j, q, F, rfl, hj, HI⟩ := hrel
      clear H0
      by_cases hlt : j < N
      · have hjL : j < I.length := by rw [HN.out]; exact hlt
        obtain ⟨l1, l2, l3⟩ := HI.out.live HRUN.out hjL
        have hE := HDE.out _ (List.getElem_mem hjL)
        have HD := Lib.hid (doneO HI.out.jw.at_)
        rw [l1] at HD
        have HS : Hid (∀ W', Below wr.heap.size wr W' → Calls Tryd.prog 11 #[.pointer (some ⟨w2.heap.size, 0, none⟩), valE I[j]] W' fun r w' => r = .returned (.tuple #[.string ⟨(stepO q I[j]).1.1.toArray⟩, .int .i64 0]) ∧ ∃ F', EndI w2 w' w2.heap.size I (j + 1) (stepO q I[j]).2 F') := Lib.hid (fun W' kb => by
          have hs := jw_step (HI.out.jw.go kb) TW.out (by have := HI.out.dep; omega) I[j] (docE_may hE) (docE_small hE).1.2.1 (docE_small hE).2
          rw [l2] at hs
          refine hs.mono ?_
          rintro r w' ⟨h1, F', h2, h3⟩
          exact ⟨h1, F', HI.out.next HRUN.out hjL h2⟩)
        have HOj := Lib.hid (fun W => of_any I[j] W)
        rw [if_pos (docE_may hE), decide_eq_true (docE_may hE)] at HOj
        obtain ⟨g, off, rfl, hgb, x0, x1, x2, x3, x4⟩ := (HE2.out.below HI.out.jw.bel).cells hlt
        have hge : getE I j = I[j] := by simp [getE, hjL]
        rw [hge] at x0 x1 x2 x3 x4
        have hgb2 : g < wr.heap.size := Nat.lt_of_lt_of_le hgb HI.out.jw.bel.size
        generalize valE I[j] = Vj at *
        generalize (⟨(stepO q I[j]).1.1.toArray⟩ : ByteArray) = Zj at *
        generalize (stepO q I[j]).2 = qj at *
        generalize I[j] = ej at *
        obtain ⟨k', y', m', t', c'⟩ := ej
        simp only [evV] at x0 x1 x2 x3 x4 HOj
        clear l1 l2 l3 hE hge hgb hjL
        go_wp2_with fail
        refine HD.out.mono ?_
        rintro r w3 ⟨rfl, rfl⟩
        go_wp2_with fail
        refine (HOj.out _).mono ?_
        rintro r w4 ⟨rfl, b4⟩
        have B4 := Lib.hid b4
        clear b4
        go_wp2_with fail
        refine (HS.out _ B4.out).mono ?_
        rintro r w5 ⟨rfl, F5, h5⟩
        have H5 := Lib.hid h5
        clear h5
        go_wp2
        go_roundw
        case rel => exact ⟨j + 1, _, _, rfl, hlt, H5⟩
        case measure => simp [RowKit.intOf]; omega
      · obtain rfl : j = N := by omega
        have hq := HI.out.over HRUN.out (by rw [HN.out]; exact Nat.le_refl _)
        subst hq
        obtain ⟨⟨z0, z1, z2, z3, z4⟩, ⟨y0, y1, y2, y3, y4⟩⟩ := (E2.out.go HI.out.jw.bel).ev
        go_wp2_with fail
        refine (HO.out _).mono ?_
        rintro r w3 ⟨rfl, b3⟩
        have J3 := Lib.hid (HI.out.jw.go b3)
        clear b3 z0 z1 z2 z3 z4 y0 y1 y2 y3 y4
        go_wp2_with fail
        refine (H3.out _ _ _ _ TW.out J3.out).mono ?_
        rintro r w4 ⟨rfl, F4, j4, _⟩
        have J4 := Lib.hid j4
        clear j4
        go_wp2_with fail
        refine (doneO J4.out.at_).mono ?_
        rintro r w5 ⟨rfl, rfl⟩
        go_wp2
        go_ret
        exact ⟨rfl, up_trans BW.out J4.out.bel⟩
  · rw [if_neg hm, decide_eq_false hm] at HO
    obtain ⟨k, y, m, t, c⟩ := e
    simp only [evV] at *
    have E0 := Lib.hid (blk_new w #[.int .i64 k, .bool y, .int .u64 m, .string t, .int .i64 c] 34)
    clear hT hrun hde hlen hN hL hn hok hq2 H2 hdec hV hm HEV ht V
    go_enter Tryd.func5, Tryd.ntmps5
    go_wp2_with fail
    refine (HA.out _).mono ?_
    rintro r w1 ⟨rfl, b1⟩
    have B1 := Lib.hid b1
    have HL1 := Lib.hid (show DLAt w1 w1.heap.size A n Li from fun h0 => by
      obtain ⟨b, off, h1, h2, h3⟩ := HLI.out.below (up_trans (up_alloc (Below.refl _ _) _) b1) h0
      exact ⟨b, off, h1, Nat.lt_of_lt_of_le h2 (up_trans (up_alloc (Below.refl w.heap.size w) _) b1).size, h3⟩)
    clear b1
    go_wp2_with fail
    refine (HDOC.out _ HL1.out).mono ?_
    rintro r w2 ⟨v2, rfl, hM2⟩
    obtain ⟨a2, c2, rfl, _, _⟩ := hM2.2.1.slice_form
    have B2 := Lib.hid (up_trans B1.out hM2.1)
    have HE2 := Lib.hid (evs_win hM2.2.1 (n := N) (by rw [HN.out]; exact Nat.le_refl _))
    clear hM2
    have BW := Lib.hid (up_trans (up_alloc (Below.refl w.heap.size w) (.cells #[.int .i64 k, .bool y, .int .u64 m, .string t, .int .i64 c] 34)) B2.out)
    have TW := Lib.hid ((HT.out (.cells #[.int .i64 k, .bool y, .int .u64 m, .string t, .int .i64 c] 34)).below B2.out)
    have E2 := Lib.hid (E0.out.go B2.out)
    have H0 : Hid (EndI w2 (w2.alloc (.cells #[.int .i64 0, .slice none 0 0] 27)) w2.heap.size I 0 ⟨[], false⟩ []) := Lib.hid ⟨jw_new _ w2 (Below.refl _ _), rfl, by simp⟩
    clear E0 B1 B2 HL1
    go_wp2
    go_loopw [7, 8, 9, 10, 11, 36] (fun _ _ _ _ _ i wr => ∃ (j : Nat) (q : Os) (F : List Nat), i = .int .i64 j ∧ j ≤ N ∧ Hid (EndI w2 wr w2.heap.size I j q F)) (fun _ _ _ _ _ i _ => N - (RowKit.intOf i).toNat)
    case atStart => exact ⟨0, _, _, rfl, by omega, H0⟩
    case round =>
      obtain ⟨j, q, F, rfl, hj, HI⟩ := hrel
      clear H0
      by_cases hlt : j < N
      · have hjL : j < I.length := by rw [HN.out]; exact hlt
        obtain ⟨l1, l2, l3⟩ := HI.out.live HRUN.out hjL
        have hE := HDE.out _ (List.getElem_mem hjL)
        have HD := Lib.hid (doneO HI.out.jw.at_)
        rw [l1] at HD
        have HS : Hid (∀ W', Below wr.heap.size wr W' → Calls Tryd.prog 11 #[.pointer (some ⟨w2.heap.size, 0, none⟩), valE I[j]] W' fun r w' => r = .returned (.tuple #[.string ⟨(stepO q I[j]).1.1.toArray⟩, .int .i64 0]) ∧ ∃ F', EndI w2 w' w2.heap.size I (j + 1) (stepO q I[j]).2 F') := Lib.hid (fun W' kb => by
          have hs := jw_step (HI.out.jw.go kb) TW.out (by have := HI.out.dep; omega) I[j] (docE_may hE) (docE_small hE).1.2.1 (docE_small hE).2
          rw [l2] at hs
          refine hs.mono ?_
          rintro r w' ⟨h1, F', h2, h3⟩
          exact ⟨h1, F', HI.out.next HRUN.out hjL h2⟩)
        have HOj := Lib.hid (fun W => of_any I[j] W)
        rw [if_pos (docE_may hE), decide_eq_true (docE_may hE)] at HOj
        obtain ⟨g, off, rfl, hgb, x0, x1, x2, x3, x4⟩ := (HE2.out.below HI.out.jw.bel).cells hlt
        have hge : getE I j = I[j] := by simp [getE, hjL]
        rw [hge] at x0 x1 x2 x3 x4
        have hgb2 : g < wr.heap.size := Nat.lt_of_lt_of_le hgb HI.out.jw.bel.size
        generalize valE I[j] = Vj at *
        generalize (⟨(stepO q I[j]).1.1.toArray⟩ : ByteArray) = Zj at *
        generalize (stepO q I[j]).2 = qj at *
        generalize I[j] = ej at *
        obtain ⟨k', y', m', t', c'⟩ := ej
        simp only [evV] at x0 x1 x2 x3 x4 HOj
        clear l1 l2 l3 hE hge hgb hjL
        go_wp2_with fail
        refine HD.out.mono ?_
        rintro r w3 ⟨rfl, rfl⟩
        go_wp2_with fail
        refine (HOj.out _).mono ?_
        rintro r w4 ⟨rfl, b4⟩
        have B4 := Lib.hid b4
        clear b4
        go_wp2_with fail
        refine (HS.out _ B4.out).mono ?_
        rintro r w5 ⟨rfl, F5, h5⟩
        have H5 := Lib.hid h5
        clear h5
        go_wp2
        go_roundw
        case rel => exact ⟨j + 1, _, _, rfl, hlt, H5⟩
        case measure => simp [RowKit.intOf]; omega
      · obtain rfl : j = N := by omega
        have hq := HI.out.over HRUN.out (by rw [HN.out]; exact Nat.le_refl _)
        subst hq
        obtain ⟨⟨z0, z1, z2, z3, z4⟩, ⟨y0, y1, y2, y3, y4⟩⟩ := (E2.out.go HI.out.jw.bel).ev
        go_wp2_with fail
        refine (HO.out _).mono ?_
        rintro r w3 ⟨rfl, b3⟩
        have J3 := Lib.hid (HI.out.jw.go b3)
        clear b3 z0 z1 z2 z3 z4 y0 y1 y2 y3 y4
        go_wp2_with fail
        refine (doneO J3.out.at_).mono ?_
        rintro r w5 ⟨rfl, rfl⟩
        go_wp2
        go_ret
        exact ⟨rfl, up_trans BW.out J3.out.bel⟩
set_option maxRecDepth 100000 in
set_option maxHeartbeats 2000000 in
theorem oends_row (A : Option Addr) (n cp : Nat) (Li : Nat → Int) (e : Ev) (w : World) (hT : Tab w) (hL : DLAt w w.heap.size A n Li) (hok : EvOk e) :
    Calls Tryd.prog 5 #[.slice A n cp, evV e] w fun r w' => r = .returned (.bool true) ∧ Below w.heap.size w w' := by
  have HA : Hid (∀ X, Calls Tryd.prog 9 #[] (w.alloc X) fun r w' => r = .returned (.bool true) ∧ Below w.heap.size w w') := Lib.hid (fun X => (oalive_any _ (hT.alloc X)).mono (by
    rintro r w' ⟨h1, h2⟩
    exact ⟨h1, up_trans (up_alloc (Below.refl _ _) X) h2⟩))
  by_cases h1 : n ≤ 50
  · by_cases h2 : e.t.size ≤ 100
    · exact oends_in A n cp Li e hok w hT hL h1 h2
    · have c1 : ((50 : Int) < (n : Int)) = False := by simp; omega
      have c2 : ((100 : Int) < (e.t.size : Int)) = True := by simp; omega
      obtain ⟨k, y, m, t, c⟩ := e
      simp only [evV] at *
      clear hT hok h1 h2 hL
      go_enter Tryd.func5, Tryd.ntmps5
      go_wp2_with fail
      refine (HA.out _).mono ?_
      rintro r w1 ⟨rfl, b1⟩
      have B1 := Lib.hid b1
      clear b1
      go_wp2
      go_ret
      exact ⟨rfl, B1.out⟩
  · have c1 : ((50 : Int) < (n : Int)) = True := by simp; omega
    obtain ⟨k, y, m, t, c⟩ := e
    simp only [evV] at *
    clear hT hok h1 hL
    go_enter Tryd.func5, Tryd.ntmps5
    go_wp2_with fail
    refine (HA.out _).mono ?_
    rintro r w1 ⟨rfl, b1⟩
    have B1 := Lib.hid b1
    clear b1
    go_wp2
    go_ret
    exact ⟨rfl, B1.out⟩
end Go.Proofs.YtkolebnjhndmkaaDoor
/-
  TwoW Writers beside each other; the document's own Writer beside them.
-/
namespace Go.Proofs.YtkolebnjhndmkaaDoor
open Go.RowKit
open Go.Lib
/-- TwoW Writers of their own blocks. -/
structure TwoW (w0 w : World) (b1 b2 : Nat) (F1 F2 : List Nat) (q1 q2 : Os) : Prop where
  one : JW w0 w b1 F1 q1
  two : JW w0 w b2 F2 q2
  ne : b1 ≠ b2
  dis : ∀ k ∈ F2, k ∉ F1
theorem JW.not_row {w0 w : World} {b b' : Nat} {F F' : List Nat} {q q' : Os} (h : JW w0 w b F q) (h' : JW w0 w b' F' q') : b ∉ F' := by
  intro hb
  obtain ⟨_, _, cur, hc⟩ := h'.at_.row b hb
  obtain ⟨cs, fr, hc'⟩ := h.typ
  rw [hc] at hc'
  have : (4 : Nat) = 27 := by injection hc' with hc'; injection hc'
  exact absurd this (by decide)
theorem TwoW.go {w0 w w' : World} {b1 b2 : Nat} {F1 F2 : List Nat} {q1 q2 : Os} (h : TwoW w0 w b1 b2 F1 F2 q1 q2) (k : Below w.heap.size w w') : TwoW w0 w' b1 b2 F1 F2 q1 q2 := ⟨h.one.go k, h.two.go k, h.ne, h.dis⟩
theorem stays_beside {w0 w w' : World} {b1 b2 : Nat} {F1 F1' F2 : List Nat} {q1 q2 : Os} (h1 : JW w0 w b1 F1 q1) (h2 : JW w0 w b2 F2 q2) (ne : b1 ≠ b2) (dis : ∀ k ∈ F2, k ∉ F1) (k : Jf b1 0 F1 F1' w w') : JW w0 w' b2 F2 q2 ∧ (∀ k ∈ F2, k ∉ F1') := by
  have keep : ∀ i, i = b2 ∨ i ∈ F2 → w'.heap[i]? = w.heap[i]? := by
    intro i hi
    refine k.step.block i ?_ ?_
    · rcases hi with rfl | hi
      · exact h2.at_.lt
      · exact (h2.at_.row i hi).1
    · intro hm
      rcases List.mem_cons.1 hm with e | hm
      · rcases hi with rfl | hi
        · exact ne e.symm
        · subst e
          exact h1.not_row h2 hi
      · rcases hi with rfl | hi
        · exact h2.not_row h1 hm
        · exact dis i hi hm
  obtain ⟨cs, fr, hc⟩ := h2.typ
  refine ⟨⟨h2.at_.keep keep, h2.lo, h2.row, h2.bel.trans (k.below h1.lo h1.row h1.bel.size), cs, fr, (keep b2 (.inl rfl)).trans hc⟩, fun i hi hF => ?_⟩
  rcases k.step.foot i (List.mem_cons_of_mem _ hF) with hm | hm
  · rcases List.mem_cons.1 hm with e | hm
    · subst e
      exact h1.not_row h2 hi
    · exact dis i hi hm
  · have := (h2.at_.row i hi).1
    omega
theorem TwoW.left {w0 w w' : World} {b1 b2 : Nat} {F1 F1' F2 : List Nat} {q1 q1' q2 : Os} (h : TwoW w0 w b1 b2 F1 F2 q1 q2) (hj : JW w0 w' b1 F1' q1') (k : Jf b1 0 F1 F1' w w') : TwoW w0 w' b1 b2 F1' F2 q1' q2 := by
  obtain ⟨h1, h2⟩ := stays_beside h.one h.two h.ne h.dis k
  exact ⟨hj, h1, h.ne, h2⟩
theorem TwoW.right {w0 w w' : World} {b1 b2 : Nat} {F1 F2 F2' : List Nat} {q1 q2 q2' : Os} (h : TwoW w0 w b1 b2 F1 F2 q1 q2) (hj : JW w0 w' b2 F2' q2') (k : Jf b2 0 F2 F2' w w') : TwoW w0 w' b1 b2 F1 F2' q1 q2' := by
  obtain ⟨h1, h2⟩ := stays_beside h.two h.one (fun e => h.ne e.symm) (fun k h1 h2 => h.dis k h2 h1) k
  exact ⟨h1, hj, h.ne, fun k hk hF => h2 k hF hk⟩
theorem two_new (w : World) : TwoW w ((w.alloc (.cells #[.int .i64 0, .slice none 0 0] 27)).alloc (.cells #[.int .i64 0, .slice none 0 0] 27)) w.heap.size (w.heap.size + 1) [] [] ⟨[], false⟩ ⟨[], false⟩ := by
  have h2 := jw_new w (w.alloc (.cells #[.int .i64 0, .slice none 0 0] 27)) (up_alloc (Below.refl _ _) _)
  have e : (w.alloc (.cells #[.int .i64 0, .slice none 0 0] 27)).heap.size = w.heap.size + 1 := by simp
  rw [e] at h2
  exact ⟨(jw_new w w (Below.refl _ _)).go (up_alloc (Below.refl _ _) _), h2, by omega, fun k hk => by simp at hk⟩
/-- The document's own Writer in the midst of a document. -/
structure PrI (w5 wq : World) (L : List Ev) (i : Nat) (q : Os) : Prop where
  wr : WrAt i 0 wq w5.heap.size q.s q.dn
  st : q = ckO (runC (.live []) (L.take i))
  dep : q.s.length ≤ i
  bel : Below w5.heap.size w5 wq
theorem pr_new (w : World) (L : List Ev) : PrI w (w.alloc (.cells #[.int .i64 1, .slice none 0 0, .bool false] 31)) L 0 ⟨[], false⟩ :=
  ⟨⟨⟨none, 0, jat_block (heap_alloc_new w _), ⟨Win.nil_ _ _ _, fun k hk => by simp [Value.owner] at hk, fun b hb => by simp at hb, by simp, by omega⟩⟩, ⟨_, heap_alloc_new w _⟩, Nat.zero_le _⟩, rfl, by simp, up_alloc (Below.refl _ _) _⟩
theorem PrI.go {w5 wq w' : World} {L : List Ev} {i : Nat} {q : Os} (h : PrI w5 wq L i q) (k : Below wq.heap.size wq w') : PrI w5 w' L i q := ⟨h.wr.go k, h.st, h.dep, h.bel.trans (k.mono h.bel.size)⟩
theorem PrI.step {w5 wq : World} {L : List Ev} {i : Nat} {q : Os} (h : PrI w5 wq L i q) (hr : runC (.live []) L = .done) (hi : i < L.length) (hi9 : i ≤ 700) (hde : DocE L[i]) :
    Calls Tryd.prog 12 #[.pointer (some ⟨w5.heap.size, 0, none⟩), evV L[i]] wq fun r w' => ∃ v, r = .returned v ∧ PrI w5 w' L (i + 1) (stepO q L[i]).2 := by
  obtain ⟨s, hs, hb⟩ := live_at hr hi
  have hq := h.st
  rw [hs] at hq
  subst hq
  obtain ⟨h1, h2⟩ := step_ckO hb
  refine (wr_part h.wr (by omega) (by have := h.dep; omega) L[i] (docE_small hde).1 (docE_small hde).2).mono ?_
  rintro r w' ⟨e1, e2, e3⟩
  refine ⟨_, e1, e2, ?_, ?_, h.bel.trans (e3.below h.bel.size (Nat.le_refl _))⟩
  · rw [runC_take hi, hs]
    exact h2
  · have := ostep_len (ckO (.live s)) L[i]
    have := h.dep
    omega
/-- What it tells of another part. -/
theorem PrI.tells {w5 wq : World} {L : List Ev} {i : Nat} {q : Os} (h : PrI w5 wq L i q) (hi9 : i ≤ 700) (e : Ev) (hok : EvOk e) (ht : e.t.size ≤ 1000) :
    Calls Tryd.prog 12 #[.pointer (some ⟨w5.heap.size, 0, none⟩), evV (tidyE e)] wq fun r w' => ∃ Z : ByteArray, r = .returned (.tuple #[.string Z, .int .i64 ((stepO q e).1.2 : Nat)]) ∧ Below w5.heap.size w5 w' := by
  obtain ⟨h1, h2⟩ := tidy_ok hok ht
  have := wr_part h.wr (by omega) (by have := h.dep; omega) (tidyE e) h1 h2
  rw [stepO_tidy] at this
  refine this.mono ?_
  rintro r w' ⟨e1, e2, e3⟩
  exact ⟨_, e1, h.bel.trans (e3.below h.bel.size (Nat.le_refl _))⟩
/-- In the midst of the law. -/
structure RefI (w0 wr : World) (L : List Ev) (j : Nat) (q : Os) (F1 F2 : List Nat) : Prop where
  two : TwoW w0 wr w0.heap.size (w0.heap.size + 1) F1 F2 q q
  st : q = ckO (runC (.live []) (L.take j))
  dep : q.s.length ≤ j
theorem RefI.go {w0 wr w' : World} {L : List Ev} {j : Nat} {q : Os} {F1 F2 : List Nat} (h : RefI w0 wr L j q F1 F2) (k : Below wr.heap.size wr w') : RefI w0 w' L j q F1 F2 := ⟨h.two.go k, h.st, h.dep⟩
theorem RefI.live {w0 wr : World} {L : List Ev} {j : Nat} {q : Os} {F1 F2 : List Nat} (h : RefI w0 wr L j q F1 F2) (hr : runC (.live []) L = .done) (hj : j < L.length) :
    q.dn = false ∧ (stepO q L[j]).1.2 = 0 ∧ (stepO q L[j]).2 = ckO (runC (.live []) (L.take (j + 1))) := by
  obtain ⟨s, hs, hb⟩ := live_at hr hj
  have hq := h.st
  rw [hs] at hq
  subst hq
  obtain ⟨h1, h2⟩ := step_ckO hb
  exact ⟨rfl, h1, by rw [runC_take hj, hs]; exact h2⟩
theorem RefI.over {w0 wr : World} {L : List Ev} {j : Nat} {q : Os} {F1 F2 : List Nat} (h : RefI w0 wr L j q F1 F2) (hr : runC (.live []) L = .done) (hj : L.length ≤ j) : q = ⟨[], true⟩ := by
  have hq := h.st
  rw [List.take_of_length_le hj, hr] at hq
  exact hq
end Go.Proofs.YtkolebnjhndmkaaDoor
/-
  A Writer and the document's own beside each other, part by part; the document's own over all parts.
-/
namespace Go.Proofs.YtkolebnjhndmkaaDoor
open Go.RowKit
open Go.Lib
theorem WrAt.off {M b : Nat} {w w' : World} {s : List Bx} {dn : Bool} {ts : List Nat} (h : WrAt M 0 w b s dn) (k : Off ts w w') (h1 : 31 ∉ ts) (h2 : 68 ∉ ts) : WrAt M 0 w' b s dn := by
  obtain ⟨a, cp, hA, hS⟩ := h.cells
  obtain ⟨cs, hc⟩ := h.blk
  have hb := k _ _ _ _ hc h1
  refine ⟨⟨a, cp, hA.keep (hb.trans hc.symm), ⟨hS.win.keep fun i hi => ?_, hS.vB, hS.ok, hS.deep, hS.most⟩⟩, ⟨cs, hb⟩, Nat.zero_le _⟩
  obtain ⟨cur, hr⟩ := hS.win.typed i hi
  rw [hr, k _ _ _ _ hr h2]
theorem JW.beside {w0 w w' : World} {b br : Nat} {F : List Nat} {q : Os} {cs : Array Value} (h : JW w0 w b F q) (k : Bew w.heap.size br w w') (hr : w.heap[br]? = some (.cells cs 31 (0, 0))) (hlo : w0.heap.size ≤ br) : JW w0 w' b F q := by
  obtain ⟨c1, fr, hc⟩ := h.typ
  have keep : ∀ i, i = b ∨ i ∈ F → w'.heap[i]? = w.heap[i]? := by
    intro i hi
    have hlt : i < w.heap.size := by
      rcases hi with rfl | hi
      · exact h.at_.lt
      · exact (h.at_.row i hi).1
    refine k.block i hlt ?_
    intro e
    subst e
    rcases hi with e | hi
    · subst e
      rw [hr] at hc
      have : (31 : Nat) = 27 := by injection hc with hc; injection hc
      exact absurd this (by decide)
    · obtain ⟨_, _, cur, hx⟩ := h.at_.row i hi
      rw [hr] at hx
      have : (31 : Nat) = 4 := by injection hx with hx; injection hx
      exact absurd this (by decide)
  exact ⟨h.at_.keep keep, h.lo, h.row, h.bel.trans (k.below h.bel.size hlo), c1, fr, (keep b (.inl rfl)).trans hc⟩
/-- In the midst of the first loop. -/
structure TelI (w0 wr : World) (j : Nat) (q : Os) (F : List Nat) : Prop where
  jw : JW w0 wr w0.heap.size F q
  rf : WrAt j 0 wr (w0.heap.size + 1) q.s q.dn
  dep : q.s.length ≤ j
theorem TelI.go {w0 wr w' : World} {j : Nat} {q : Os} {F : List Nat} (h : TelI w0 wr j q F) (k : Below wr.heap.size wr w') : TelI w0 w' j q F := ⟨h.jw.go k, h.rf.go k, h.dep⟩
theorem tel_new (w : World) : TelI w ((w.alloc (.cells #[.int .i64 0, .slice none 0 0] 27)).alloc (.cells #[.int .i64 1, .slice none 0 0, .bool false] 31)) 0 ⟨[], false⟩ [] := by
  refine ⟨(jw_new w w (Below.refl _ _)).go (up_alloc (Below.refl _ _) _), ?_, by simp⟩
  have h := (pr_new (w.alloc (.cells #[.int .i64 0, .slice none 0 0] 27)) []).wr
  have e : (w.alloc (.cells #[.int .i64 0, .slice none 0 0] 27)).heap.size = w.heap.size + 1 := by simp
  rw [e] at h
  exact h
/-- The Writer has stepped; the document's own has not yet. -/
structure TelH (w0 wr : World) (j : Nat) (q q' : Os) (F : List Nat) : Prop where
  jw : JW w0 wr w0.heap.size F q'
  rf : WrAt j 0 wr (w0.heap.size + 1) q.s q.dn
  dep : q.s.length ≤ j ∧ q'.s.length ≤ j + 1
theorem TelH.go {w0 wr w' : World} {j : Nat} {q q' : Os} {F : List Nat} (h : TelH w0 wr j q q' F) (k : Below wr.heap.size wr w') : TelH w0 w' j q q' F := ⟨h.jw.go k, h.rf.go k, h.dep⟩
theorem TelI.half {w0 wr w' : World} {j : Nat} {q q' : Os} {F F' : List Nat} (h : TelI w0 wr j q F) (hj : JW w0 w' w0.heap.size F' q') (k : Jf w0.heap.size 0 F F' wr w') (hd : q'.s.length ≤ q.s.length + 1) : TelH w0 w' j q q' F' :=
  ⟨hj, h.rf.off (h.jw.off k) (by decide) (by decide), h.dep, Nat.le_trans hd (Nat.succ_le_succ h.dep)⟩
theorem TelI.step {w0 wr : World} {j : Nat} {q : Os} {F : List Nat} (h : TelI w0 wr j q F) (hT : Tab w0) (hj : j ≤ 700) (e : Ev) (hm : mayE e) (hok : EvOk e) (ht : e.t.size ≤ 1000) :
    Calls Tryd.prog 11 #[.pointer (some ⟨w0.heap.size, 0, none⟩), valE e] wr fun r w' => r = .returned (.tuple #[.string ⟨(stepO q e).1.1.toArray⟩, .int .i64 ((stepO q e).1.2 : Nat)]) ∧ ∃ F', TelH w0 w' j q (stepO q e).2 F' := by
  refine (jw_step h.jw hT (by have := h.dep; omega) e hm hok.2.1 ht).mono ?_
  rintro r w' ⟨h1, F', h2, h3⟩
  exact ⟨h1, F', h.half h2 h3 (ostep_len q e)⟩
theorem TelI.noPart {w0 wr : World} {j : Nat} {q : Os} {F : List Nat} (h : TelI w0 wr j q F) (e : Ev) (hm : ¬ mayE e) (v : Value) (hP : ∀ W, Calls Tryd.prog 36 #[v] W fun r w' => r = .returned (.tuple #[evV evZ, .bool false]) ∧ Below W.heap.size W w') :
    Calls Tryd.prog 11 #[.pointer (some ⟨w0.heap.size, 0, none⟩), v] wr fun r w' => r = .returned (.tuple #[.string ⟨(stepO q e).1.1.toArray⟩, .int .i64 ((stepO q e).1.2 : Nat)]) ∧ ∃ F', TelH w0 w' j q (stepO q e).2 F' := by
  rw [stepO_bad q e (.inl hm)]
  refine (jo_other h.jw.at_ v evZ hP).mono ?_
  rintro r w' ⟨h1, h2, h3⟩
  exact ⟨h1, F, h.half (h.jw.next h2 h3) h3 (Nat.le_succ _)⟩
theorem TelH.step {w0 wr : World} {j : Nat} {q : Os} {F : List Nat} (e : Ev) (h : TelH w0 wr j q (stepO q e).2 F) (hj : j ≤ 700) (hok : EvOk e) (ht : e.t.size ≤ 1000) :
    Calls Tryd.prog 12 #[.pointer (some ⟨w0.heap.size + 1, 0, none⟩), evV (tidyE e)] wr fun r w' => r = .returned (.tuple #[.string ⟨(stepO q e).1.1.toArray⟩, .int .i64 ((stepO q e).1.2 : Nat)]) ∧ TelI w0 w' (j + 1) (stepO q e).2 F := by
  obtain ⟨h1, h2⟩ := tidy_ok hok ht
  have := wr_part h.rf (by omega) (by have := h.dep; omega) (tidyE e) h1 h2
  rw [stepO_tidy] at this
  refine this.mono ?_
  rintro r w' ⟨e1, e2, e3⟩
  obtain ⟨cs, hcs⟩ := h.rf.blk
  exact ⟨e1, h.jw.beside e3 hcs (by omega), e2, h.dep.2⟩
/-- The document's own Writer over all parts, in the midst. -/
structure TelJ (w5 wr : World) (L : List Ev) (j : Nat) (q : Os) (acc : List UInt8) : Prop where
  rf : WrAt j 0 wr w5.heap.size q.s q.dn
  bel : Below w5.heap.size w5 wr
  eq : allO ⟨[], false⟩ L = (acc ++ (allO q (L.drop j)).1, (allO q (L.drop j)).2)
  len : acc.length ≤ 100001 * j
  dep : q.s.length ≤ j
theorem telj_new (w : World) (L : List Ev) : TelJ w (w.alloc (.cells #[.int .i64 1, .slice none 0 0, .bool false] 31)) L 0 ⟨[], false⟩ [] :=
  ⟨(pr_new w []).wr, up_alloc (Below.refl _ _) _, by simp, by simp, by simp⟩
theorem TelJ.go {w5 wr w' : World} {L : List Ev} {j : Nat} {q : Os} {acc : List UInt8} (h : TelJ w5 wr L j q acc) (k : Below wr.heap.size wr w') : TelJ w5 w' L j q acc := ⟨h.rf.go k, h.bel.trans (k.mono h.bel.size), h.eq, h.len, h.dep⟩
theorem TelJ.over {w5 wr : World} {L : List Ev} {j : Nat} {q : Os} {acc : List UInt8} (h : TelJ w5 wr L j q acc) (hj : L.length ≤ j) : allO ⟨[], false⟩ L = (acc, if q.dn = true then 0 else 3) := by
  have := h.eq
  rw [List.drop_of_length_le hj] at this
  rw [this]
  simp [allO]
theorem TelJ.noPart {w5 wr : World} {L : List Ev} {j : Nat} {q : Os} {acc : List UInt8} (h : TelJ w5 wr L j q acc) (hj : j < L.length) (hm : ¬ mayE L[j]) : allO ⟨[], false⟩ L = (acc, 1) := by
  have := h.eq
  rw [ojdrop_at hj, allO_cons_bad hm] at this
  simpa using this
theorem TelJ.fail {w5 wr : World} {L : List Ev} {j : Nat} {q : Os} {acc : List UInt8} (h : TelJ w5 wr L j q acc) (hj : j < L.length) (hm : mayE L[j]) (h0 : (stepO q L[j]).1.2 ≠ 0) : allO ⟨[], false⟩ L = (acc, (stepO q L[j]).1.2) := by
  have := h.eq
  rw [ojdrop_at hj, allO_cons_err hm h0] at this
  simpa using this
/-- What stands behind a step: goes on, or the first error. -/
def TelR (w5 wr : World) (L : List Ev) (j bad : Nat) (acc : List UInt8) : Prop :=
  (bad = 0 ∧ ∃ q, TelJ w5 wr L j q acc) ∨ (bad ≠ 0 ∧ allO ⟨[], false⟩ L = (acc, bad) ∧ Below w5.heap.size w5 wr ∧ acc.length ≤ 100001 * j)
theorem TelJ.step {w5 wr : World} {L : List Ev} {j : Nat} {q : Os} {acc : List UInt8} (h : TelJ w5 wr L j q acc) (hj : j < L.length) (hj9 : j ≤ 700) (hm : mayE L[j]) (hok : EvOk L[j]) (ht : L[j].t.size ≤ 1000) :
    Calls Tryd.prog 12 #[.pointer (some ⟨w5.heap.size, 0, none⟩), evV L[j]] wr fun r w' => r = .returned (.tuple #[.string ⟨(stepO q L[j]).1.1.toArray⟩, .int .i64 ((stepO q L[j]).1.2 : Nat)]) ∧ TelR w5 w' L (j + 1) (stepO q L[j]).1.2 (acc ++ (stepO q L[j]).1.1) := by
  refine (wr_part h.rf (by omega) (by have := h.dep; omega) L[j] hok ht).mono ?_
  rintro r w' ⟨e1, e2, e3⟩
  have hb : Below w5.heap.size w5 w' := h.bel.trans (e3.below h.bel.size (Nat.le_refl _))
  refine ⟨e1, ?_⟩
  by_cases h0 : (stepO q L[j]).1.2 = 0
  · refine .inl ⟨h0, (stepO q L[j]).2, e2, hb, ?_, ?_, ?_⟩
    · have := h.eq
      rw [ojdrop_at hj, allO_cons_ok hm h0] at this
      rw [this]
      simp
    · have h1 := step_size q L[j] hm hok.2.1 ht
      have := h.len
      rw [List.length_append]
      omega
    · have := ostep_len q L[j]
      have := h.dep
      omega
  · have hf := h.fail hj hm h0
    have hn := step_err_nil h0
    refine .inr ⟨h0, ?_, hb, ?_⟩
    · rw [hf, hn]
      simp
    · rw [hn]
      have := h.len
      simp
      omega
end Go.Proofs.YtkolebnjhndmkaaDoor
