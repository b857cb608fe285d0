/-
  CONTRACTS of package event's Same, Size, MustWord; of the document's own May, Tidy, Size; of the law's asking whether MustWord panics.
-/
import Derived.Test.YtnhabheofdifhaaEv
import Derived.Defers
import Derived.Recover
namespace Go.Proofs.Ytnhabheofdifhaa
open Go.RowKit
open Go.Lib
/-- Two plain parts, cell by cell. -/
def sameE (X Y : Ev) : Bool := (X.k == Y.k) && (X.y == Y.y) && (X.m == Y.m) && (X.t.toList == Y.t.toList) && (X.c == Y.c)
theorem bytes_eq {a b : ByteArray} (h : a.toList = b.toList) : a = b := by
  apply ByteArray.ext
  simp only [ByteArray.toList_eq] at h
  exact Array.ext' h
theorem sameE_iff (X Y : Ev) : sameE X Y = true ↔ X = Y := by
  obtain ⟨k, y, m, t, c⟩ := X
  obtain ⟨k', y', m', t', c'⟩ := Y
  simp only [sameE, Bool.and_eq_true, beq_iff_eq, Ev.mk.injEq]
  constructor
  · rintro ⟨⟨⟨⟨h1, h2⟩, h3⟩, h4⟩, h5⟩
    exact ⟨h1, h2, h3, bytes_eq h4, h5⟩
  · rintro ⟨h1, h2, h3, h4, h5⟩
    exact ⟨⟨⟨⟨h1, h2⟩, h3⟩, by rw [h4]⟩, h5⟩
theorem sameE_refl (X : Ev) : sameE X X = true := (sameE_iff X X).2 rfl
theorem sameE_comm (X Y : Ev) : sameE X Y = sameE Y X := by
  rw [Bool.eq_iff_iff, sameE_iff, sameE_iff]
  exact eq_comm
theorem sameE_ne {X Y : Ev} (h : X ≠ Y) : sameE X Y = false := by
  cases hs : sameE X Y with
  | false => rfl
  | true => exact absurd ((sameE_iff X Y).1 hs) h
theorem natb (a b : Nat) : (((a : Int)) == (b : Int)) = (a == b) := by
  rw [Bool.eq_iff_iff, beq_iff_eq, beq_iff_eq]
  omega
theorem ev_eql (X Y : Ev) (W : World) : (binOp .eql 24 (evV X) (evV Y)).run Try.prog W = .ok (.bool (sameE X Y)) W := by
  have hp : Try.prog.stoodInHeld 24 = false := by kernel_rfl
  have hs : Try.prog.underlying 24 = some (.struct (Try.prog.fieldsOf 24)) := by kernel_rfl
  simp only [run_eql_struct, evV]
  rw [run_equalIn_agg _ _ _ _ _ hs hp]
  simp [go_sem]
  have h3' : ((X.m : Int) = (Y.m : Int)) ↔ X.m = Y.m := by omega
  simp only [h3']
  by_cases h1 : X.k = Y.k <;> by_cases h2 : X.y = Y.y <;> by_cases h3 : X.m = Y.m <;> by_cases h4 : X.t.toList = Y.t.toList <;> by_cases h5 : X.c = Y.c <;> simp [sameE, h1, h2, h3, h4, h5]
theorem ev_neq (X Y : Ev) (W : World) : (binOp .neq 24 (evV X) (evV Y)).run Try.prog W = .ok (.bool (!sameE X Y)) W := by
  have hp : Try.prog.stoodInHeld 24 = false := by kernel_rfl
  have hs : Try.prog.underlying 24 = some (.struct (Try.prog.fieldsOf 24)) := by kernel_rfl
  simp only [run_neq_struct, evV]
  rw [run_equalIn_agg _ _ _ _ _ hs hp]
  simp [go_sem]
  have h3' : ((X.m : Int) = (Y.m : Int)) ↔ X.m = Y.m := by omega
  simp only [h3']
  by_cases h1 : X.k = Y.k <;> by_cases h2 : X.y = Y.y <;> by_cases h3 : X.m = Y.m <;> by_cases h4 : X.t.toList = Y.t.toList <;> by_cases h5 : X.c = Y.c <;> simp [sameE, h1, h2, h3, h4, h5]
/-- event.Same, by what Plain makes of the two. -/
theorem same_by (v u : Value) (X Y : Ev) (D F : Bool) (hP : ∀ w, Calls Try.prog 12 #[v] w fun r w' => r = .returned (.tuple #[evV X, .bool D]) ∧ Below w.heap.size w w')
    (hQ : ∀ w, Calls Try.prog 12 #[u] w fun r w' => r = .returned (.tuple #[evV Y, .bool F]) ∧ Below w.heap.size w w') (w : World) :
    Calls Try.prog 14 #[v, u] w fun r w' => r = .returned (.bool (D && F && sameE X Y)) ∧ Below w.heap.size w w' := by
  have hE := ev_eql X Y
  generalize sameE X Y = S at *
  obtain ⟨k, y, m, t, c⟩ := X
  obtain ⟨k', y', m', t', c'⟩ := Y
  have HP := Lib.hid hP
  have HQ := Lib.hid hQ
  clear hP hQ
  simp only [evV] at hE
  go_enter Try.func14, Try.ntmps14
  go_wp2_with fail
  refine (HP.out _).mono ?_
  rintro e w1 ⟨rfl, hb⟩
  have h1 := Lib.hid hb
  clear hb
  simp only [evV]
  go_wp2_with fail
  refine (HQ.out _).mono ?_
  rintro e w2 ⟨rfl, hb⟩
  obtain ⟨⟨z0, z1, z2, z3, z4⟩, ⟨y0, y1, y2, y3, y4⟩⟩ := ((blk_new w1 _ _).go hb).ev
  have g1 := (blk_new w1 _ _).go hb |>.lt
  have h2 := Lib.hid (up_trans (up_alloc h1.out _) hb)
  clear hb
  simp only [evV]
  cases D <;> cases F
  all_goals
    go_wp2
    go_ret
    exact ⟨rfl, up_alloc h2.out _⟩
theorem same_any (a b : Ev) (ha : mayE a) (hb : mayE b) (w : World) : Calls Try.prog 14 #[valE a, valE b] w fun r w' => r = .returned (.bool (sameE (tidyE a) (tidyE b))) ∧ Below w.heap.size w w' :=
  same_by _ _ _ _ _ _ (plain_any a ha) (plain_any b hb) w
theorem size_by (v : Value) (X : Ev) (D : Bool) (hX : X.t.size ≤ 1000) (hP : ∀ w, Calls Try.prog 12 #[v] w fun r w' => r = .returned (.tuple #[evV X, .bool D]) ∧ Below w.heap.size w w') (w : World) :
    Calls Try.prog 15 #[v] w fun r w' => r = .returned (.int .i64 (if D then 1 + (X.t.size : Int) else 0)) ∧ Below w.heap.size w w' := by
  obtain ⟨k, y, m, t, c⟩ := X
  have hX : (t.size : Int) ≤ 1000 := by exact Int.ofNat_le.2 hX
  have HP := Lib.hid hP
  clear hP
  go_enter Try.func15, Try.ntmps15
  go_wp2_with fail
  refine (HP.out _).mono ?_
  rintro e w1 ⟨rfl, hb⟩
  have h1 := Lib.hid hb
  clear hb
  simp only [evV]
  cases D
  all_goals
    go_wp2
    go_ret
    exact ⟨rfl, up_alloc h1.out _⟩
/-- A part's size, as the document reckons it. -/
def sizeR (X : Ev) : Int := if X.k = 3 ∨ X.k = 4 then 1 + (X.t.size : Int) else 1
theorem ref_size (X : Ev) (hX : X.t.size ≤ 1000) (w : World) : Calls Try.prog 16 #[evV X] w fun r w' => r = .returned (.int .i64 (sizeR X)) ∧ Below w.heap.size w w' := by
  obtain ⟨k, y, m, t, c⟩ := X
  have hX : (t.size : Int) ≤ 1000 := by exact Int.ofNat_le.2 hX
  have h1 := Lib.hid (up_alloc (Below.refl w.heap.size w) (.cells #[.int .i64 k, .bool y, .int .u64 m, .string t, .int .i64 c] 24))
  simp only [evV, sizeR]
  by_cases h3 : k = 3
  · subst h3
    go_enter Try.func16, Try.ntmps16
    go_wp2
    simp [bodyPost, results, Try.results16, go_sem]
    exact h1.out
  · have q3 : (k == 3) = false := by simpa using h3
    by_cases h4 : k = 4
    · subst h4
      clear h3 q3
      go_enter Try.func16, Try.ntmps16
      go_wp2
      simp [bodyPost, results, Try.results16, go_sem]
      exact h1.out
    · have q4 : (k == 4) = false := by simpa using h4
      rw [if_neg (by omega)]
      clear h3 h4
      go_enter Try.func16, Try.ntmps16
      go_wp2
      go_ret
      exact ⟨rfl, h1.out⟩
theorem may_any (e : Ev) (w : World) : Calls Try.prog 11 #[evV e] w fun r w' => r = .returned (.bool (decide (mayE e))) ∧ Below w.heap.size w w' := by
  obtain ⟨k, y, m, t, c⟩ := e
  have h1 := Lib.hid (up_alloc (Below.refl w.heap.size w) (.cells #[.int .i64 k, .bool y, .int .u64 m, .string t, .int .i64 c] 24))
  have q : ∀ n : Int, k ≠ n → (k != n) = true := fun n h => by simpa using h
  simp only [evV]
  by_cases h0 : 0 ≤ k
  · have t0 : (0 ≤ k) = True := by simp [h0]
    by_cases h7 : k ≤ 7
    · have t7 : (k ≤ 7) = True := by simp [h7]
      by_cases h5 : k = 5
      · subst h5
        have hmm : mayE ⟨5, y, m, t, c⟩ ↔ -1 ≤ c := by unfold mayE; simp
        rw [decide_eq_decide.2 hmm]
        by_cases hc : -1 ≤ c
        · have hc1 : (-1 ≤ c) = True := by simp [hc]
          rw [decide_eq_true hc]
          clear hc hmm q t0 t7 h0 h7
          go_enter Try.func11, Try.ntmps11
          go_wp2
          go_ret
          exact ⟨rfl, h1.out⟩
        · have hc1 : (-1 ≤ c) = False := by simp; omega
          rw [decide_eq_false hc]
          clear hc hmm q t0 t7 h0 h7
          go_enter Try.func11, Try.ntmps11
          go_wp2
          go_ret
          exact ⟨rfl, h1.out⟩
      · by_cases h6 : k = 6
        · subst h6
          have hmm : mayE ⟨6, y, m, t, c⟩ ↔ -1 ≤ c := by unfold mayE; simp
          rw [decide_eq_decide.2 hmm]
          by_cases hc : -1 ≤ c
          · have hc1 : (-1 ≤ c) = True := by simp [hc]
            rw [decide_eq_true hc]
            clear hc hmm q t0 t7 h0 h7
            go_enter Try.func11, Try.ntmps11
            go_wp2
            go_ret
            exact ⟨rfl, h1.out⟩
          · have hc1 : (-1 ≤ c) = False := by simp; omega
            rw [decide_eq_false hc]
            clear hc hmm q t0 t7 h0 h7
            go_enter Try.func11, Try.ntmps11
            go_wp2
            go_ret
            exact ⟨rfl, h1.out⟩
        · have hm : mayE ⟨k, y, m, t, c⟩ := ⟨h0, h7, fun h => by simp only at h; omega⟩
          rw [decide_eq_true hm]
          have q5 := q 5 h5
          have q6 := q 6 h6
          clear q h5 h6 h0 h7 hm
          go_enter Try.func11, Try.ntmps11
          go_wp2
          all_goals go_ret
          all_goals exact ⟨rfl, h1.out⟩
    · have t7 : (k ≤ 7) = False := by simp; omega
      rw [decide_eq_false (fun h => h7 h.2.1)]
      clear q h0 h7
      go_enter Try.func11, Try.ntmps11
      go_wp2
      all_goals go_ret
      all_goals exact ⟨rfl, h1.out⟩
  · have t0 : (0 ≤ k) = False := by simp; omega
    rw [decide_eq_false (fun h => h0 h.1)]
    clear q h0
    go_enter Try.func11, Try.ntmps11
    go_wp2
    all_goals go_ret
    all_goals exact ⟨rfl, h1.out⟩
set_option maxHeartbeats 1000000 in
theorem tidy_any (e : Ev) (he : mayE e) (w : World) : Calls Try.prog 13 #[evV e] w fun r w' => r = .returned (evV (tidyE e)) ∧ Below w.heap.size w w' := by
  obtain ⟨k, y, m, t, c⟩ := e
  have hk : k = 0 ∨ k = 1 ∨ k = 2 ∨ k = 3 ∨ k = 4 ∨ k = 5 ∨ k = 6 ∨ k = 7 := by
    have h1 : 0 ≤ k := he.1
    have h2 : k ≤ 7 := he.2.1
    omega
  clear he
  rcases hk with rfl | rfl | rfl | rfl | rfl | rfl | rfl | rfl
  all_goals simp only [evV]
  all_goals
    go_enter Try.func13, Try.ntmps13
    go_wp2
  all_goals simp [bodyPost, results, Try.results13, go_sem, tidyE]
  all_goals repeat (first | exact Below.refl _ _ | refine up_alloc ?_ _)
theorem word_halts (d : TypeId) (W : World) : (runtimePanic (.typeAssertion (some 20) (some d) 49 "") : Sem Value).run Try.prog W =
    .halt (.panic (.iface Try.prog.rt.typeAssertionError (.pointer (some ⟨W.heap.size, 0, none⟩)))) (W.alloc (.cells #[typeHandle Try.prog 20, typeHandle Try.prog d, typeHandle Try.prog 49, strVal ""] 77)) := by kernel_rfl
theorem word_no (v : Value) (hv : v = .nilIface ∨ ∃ d x, v = .iface d x ∧ d ≠ 49) (W : World) :
    ∃ u pv X, (Instr.typeAssert v 20 49 false).run Try.prog W = .halt (.panic (.iface u pv)) (W.alloc X) := by
  rcases hv with rfl | ⟨d, x, rfl, hd⟩
  · refine ⟨Try.prog.rt.typeAssertionError, .pointer (some ⟨W.heap.size, 0, none⟩), .cells #[typeHandle Try.prog 20, .pointer none, typeHandle Try.prog 49, strVal ""] 77, ?_⟩
    kernel_rfl
  · refine ⟨Try.prog.rt.typeAssertionError, .pointer (some ⟨W.heap.size, 0, none⟩), .cells #[typeHandle Try.prog 20, typeHandle Try.prog d, typeHandle Try.prog 49, strVal ""] 77, ?_⟩
    have e : (Instr.typeAssert (.iface d x) 20 49 false).run Try.prog W = (if d = 49 then (pure x : Sem Value) else (runtimePanic (.typeAssertion (some 20) (some d) 49 ""))).run Try.prog W := by kernel_rfl
    rw [e, if_neg hd]
    exact word_halts d W
theorem must_text (t : ByteArray) (w : World) : Calls Try.prog 18 #[.iface 49 (.string t)] w fun r w' => r = .returned (.string t) ∧ w' = w := by
  have h : ∀ W, (Instr.typeAssert (.iface 49 (.string t)) 20 49 false).run Try.prog W = .ok (.string t) W := fun W => by kernel_rfl
  go_enter Try.func18, Try.ntmps18
  go_wp2
  go_ret
  exact ⟨rfl, rfl⟩
theorem sure_no (v : Value) (hv : v = .nilIface ∨ ∃ d x, v = .iface d x ∧ d ≠ 49) (w : World) :
    Calls Try.prog 26 #[v] w fun r w' => ∃ u pv X, r = .panicked [{ v := .iface u pv, recovered := false }] ∧ w' = w.alloc X := by
  obtain ⟨u, pv, X, h⟩ := word_no v hv w
  clear hv
  go_enter Try.func26, Try.ntmps26
  go_wp2
  exact ⟨rfl, u, pv, X, rfl, rfl⟩
theorem must_no (v : Value) (hv : v = .nilIface ∨ ∃ d x, v = .iface d x ∧ d ≠ 49) (w : World) :
    Calls Try.prog 18 #[v] w fun r w' => ∃ u pv X, r = .panicked [{ v := .iface u pv, recovered := false }] ∧ w' = w.alloc X := by
  have hM := Lib.hid (sure_no v hv)
  clear hv
  go_enter Try.func18, Try.ntmps18
  go_wp2_with (go_at_call 26; refine (hM.out _).mono ?_; rintro e w1 ⟨u, pv, X, rfl, rfl⟩)
  exact ⟨rfl, u, pv, X, rfl, rfl⟩
theorem some_not (u : TypeId) (pv : Value) (W : World) : (binOp .neq 20 (.iface u pv) .nilIface).run Try.prog W = .ok (.bool true) W := by kernel_rfl
theorem none_is (W : World) : (binOp .neq 20 .nilIface .nilIface).run Try.prog W = .ok (.bool false) W := by kernel_rfl
theorem catch_panicking (p : Addr) (x : Bool) (u : TypeId) (pv : Value) (older : List PanicEntry) (w : World) (hc : w.cell? p = some (.bool x)) (hz : w.frozen? p = false) :
    CallsD Try.prog 25 #[.pointer (some p)] (.panicking ({ v := .iface u pv, recovered := false } :: older)) w fun e u' w' =>
      e = .returned (.tuple #[]) ∧ u' = .panicking ({ v := .iface u pv, recovered := true } :: older) ∧ w' = w.setCell p (.bool true) := by
  have hn := some_not u pv
  refine callsD_of_wpS Try.func25 rfl fun c₀ cs hu => ?_
  apply wpS_region
  simp [wpOpsS, go_sem, recoverD, hu, Try.ntmps25, hc, hz, hn, bodyPostS, results, Try.results25]
theorem catch_idle (p : Addr) (x : Bool) (w : World) (hc : w.cell? p = some (.bool x)) (hz : w.frozen? p = false) :
    CallsD Try.prog 25 #[.pointer (some p)] .returning w fun e u' w' => e = .returned (.tuple #[]) ∧ u' = .returning ∧ w' = w.setCell p (.bool false) := by
  have hn := none_is
  refine callsD_of_wpS Try.func25 rfl fun c₀ cs hu => ?_
  apply wpS_region
  simp [wpOpsS, go_sem, recoverD, hu, Try.ntmps25, hc, hz, hn, bodyPostS, results, Try.results25]
  cases c₀
  simp_all
theorem panics_no (t : ByteArray) (w : World) : Calls Try.prog 17 #[.iface 49 (.string t)] w fun r w' => r = .returned (.bool false) ∧ Below w.heap.size w w' := by
  have hmf : ∀ (fn : Fn) (first cap : Array Value) (w : World), (Instr.makeFunc fn first cap).run Try.prog w = .ok (.func fn first cap) w := fun _ _ _ _ => rfl
  go_enter_defers Try.func17, Try.ntmps17
  go_wp2_with (go_at_call 18; refine (must_text t _).mono ?_; rintro e w1 ⟨rfl, rfl⟩)
  refine leaves_cons (f := 25) (args := #[.pointer (some ⟨w.heap.size, 0, none⟩)]) (by simp) (by simp [go_sem]) ?_
  refine (catch_idle ⟨w.heap.size, 0, none⟩ false _ ?_ ?_).mono ?_
  · simp [go_sem]
  · simp [go_sem]
  rintro e u' w'' ⟨rfl, rfl, rfl⟩
  simp [Leaves, settle, results, Try.results17, go_sem]
  exact up_alloc (Below.refl _ _) _
theorem panics_yes (v : Value) (hv : v = .nilIface ∨ ∃ d x, v = .iface d x ∧ d ≠ 49) (w : World) : Calls Try.prog 17 #[v] w fun r w' => r = .returned (.bool true) ∧ Below w.heap.size w w' := by
  have hmf : ∀ (fn : Fn) (first cap : Array Value) (w : World), (Instr.makeFunc fn first cap).run Try.prog w = .ok (.func fn first cap) w := fun _ _ _ _ => rfl
  have hM := Lib.hid (must_no v hv)
  clear hv
  go_enter_defers Try.func17, Try.ntmps17
  go_wp2_with (go_at_call 18; refine (hM.out _).mono ?_; rintro e w1 ⟨u, pv, X, rfl, rfl⟩)
  refine leaves_cons (f := 25) (args := #[.pointer (some ⟨w.heap.size, 0, none⟩)]) (by simp) (by simp [go_sem]) ?_
  refine (catch_panicking ⟨w.heap.size, 0, none⟩ false u pv [] _ ?_ ?_).mono ?_
  · simp [go_sem]
  · simp [go_sem]
  rintro e u' w'' ⟨rfl, rfl, rfl⟩
  simp [Leaves, settle, results, Try.results17, go_sem]
  exact up_alloc (up_alloc (Below.refl _ _) _) _
end Go.Proofs.Ytnhabheofdifhaa
