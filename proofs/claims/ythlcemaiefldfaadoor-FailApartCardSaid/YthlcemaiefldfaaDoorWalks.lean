/-
  THE WALKS of package fail's functions and of three laws of chapter 1 (FailSums, FailNames, FailApart) at one commit: what each call does to the world. No condition but: the table of names holds its sixteen texts.
-/
import Derived.Test.YthlcemaiefldfaaDoorProg
import Derived.WalkKit
import Derived.WalkSpells
import Derived.WalkLawsBesides
import Derived.Deep.QuietTactic
import Derived.BigQuiet
import Derived.Lib.Hide
import Derived.Handy
import Derived.LaidEqlPtr
namespace Go.Proofs.YthlcemaiefldfaaDoor
open Go.RowKit
-- facts of this program's own, by the kernel's evaluation
@[go_sem] theorem as_two (v : Value) (w : World) : (Instr.typeAssert (.iface 36 v) 24 36 true).run Tryd.prog w = .ok (.tuple #[v, .bool true]) w := by kernel_rfl
@[go_sem] theorem as_one (v : Value) (w : World) : (Instr.typeAssert (.iface 36 v) 24 36 false).run Tryd.prog w = .ok v w := by kernel_rfl
@[go_sem] theorem err_method (p : Addr) (w : World) : (callMethod (.iface 36 (.pointer (some p))) "Error" #[]).run Tryd.prog w = .ok (.enter 36 #[.pointer (some p)]) w := by kernel_rfl
set_option maxHeartbeats 400000 in
theorem add_yes (a b : Int) (w : World) (h0 : 0 ≤ a) (h1 : 0 ≤ b) (h2 : a ≤ 9223372036854775807 - b) :
    Calls Tryd.prog 10 #[.int .i64 a, .int .i64 b] w fun e w' => e = .returned (.tuple #[.int .i64 (a + b), .bool true]) ∧ w = w' := by
  go_enter Tryd.func10, Tryd.ntmps10
  go_wp2
  go_ret2
  exact ⟨rfl, rfl⟩
set_option maxHeartbeats 400000 in
theorem add_no (a b : Int) (w : World) (ha : -9223372036854775808 ≤ a ∧ a ≤ 9223372036854775807) (hb : -9223372036854775808 ≤ b ∧ b ≤ 9223372036854775807) (h : ¬ (0 ≤ a ∧ 0 ≤ b ∧ a ≤ 9223372036854775807 - b)) :
    Calls Tryd.prog 10 #[.int .i64 a, .int .i64 b] w fun e w' => e = .returned (.tuple #[.int .i64 0, .bool false]) ∧ w = w' := by
  obtain ⟨ha1, ha2⟩ := ha
  obtain ⟨hb1, hb2⟩ := hb
  by_cases h0 : a < 0
  · clear h
    go_enter Tryd.func10, Tryd.ntmps10
    go_wp2
    go_ret2
    exact ⟨rfl, rfl⟩
  · by_cases h1 : b < 0
    · clear h
      go_enter Tryd.func10, Tryd.ntmps10
      go_wp2
      go_ret2
      exact ⟨rfl, rfl⟩
    · have h2 : 9223372036854775807 - b < a := by omega
      clear h
      go_enter Tryd.func10, Tryd.ntmps10
      go_wp2
      go_ret2
      exact ⟨rfl, rfl⟩
/-- THE TABLE of names, as cells. -/
def nameBytes (n : Nat) : ByteArray := match n with
  | 0 => ⟨#[111, 107]⟩ | 1 => ⟨#[97, 114, 103]⟩ | 2 => ⟨#[102, 111, 114, 109]⟩ | 3 => ⟨#[109, 111, 114, 101]⟩ | 4 => ⟨#[100, 101, 101, 112]⟩
  | 5 => ⟨#[108, 97, 114, 103, 101]⟩ | 6 => ⟨#[102, 108, 111, 97, 116]⟩ | 7 => ⟨#[114, 97, 110, 103, 101]⟩ | 8 => ⟨#[107, 105, 110, 100]⟩ | 9 => ⟨#[117, 116, 102]⟩
  | 10 => ⟨#[115, 116, 97, 103, 101]⟩ | 11 => ⟨#[98, 117, 100, 103, 101, 116]⟩ | 12 => ⟨#[116, 105, 109, 101]⟩ | 13 => ⟨#[99, 97, 110, 99, 101, 108]⟩ | 14 => ⟨#[115, 116, 97, 116, 101]⟩ | 15 => ⟨#[102, 117, 108, 108]⟩
  | _ => ⟨#[]⟩
/-- The world holds the table. -/
def Names (w : World) : Prop := ∀ n, n < 16 → w.cell? ⟨0, n, none⟩ = some (.string (nameBytes n))
set_option maxHeartbeats 400000 in
theorem name_in (n : Nat) (w : World) (h : n < 16) (hn : Names w) :
    Calls Tryd.prog 11 #[.int .i64 n] w fun e w' => e = .returned (.string (nameBytes n)) ∧ w = w' := by
  have hc := hn n h
  go_enter Tryd.func11, Tryd.ntmps11
  go_wp2
  go_ret
  exact ⟨rfl, rfl⟩
set_option maxHeartbeats 400000 in
theorem name_out (n : Int) (w : World) (h : n < 0 ∨ 16 ≤ n) :
    Calls Tryd.prog 11 #[.int .i64 n] w fun e w' => e = .returned (.string ⟨#[]⟩) ∧ w = w' := by
  rcases h with h | h
  · go_enter Tryd.func11, Tryd.ntmps11
    go_wp2
    go_ret
    exact ⟨rfl, rfl⟩
  · go_enter Tryd.func11, Tryd.ntmps11
    go_wp2
    go_ret
    exact ⟨rfl, rfl⟩
set_option maxHeartbeats 400000 in
theorem in_yes (p : Addr) (w : World) :
    Calls Tryd.prog 18 #[.iface 36 (.pointer (some p))] w fun e w' => e = .returned (.tuple #[.pointer (some p), .bool true]) ∧ w = w' := by
  go_enter Tryd.func18, Tryd.ntmps18
  go_wp2
  go_ret2
  exact ⟨rfl, rfl⟩
set_option maxHeartbeats 400000 in
theorem errno_yes (p : Addr) (n : Int) (w : World) (hc : w.cell? p = some (.int .i64 n)) :
    Calls Tryd.prog 14 #[.iface 36 (.pointer (some p))] w fun e w' => e = .returned (.int .i64 n) ∧ w = w' := by
  go_enter Tryd.func14, Tryd.ntmps14
  go_wp2_with (go_at_call 18; refine (in_yes _ _).mono ?_; rintro e w' ⟨rfl, rfl⟩)
  go_ret
  exact ⟨rfl, rfl⟩
set_option maxHeartbeats 400000 in
theorem errno_nil (w : World) :
    Calls Tryd.prog 14 #[.nilIface] w fun e w' => e = .returned (.int .i64 0) ∧ w = w' := by
  go_enter Tryd.func14, Tryd.ntmps14
  go_wp2
  go_ret
  exact ⟨rfl, rfl⟩
set_option maxHeartbeats 400000 in
theorem at_yes (b o : Nat) (n : Int) (w : World) (hc : w.cell? ⟨b, o + 1, none⟩ = some (.int .i64 n)) :
    Calls Tryd.prog 13 #[.iface 36 (.pointer (some ⟨b, o, none⟩))] w fun e w' => e = .returned (.tuple #[.int .i64 n, .bool true]) ∧ w = w' := by
  go_enter Tryd.func13, Tryd.ntmps13
  go_wp2_with (go_at_call 18; refine (in_yes _ _).mono ?_; rintro e w' ⟨rfl, rfl⟩)
  go_ret2
  exact ⟨rfl, rfl⟩
set_option maxHeartbeats 400000 in
theorem must_yes (p : Addr) (w : World) :
    Calls Tryd.prog 17 #[.iface 36 (.pointer (some p))] w fun e w' => e = .returned (.pointer (some p)) ∧ w = w' := by
  go_enter Tryd.func17, Tryd.ntmps17
  go_wp2
  go_ret
  exact ⟨rfl, rfl⟩

set_option maxHeartbeats 400000 in
theorem new_yes (n a : Int) (w : World) (h : (n == 0) = false) :
    Calls Tryd.prog 9 #[.int .i64 n, .int .i64 a] w fun e w' => e = .returned (.iface 36 (.pointer (some ⟨w.heap.size, 0, none⟩))) ∧ w.alloc (.cells #[.int .i64 n, .int .i64 a] 39) = w' := by
  go_enter Tryd.func9, Tryd.ntmps9
  go_wp2
  go_ret
  exact ⟨rfl, rfl⟩
set_option maxHeartbeats 400000 in
theorem new_no (a : Int) (w : World) :
    Calls Tryd.prog 9 #[.int .i64 0, .int .i64 a] w fun e w' => e = .returned .nilIface ∧ w = w' := by
  go_enter Tryd.func9, Tryd.ntmps9
  go_wp2
  go_ret
  exact ⟨rfl, rfl⟩
set_option maxHeartbeats 400000 in
theorem itoa3 (w : World) :
    Calls Tryd.prog 37 #[.int .i64 3] w fun e w' => e = .returned (.string ⟨#[51]⟩) ∧ w = w' := by
  go_enter Tryd.func37, Tryd.ntmps37
  go_wp2
  go_ret
  exact ⟨rfl, rfl⟩

theorem quiet_same {P : Program} {f : FuncId} {args : Array Value} {w : World} {n : Nat} {v : Value}
    (h : Calls P f args (w.drewN n) fun e w' => e = .returned v ∧ w.drewN n = w') : Calls P f args (w.drewN n) fun e w'' => e = .returned v ∧ ∃ m, w'' = w.drewN m :=
  h.mono fun _ _ ⟨he, hm⟩ => ⟨he, n, hm.symm⟩
theorem name4 (w : World) (hn : Names w) : Calls Tryd.prog 11 #[.int .i64 4] w fun e w' => e = .returned (.string ⟨#[100, 101, 101, 112]⟩) ∧ w = w' :=
  name_in 4 w (by decide) hn
theorem name15 (w : World) (hn : Names w) : Calls Tryd.prog 11 #[.int .i64 15] w fun e w' => e = .returned (.string ⟨#[102, 117, 108, 108]⟩) ∧ w = w' :=
  name_in 15 w (by decide) hn
theorem Names.drewN {w : World} (h : Names w) (n : Nat) : Names (w.drewN n) := fun k hk => h k hk
set_option maxHeartbeats 400000 in
theorem error43 (b : Nat) (w : World) (hn : Names w) (h0 : w.cell? ⟨b, 0, none⟩ = some (.int .i64 4)) (h1 : w.cell? ⟨b, 1, none⟩ = some (.int .i64 3)) :
    Calls Tryd.prog 36 #[.pointer (some ⟨b, 0, none⟩)] w fun e w' => e = .returned (.string ⟨#[100, 101, 101, 112, 32, 97, 116, 32, 51]⟩) ∧ ∃ n, w' = w.drewN n := by
  go_enter Tryd.func36, Tryd.ntmps36
  go_wp2
  go_quiet (first | (go_at_call 11; exact quiet_same (name4 _ (hn.drewN _))) | (go_at_call 37; exact quiet_same (itoa3 _)))
  go_wp2
  go_ret
  exact ⟨rfl, _, rfl⟩

theorem bcell {W w1 : World} (hb : Below W.heap.size W w1) : (∀ b o, b < W.heap.size → w1.cell? ⟨b, o, none⟩ = W.cell? ⟨b, o, none⟩) ∧ (∀ b o, b < W.heap.size → w1.frozen? ⟨b, o, none⟩ = W.frozen? ⟨b, o, none⟩) :=
  ⟨fun b o h => hb.cell (p := ⟨b, o, none⟩) h, fun b o h => hb.frozen (p := ⟨b, o, none⟩) h⟩
theorem Names.below {W w1 : World} (h : Names W) (hz : 0 < W.heap.size) (hb : Below W.heap.size W w1) : Names w1 :=
  fun k hk => ((bcell hb).1 0 k hz).trans (h k hk)

/-- Memory has grown: nothing that was there has turned. -/
def Gr (w w' : World) : Prop := Below w.heap.size w w' ∧ Grown w w'
theorem Gr.refl (w : World) : Gr w w := ⟨Below.refl _ _, Grown.refl _⟩
theorem Gr.alloc {w w' : World} (h : Gr w w') (c : Array Value) (t : TypeId) : Gr w (w'.alloc (.cells c t)) := ⟨h.1.alloc h.2.2.2 _, h.2.alloc _ _⟩
theorem Gr.drewN {w w' : World} (h : Gr w w') (n : Nat) : Gr w (w'.drewN n) := ⟨⟨h.1.os, h.1.tape, h.1.output, h.1.size, h.1.block⟩, h.2⟩
set_option maxHeartbeats 400000 in
theorem alive_yes (w : World) (hn : Names w) (hz : 0 < w.heap.size) :
    Calls Tryd.prog 8 #[] w fun e w' => e = .returned (.bool true) ∧ Gr w w' := by
  have hN : Names (w.alloc (.cells #[.int .i64 4, .int .i64 3] 39)) := hn.below hz ((Below.refl _ _).alloc (Nat.le_refl _) _)
  have HN := Lib.hid hN
  clear hN hn
  go_enter Tryd.func8, Tryd.ntmps8
  go_wp2_with fail
  refine (new_yes 4 3 _ (by decide)).mono ?_
  rintro e w' ⟨rfl, rfl⟩
  go_wp2_with fail
  refine (add_yes 2 3 _ (by decide) (by decide) (by decide)).mono ?_
  rintro e w' ⟨rfl, rfl⟩
  go_wp2_with fail
  refine (new_no 5 _).mono ?_
  rintro e w' ⟨rfl, rfl⟩
  go_wp2_with fail
  refine (error43 _ _ HN.out (by simp) (by simp)).mono ?_
  rintro e w' ⟨rfl, n, rfl⟩
  go_wp2_with fail
  refine (errno_yes _ 4 _ (by simp)).mono ?_
  rintro e w' ⟨rfl, rfl⟩
  go_wp2_with fail
  refine (errno_nil _).mono ?_
  rintro e w' ⟨rfl, rfl⟩
  go_wp2_with fail
  refine (name15 _ (HN.out.drewN _)).mono ?_
  rintro e w' ⟨rfl, rfl⟩
  go_wp2
  go_ret
  exact ⟨rfl, ((Gr.refl _).alloc _ _).drewN _⟩



theorem run_neq_ptr_other {P : Program} (w : World) {tp te : TypeId} {j : TypeInfo} {a b : Addr} {ca cb : Array Value} {ta tb : TypeId} (hp : P.underlying tp = some (.pointer te)) (hte : P.info? te = some j) (hsz : j.size ≠ 0)
    (hne : a ≠ b) (ha : w.heap[a.block]? = some (.cells ca ta (0, 0))) (hb : w.heap[b.block]? = some (.cells cb tb (0, 0))) :
    (binOp .neq tp (.pointer (some a)) (.pointer (some b))).run P w = .ok (.bool true) w := by
  have h : ∀ d : Nat, (Op.equalIn (d + 1) tp (.pointer (some a)) (.pointer (some b))).run P w = .ok false w := fun d => by
    simp [Op.equalIn, run_underlying hp, sizeOf, typeInfo, hte, hsz, run_sameAddr_other w hne ha hb]
  simp only [binOp]
  simp [Op.equal, Op.maxDepth, h 9999]
theorem info39 : (Tryd.prog.info? 39).map (·.size) = some 2 := by kernel_rfl
theorem neq_two (w : World) (c1 c2 : Array Value) :
    (binOp .neq 36 (.pointer (some ⟨w.heap.size, 0, none⟩)) (.pointer (some ⟨w.heap.size + 1, 0, none⟩))).run Tryd.prog ((w.alloc (.cells c1 39)).alloc (.cells c2 39)) = .ok (.bool true) ((w.alloc (.cells c1 39)).alloc (.cells c2 39)) := by
  obtain ⟨j, hj, hs⟩ := Option.map_eq_some_iff.1 info39
  refine run_neq_ptr_other (te := 39) (j := j) (ca := c1) (cb := c2) (ta := 39) (tb := 39) _ Tryd.underlying36 hj (by rw [hs]; decide) (fun e => ?_) ?_ ?_
  · have := congrArg Addr.block e
    simp at this
  · show ((w.heap.push _).push _)[_]? = _
    simp only [Array.getElem?_push, Array.size_push]
    rw [if_neg (by omega), if_pos trivial]
  · show ((w.heap.push _).push _)[_]? = _
    simp only [Array.getElem?_push, Array.size_push]
    rw [if_pos trivial]
theorem Names.gr {W w1 : World} (h : Names W) (hz : 0 < W.heap.size) (hb : Gr W w1) : Names w1 := h.below hz hb.1

set_option maxHeartbeats 400000 in
theorem names_in (n : Nat) (b : Int) (w : World) (hn : Names w) (hz : 0 < w.heap.size) (ha : n < 16) (y : ByteArray)
    (hb : ∀ w, Names w → Calls Tryd.prog 11 #[.int .i64 b] w fun e w' => e = .returned (.string y) ∧ w = w')
    (hx : (nameBytes n).toList.isEmpty = false) (hy : ((n : Int) == b || !(nameBytes n).toList == y.toList) = true) :
    Calls Tryd.prog 5 #[.int .i64 n, .int .i64 b] w fun e w' => e = .returned (.bool true) ∧ Gr w w' := by
  have HN := Lib.hid hn
  have HB := Lib.hid hb
  have HY := Lib.hid hy
  clear hn hb hy
  go_enter Tryd.func5, Tryd.ntmps5
  go_wp2_with fail
  refine (alive_yes _ HN.out hz).mono ?_
  rintro e w' ⟨rfl, hg⟩
  go_wp2_with fail
  refine (name_in n _ ha (HN.out.gr hz hg)).mono ?_
  rintro e w' ⟨rfl, rfl⟩
  go_wp2_with fail
  refine (HB.out _ (HN.out.gr hz hg)).mono ?_
  rintro e w' ⟨rfl, rfl⟩
  go_wp2
  · go_ret
    exact ⟨rfl, hg⟩
  · go_ret
    exact ⟨by show Ending.returned (.bool (_ || _)) = _; rw [HY.out], hg⟩
set_option maxHeartbeats 400000 in
theorem names_out (a b : Int) (w : World) (hn : Names w) (hz : 0 < w.heap.size) (ha : a < 0 ∨ 16 ≤ a) (y : ByteArray)
    (hb : ∀ w, Names w → Calls Tryd.prog 11 #[.int .i64 b] w fun e w' => e = .returned (.string y) ∧ w = w') :
    Calls Tryd.prog 5 #[.int .i64 a, .int .i64 b] w fun e w' => e = .returned (.bool true) ∧ Gr w w' := by
  have HN := Lib.hid hn
  have HB := Lib.hid hb
  have HA := Lib.hid ha
  clear hn hb
  rcases ha with h | h
  all_goals
    go_enter Tryd.func5, Tryd.ntmps5
    go_wp2_with fail
    refine (alive_yes _ HN.out hz).mono ?_
    rintro e w' ⟨rfl, hg⟩
    go_wp2_with fail
    refine (name_out a _ HA.out).mono ?_
    rintro e w' ⟨rfl, rfl⟩
    go_wp2_with fail
    refine (HB.out _ (HN.out.gr hz hg)).mono ?_
    rintro e w' ⟨rfl, rfl⟩
    go_wp2
    go_ret
    exact ⟨rfl, hg⟩
theorem name_full : ∀ n : Nat, n < 16 → (nameBytes n).toList.isEmpty = false := by simp only [ByteArray.toList_eq]; decide
theorem name_apart : ∀ n : Nat, n < 16 → ∀ m : Nat, m < 16 → n ≠ m → ((nameBytes n).toList == (nameBytes m).toList) = false := by simp only [ByteArray.toList_eq]; decide
theorem name_none : ∀ n : Nat, n < 16 → ((nameBytes n).toList == (ByteArray.mk #[]).toList) = false := by simp only [ByteArray.toList_eq]; decide
theorem names_any (a b : Int) (w : World) (hn : Names w) (hz : 0 < w.heap.size) :
    Calls Tryd.prog 5 #[.int .i64 a, .int .i64 b] w fun e w' => e = .returned (.bool true) ∧ Gr w w' := by
  by_cases hb : 0 ≤ b ∧ b < 16
  · obtain ⟨m, rfl⟩ := Int.eq_ofNat_of_zero_le hb.1
    have hm : m < 16 := by omega
    by_cases ha : 0 ≤ a ∧ a < 16
    · obtain ⟨n, rfl⟩ := Int.eq_ofNat_of_zero_le ha.1
      have hn' : n < 16 := by omega
      refine names_in n m w hn hz hn' (nameBytes m) (fun w hw => name_in m w hm hw) (name_full n hn') ?_
      by_cases e : n = m
      · subst e; simp
      · rw [name_apart n hn' m hm e]; simp
    · exact names_out a m w hn hz (by omega) (nameBytes m) (fun w hw => name_in m w hm hw)
  · by_cases ha : 0 ≤ a ∧ a < 16
    · obtain ⟨n, rfl⟩ := Int.eq_ofNat_of_zero_le ha.1
      have hn' : n < 16 := by omega
      refine names_in n b w hn hz hn' ⟨#[]⟩ (fun w _ => name_out b w (by omega)) (name_full n hn') ?_
      rw [name_none n hn']; simp
    · exact names_out a b w hn hz (by omega) ⟨#[]⟩ (fun w _ => name_out b w (by omega))
set_option maxHeartbeats 400000 in
theorem apart_no (n m a t : Int) (w : World) (hn : Names w) (hz : 0 < w.heap.size) (h : (n == 0) = true ∨ (m == 0) = true) :
    Calls Tryd.prog 6 #[.int .i64 n, .int .i64 m, .int .i64 a, .int .i64 t] w fun e w' => e = .returned (.bool true) ∧ Gr w w' := by
  have HN := Lib.hid hn
  clear hn
  by_cases h0 : (n == 0) = true
  · go_enter Tryd.func6, Tryd.ntmps6
    go_wp2_with fail
    refine (alive_yes _ HN.out hz).mono ?_
    rintro e w' ⟨rfl, hg⟩
    go_wp2
    go_ret
    exact ⟨rfl, hg⟩
  · have h1 : (m == 0) = true := h.resolve_left h0
    have h2 : (n == 0) = false := by simpa using h0
    clear h h0
    go_enter Tryd.func6, Tryd.ntmps6
    go_wp2_with fail
    refine (alive_yes _ HN.out hz).mono ?_
    rintro e w' ⟨rfl, hg⟩
    go_wp2
    go_ret
    exact ⟨rfl, hg⟩
set_option maxHeartbeats 400000 in
theorem apart_yes (n m a t : Int) (w : World) (hn : Names w) (hz : 0 < w.heap.size) (h0 : (n == 0) = false) (h1 : (m == 0) = false) :
    Calls Tryd.prog 6 #[.int .i64 n, .int .i64 m, .int .i64 a, .int .i64 t] w fun e w' => e = .returned (.bool true) ∧ Gr w w' := by
  have HN := Lib.hid hn
  clear hn
  have hq := fun w => neq_two w #[.int .i64 n, .int .i64 a] #[.int .i64 m, .int .i64 t]
  go_enter Tryd.func6, Tryd.ntmps6
  go_wp2_with fail
  refine (alive_yes _ HN.out hz).mono ?_
  rintro e w' ⟨rfl, hg⟩
  go_wp2_with fail
  refine (new_yes n a _ h0).mono ?_
  rintro e w2 ⟨rfl, rfl⟩
  go_wp2_with fail
  refine (new_yes m t _ h1).mono ?_
  rintro e w2 ⟨rfl, rfl⟩
  go_wp2_with fail
  refine (at_yes _ _ a _ (by simp)).mono ?_
  rintro e w2 ⟨rfl, rfl⟩
  go_wp2_with fail
  refine (at_yes _ _ t _ (by simp)).mono ?_
  rintro e w2 ⟨rfl, rfl⟩
  go_wp2_with fail
  refine (errno_yes _ n _ (by simp)).mono ?_
  rintro e w2 ⟨rfl, rfl⟩
  go_wp2_with fail
  refine (errno_yes _ m _ (by simp)).mono ?_
  rintro e w2 ⟨rfl, rfl⟩
  go_wp2_with fail
  refine (must_yes _ _).mono ?_
  rintro e w2 ⟨rfl, rfl⟩
  go_wp2_with fail
  refine (must_yes _ _).mono ?_
  rintro e w2 ⟨rfl, rfl⟩
  go_wp2
  go_ret
  exact ⟨rfl, (hg.alloc _ _).alloc _ _⟩
-- THE LAWS
theorem add_comm' (a b : Int) (w : World) (h0 : 0 ≤ a) (h1 : 0 ≤ b) (h2 : a ≤ 9223372036854775807 - b) :
    Calls Tryd.prog 10 #[.int .i64 b, .int .i64 a] w fun e w' => e = .returned (.tuple #[.int .i64 (a + b), .bool true]) ∧ w = w' := by
  rw [Int.add_comm a b]
  exact add_yes b a w h1 h0 (by omega)
theorem add_zero' (a : Int) (w : World) (h0 : 0 ≤ a) (h2 : a ≤ 9223372036854775807) :
    Calls Tryd.prog 10 #[.int .i64 a, .int .i64 0] w fun e w' => e = .returned (.tuple #[.int .i64 a, .bool true]) ∧ w = w' := by
  have h := add_yes a 0 w h0 (by decide) (by omega)
  rw [Int.add_zero] at h
  exact h
set_option maxHeartbeats 400000 in
theorem sums_any (a b : Int) (w : World) (hn : Names w) (hz : 0 < w.heap.size) (ha : -9223372036854775808 ≤ a ∧ a ≤ 9223372036854775807) (hb : -9223372036854775808 ≤ b ∧ b ≤ 9223372036854775807) :
    Calls Tryd.prog 4 #[.int .i64 a, .int .i64 b] w fun e w' => e = .returned (.bool true) ∧ Gr w w' := by
  have HN := Lib.hid hn
  clear hn
  by_cases h : 0 ≤ a ∧ 0 ≤ b ∧ a ≤ 9223372036854775807 - b
  · obtain ⟨h0, h1, h2⟩ := h
    obtain ⟨ha1, ha2⟩ := ha
    have q1 : a ≤ a + b := by omega
    have q2 : b ≤ a + b := by omega
    go_enter Tryd.func4, Tryd.ntmps4
    go_wp2_with fail
    refine (alive_yes _ HN.out hz).mono ?_
    rintro e w' ⟨rfl, hg⟩
    go_wp2_with fail
    refine (add_yes a b _ h0 h1 h2).mono ?_
    rintro e w' ⟨rfl, rfl⟩
    go_wp2_with fail
    refine (add_comm' a b _ h0 h1 h2).mono ?_
    rintro e w' ⟨rfl, rfl⟩
    go_wp2_with fail
    refine (add_zero' a _ h0 ha2).mono ?_
    rintro e w' ⟨rfl, rfl⟩
    go_wp2
    go_ret
    exact ⟨rfl, hg⟩
  · have H := Lib.hid h
    clear h
    by_cases h0 : 0 ≤ a
    · go_enter Tryd.func4, Tryd.ntmps4
      go_wp2_with fail
      refine (alive_yes _ HN.out hz).mono ?_
      rintro e w' ⟨rfl, hg⟩
      go_wp2_with fail
      refine (add_no a b _ ha hb H.out).mono ?_
      rintro e w' ⟨rfl, rfl⟩
      go_wp2_with fail
      refine (add_no b a _ hb ha (by have := H.out; omega)).mono ?_
      rintro e w' ⟨rfl, rfl⟩
      go_wp2_with fail
      refine (add_zero' a _ h0 ha.2).mono ?_
      rintro e w' ⟨rfl, rfl⟩
      go_wp2
      go_ret
      exact ⟨rfl, hg⟩
    · have hd : decide (0 ≤ a) = false := by simpa using h0
      go_enter Tryd.func4, Tryd.ntmps4
      go_wp2_with fail
      refine (alive_yes _ HN.out hz).mono ?_
      rintro e w' ⟨rfl, hg⟩
      go_wp2_with fail
      refine (add_no a b _ ha hb H.out).mono ?_
      rintro e w' ⟨rfl, rfl⟩
      go_wp2_with fail
      refine (add_no b a _ hb ha (by have := H.out; omega)).mono ?_
      rintro e w' ⟨rfl, rfl⟩
      go_wp2_with fail
      refine (add_no a 0 _ ha (by decide) (by omega)).mono ?_
      rintro e w' ⟨rfl, rfl⟩
      go_wp2
      go_ret
      exact ⟨rfl, hg⟩
end Go.Proofs.YthlcemaiefldfaaDoor
