/-
  LAWS of chapter 9: EventTells.
-/
import Derived.Test.YtnhabheofdifhaaEvM
namespace Go.Proofs.Ytnhabheofdifhaa
open Go.RowKit
open Go.Lib
theorem T4.drew {W w : World} {p q x y : Nat} {a b X Y : Ev} (h : T4 W p q x y a b X Y w) : T4 W p q x y a b X Y w.drew := ⟨h.op, h.oq, h.ox, h.oy, below_drw h.bl⟩
set_option maxHeartbeats 4000000 in
theorem tells_core (ak : Int) (ay : Bool) (am : Nat) (at' : ByteArray) (ac bk : Int) (bY : Bool) (bm : Nat) (bt : ByteArray) (bc xk : Int) (xy : Bool) (xm : Nat) (xt : ByteArray) (xc yk : Int) (yy : Bool) (ym : Nat) (yt : ByteArray) (yc : Int) (va vb : Value) (SB : Bool) (N : Int)
    (w : World) (hz1 : at'.size ≤ 300) (hz2 : bt.size ≤ 300)
    (hOa : ∀ w, Calls Try.prog 10 #[evV ⟨ak, ay, am, at', ac⟩] w fun r w' => r = .returned (.tuple #[va, .bool true]) ∧ Below w.heap.size w w')
    (hOb : ∀ w, Calls Try.prog 10 #[evV ⟨bk, bY, bm, bt, bc⟩] w fun r w' => r = .returned (.tuple #[vb, .bool true]) ∧ Below w.heap.size w w')
    (hMa : ∀ w, Calls Try.prog 11 #[evV ⟨ak, ay, am, at', ac⟩] w fun r w' => r = .returned (.bool true) ∧ Below w.heap.size w w')
    (hMb : ∀ w, Calls Try.prog 11 #[evV ⟨bk, bY, bm, bt, bc⟩] w fun r w' => r = .returned (.bool true) ∧ Below w.heap.size w w')
    (hPa : ∀ w, Calls Try.prog 12 #[va] w fun r w' => r = .returned (.tuple #[evV ⟨xk, xy, xm, xt, xc⟩, .bool true]) ∧ Below w.heap.size w w')
    (hPb : ∀ w, Calls Try.prog 12 #[vb] w fun r w' => r = .returned (.tuple #[evV ⟨yk, yy, ym, yt, yc⟩, .bool true]) ∧ Below w.heap.size w w')
    (hTa : ∀ w, Calls Try.prog 13 #[evV ⟨ak, ay, am, at', ac⟩] w fun r w' => r = .returned (evV ⟨xk, xy, xm, xt, xc⟩) ∧ Below w.heap.size w w')
    (hTb : ∀ w, Calls Try.prog 13 #[evV ⟨bk, bY, bm, bt, bc⟩] w fun r w' => r = .returned (evV ⟨yk, yy, ym, yt, yc⟩) ∧ Below w.heap.size w w')
    (hS : ∀ w, Calls Try.prog 14 #[va, vb] w fun r w' => r = .returned (.bool SB) ∧ Below w.heap.size w w')
    (hZ : ∀ w, Calls Try.prog 15 #[va] w fun r w' => r = .returned (.int .i64 N) ∧ Below w.heap.size w w')
    (hR : ∀ w, Calls Try.prog 16 #[evV ⟨xk, xy, xm, xt, xc⟩] w fun r w' => r = .returned (.int .i64 N) ∧ Below w.heap.size w w')
    (eX : ∀ W, (binOp .neq 24 (evV ⟨xk, xy, xm, xt, xc⟩) (evV ⟨xk, xy, xm, xt, xc⟩)).run Try.prog W = .ok (.bool false) W) (eY : ∀ W, (binOp .neq 24 (evV ⟨yk, yy, ym, yt, yc⟩) (evV ⟨yk, yy, ym, yt, yc⟩)).run Try.prog W = .ok (.bool false) W)
    (eS : ∀ W, (binOp .eql 24 (evV ⟨xk, xy, xm, xt, xc⟩) (evV ⟨yk, yy, ym, yt, yc⟩)).run Try.prog W = .ok (.bool SB) W)
    (hk : (ak ≠ 3 ∧ ∀ w, Calls Try.prog 17 #[va] w fun r w' => r = .returned (.bool true) ∧ Below w.heap.size w w') ∨ (ak = 3 ∧ va = .iface 49 (.string at'))) :
    Calls Try.prog 3 #[evV ⟨ak, ay, am, at', ac⟩, evV ⟨bk, bY, bm, bt, bc⟩] w fun e w' => e = .returned (.bool true) ∧ Below w.heap.size w w' := by
  have hy : ((300 : Int) < (at'.size : Int)) = False := by simp; omega
  have hz : ((300 : Int) < (bt.size : Int)) = False := by simp; omega
  have hSB : (SB != SB) = false := by cases SB <;> rfl
  have hNN : (N != N) = false := by simp
  have HK := Lib.hid hk
  clear hz1 hz2 hk
  simp only [evV] at hOa hOb hMa hMb hPa hPb hTa hTb hR eX eY eS ⊢
  have OA := Lib.hid hOa
  have OB := Lib.hid hOb
  have MA := Lib.hid hMa
  have MB := Lib.hid hMb
  have PA := Lib.hid hPa
  have PB := Lib.hid hPb
  clear hOa hOb hMa hMb hPa hPb
  have EX := Lib.hid eX
  have EY := Lib.hid eY
  have ES := Lib.hid eS
  clear eX eY eS
  have G : ∀ (f : Nat) (args : Array Value) (u : Value) (p q x y : Nat), (∀ w, Calls Try.prog f args w fun r w' => r = .returned u ∧ Below w.heap.size w w') → ∀ v, S4 w p q x y ⟨ak, ay, am, at', ac⟩ ⟨bk, bY, bm, bt, bc⟩ ⟨xk, xy, xm, xt, xc⟩ ⟨yk, yy, ym, yt, yc⟩ v →
      Calls Try.prog f args v fun r w' => r = .returned u ∧ S4 w p q x y ⟨ak, ay, am, at', ac⟩ ⟨bk, bY, bm, bt, bc⟩ ⟨xk, xy, xm, xt, xc⟩ ⟨yk, yy, ym, yt, yc⟩ w' := fun f args u p q x y h v hv =>
    (h v).mono fun r w' ⟨h1, h2⟩ => ⟨h1, (hv.2.2.2.2.out.go h2).s⟩
  have TA := Lib.hid fun p q x y => G _ _ _ p q x y hTa
  have TB := Lib.hid fun p q x y => G _ _ _ p q x y hTb
  have SC := Lib.hid fun p q x y => G _ _ _ p q x y hS
  have ZC := Lib.hid fun p q x y => G _ _ _ p q x y hZ
  have RC := Lib.hid fun p q x y => G _ _ _ p q x y hR
  clear G hTa hTb hS hZ hR
  go_enter Try.func3, Try.ntmps3
  go_wp2_with fail
  refine (ev_alive _).mono ?_
  rintro e w1 ⟨rfl, b1⟩
  have T1 : Hid (T2 w w.heap.size (w.heap.size + 1) ⟨ak, ay, am, at', ac⟩ ⟨bk, bY, bm, bt, bc⟩ w1) := Lib.hid ((t2_new w _ _).go b1)
  clear b1
  obtain ⟨e0, e1, e2, e3, e4⟩ := T1.out.fa
  simp only at e0 e1 e2 e3 e4
  go_wp2_with fail
  refine (OA.out _).mono ?_
  rintro e w2 ⟨rfl, b2⟩
  have T2_ := Lib.hid (T1.out.go b2)
  clear b2 e0 e1 e2 e3 e4
  obtain ⟨e0, e1, e2, e3, e4⟩ := T2_.out.fb
  simp only at e0 e1 e2 e3 e4
  go_wp2_with fail
  refine (OB.out _).mono ?_
  rintro e w3 ⟨rfl, b3⟩
  have T3 := Lib.hid (T2_.out.go b3)
  clear b3 e0 e1 e2 e3 e4
  obtain ⟨e0, e1, e2, e3, e4⟩ := T3.out.fa
  simp only at e0 e1 e2 e3 e4
  go_wp2_with fail
  refine (MA.out _).mono ?_
  rintro e w4 ⟨rfl, b4⟩
  have T4_ := Lib.hid (T3.out.go b4)
  obtain ⟨f0, f1, f2, f3, f4⟩ := T4_.out.fb
  simp only at f0 f1 f2 f3 f4
  clear b4
  go_wp2_with fail
  refine (MB.out _).mono ?_
  rintro e w5 ⟨rfl, b5⟩
  have T5 := Lib.hid (T4_.out.go b5)
  clear b5 T1 T2_ T3 T4_ f0 f1 f2 f3 f4 e0 e1 e2 e3 e4
  go_wp2_with fail
  refine (PA.out _).mono ?_
  rintro e w6 ⟨rfl, b6⟩
  have T6 := Lib.hid (T5.out.go b6)
  clear b6 T5
  go_wp2_with fail
  refine (PB.out _).mono ?_
  rintro e w7 ⟨rfl, b7⟩
  have T7 : Hid (T4 w w.heap.size (w.heap.size + 1) w6.heap.size w7.heap.size ⟨ak, ay, am, at', ac⟩ ⟨bk, bY, bm, bt, bc⟩ ⟨xk, xy, xm, xt, xc⟩ ⟨yk, yy, ym, yt, yc⟩ (w7.alloc (.cells #[.int .i64 yk, .bool yy, .int .u64 (ym : Int), .string yt, .int .i64 yc] 24))) :=
    Lib.hid ⟨((T6.out.op.alloc _).go b7).alloc _, ((T6.out.oq.alloc _).go b7).alloc _, ((blk_new w6 _ _).go b7).alloc _, blk_new w7 _ _, up_alloc (up_trans (up_alloc T6.out.bl _) b7) _⟩
  clear b7 T6 OA OB MA MB PA PB
  go_wp2
  generalize w7.alloc (.cells #[.int .i64 yk, .bool yy, .int .u64 (ym : Int), .string yt, .int .i64 yc] 24) = W8 at T7 ⊢
  generalize w6.heap.size = px at T7 ⊢
  generalize w7.heap.size = py at T7 ⊢
  have HS : S4 w w.heap.size (w.heap.size + 1) px py ⟨ak, ay, am, at', ac⟩ ⟨bk, bY, bm, bt, bc⟩ ⟨xk, xy, xm, xt, xc⟩ ⟨yk, yy, ym, yt, yc⟩ W8.drew := T7.out.drew.s
  have ex := EX.out
  have ey := EY.out
  have es := ES.out
  go_region_held3 (S4 w w.heap.size (w.heap.size + 1) px py ⟨ak, ay, am, at', ac⟩ ⟨bk, bY, bm, bt, bc⟩ ⟨xk, xy, xm, xt, xc⟩ ⟨yk, yy, ym, yt, yc⟩) (first | assumption)
    (first
      | ((go_at_call 13); (with_reducible first | refine (TA.out _ _ _ _ _ (by assumption)).mono ?_ | refine (TB.out _ _ _ _ _ (by assumption)).mono ?_); rintro e v1 ⟨rfl, h1⟩)
      | ((go_at_call 14); (with_reducible refine (SC.out _ _ _ _ _ (by assumption)).mono ?_); rintro e v1 ⟨rfl, h1⟩)
      | ((go_at_call 15); (with_reducible refine (ZC.out _ _ _ _ _ (by assumption)).mono ?_); rintro e v1 ⟨rfl, h1⟩)
      | ((go_at_call 16); (with_reducible refine (RC.out _ _ _ _ _ (by assumption)).mono ?_); rintro e v1 ⟨rfl, h1⟩))
  all_goals
    have HT := Lib.hid (by assumption : S4 w w.heap.size (w.heap.size + 1) px py ⟨ak, ay, am, at', ac⟩ ⟨bk, bY, bm, bt, bc⟩ ⟨xk, xy, xm, xt, xc⟩ ⟨yk, yy, ym, yt, yc⟩ _).2.2.2.2.out
    clear ex ey es EX EY ES TA TB SC ZC RC HS T7
    obtain ⟨⟨e0, e1, e2, e3, e4⟩, _⟩ := HT.out.op.ev
    rcases HK.out with ⟨h3, hp⟩ | ⟨rfl, rfl⟩
    · have q3 : (ak == 3) = false := by simpa using h3
      have HP := Lib.hid hp
      clear h3 hp HK
      go_wp2_with fail
      refine (HP.out _).mono ?_
      rintro e v5 ⟨rfl, b5⟩
      have HF := Lib.hid (up_trans HT.out.bl b5)
      clear b5
      go_wp2
      go_ret
      exact ⟨rfl, HF.out⟩
    · clear HK
      have HT2 := Lib.hid HT.out.drew
      have hcl : v1.drew.cell? ⟨w.heap.size, 3, none⟩ = some (.string at') := (HT2.out.op.ev).1.2.2.2.1
      have hSd : v1.drew.cell? ⟨w.heap.size, 3, none⟩ = some (.string at') ∧ Hid (T4 w w.heap.size (w.heap.size + 1) px py ⟨3, ay, am, at', ac⟩ ⟨bk, bY, bm, bt, bc⟩ ⟨xk, xy, xm, xt, xc⟩ ⟨yk, yy, ym, yt, yc⟩ v1.drew) := ⟨hcl, HT2⟩
      have heq : (at'.toList == at'.toList) = true := by simp
      have PN : Hid (∀ v, (v.cell? ⟨w.heap.size, 3, none⟩ = some (.string at') ∧ Hid (T4 w w.heap.size (w.heap.size + 1) px py ⟨3, ay, am, at', ac⟩ ⟨bk, bY, bm, bt, bc⟩ ⟨xk, xy, xm, xt, xc⟩ ⟨yk, yy, ym, yt, yc⟩ v)) → Calls Try.prog 17 #[.iface 49 (.string at')] v fun r w' => r = .returned (.bool false) ∧ (w'.cell? ⟨w.heap.size, 3, none⟩ = some (.string at') ∧ Hid (T4 w w.heap.size (w.heap.size + 1) px py ⟨3, ay, am, at', ac⟩ ⟨bk, bY, bm, bt, bc⟩ ⟨xk, xy, xm, xt, xc⟩ ⟨yk, yy, ym, yt, yc⟩ w'))) :=
        Lib.hid fun v hv => (panics_no at' v).mono fun r w' ⟨h1, h2⟩ => ⟨h1, ((hv.2.out.go h2).op.ev).1.2.2.2.1, Lib.hid (hv.2.out.go h2)⟩
      have MN : Hid (∀ v, (v.cell? ⟨w.heap.size, 3, none⟩ = some (.string at') ∧ Hid (T4 w w.heap.size (w.heap.size + 1) px py ⟨3, ay, am, at', ac⟩ ⟨bk, bY, bm, bt, bc⟩ ⟨xk, xy, xm, xt, xc⟩ ⟨yk, yy, ym, yt, yc⟩ v)) → Calls Try.prog 18 #[.iface 49 (.string at')] v fun r w' => r = .returned (.string at') ∧ (w'.cell? ⟨w.heap.size, 3, none⟩ = some (.string at') ∧ Hid (T4 w w.heap.size (w.heap.size + 1) px py ⟨3, ay, am, at', ac⟩ ⟨bk, bY, bm, bt, bc⟩ ⟨xk, xy, xm, xt, xc⟩ ⟨yk, yy, ym, yt, yc⟩ w'))) :=
        Lib.hid fun v hv => (must_text at' v).mono fun r w' ⟨h1, h2⟩ => ⟨h1, by rw [h2]; exact hv⟩
      go_wp2
      go_region_held3 (fun w' => w'.cell? ⟨w.heap.size, 3, none⟩ = some (.string at') ∧ Hid (T4 w w.heap.size (w.heap.size + 1) px py ⟨3, ay, am, at', ac⟩ ⟨bk, bY, bm, bt, bc⟩ ⟨xk, xy, xm, xt, xc⟩ ⟨yk, yy, ym, yt, yc⟩ w')) (first | assumption)
        (first
          | ((go_at_call 17); (with_reducible refine (PN.out _ (by assumption)).mono ?_); rintro e v2 ⟨rfl, h2⟩)
          | ((go_at_call 18); (with_reducible refine (MN.out _ (by assumption)).mono ?_); rintro e v2 ⟨rfl, h2⟩))
      all_goals
        have HF := Lib.hid (by assumption : _ ∧ Hid (T4 w w.heap.size (w.heap.size + 1) px py ⟨3, ay, am, at', ac⟩ ⟨bk, bY, bm, bt, bc⟩ ⟨xk, xy, xm, xt, xc⟩ ⟨yk, yy, ym, yt, yc⟩ _)).2.out.bl
        go_wp2
        go_ret
        exact ⟨rfl, HF.out⟩
theorem tells_any (a b : Ev) (w : World) : Calls Try.prog 3 #[evV a, evV b] w fun e w' => e = .returned (.bool true) ∧ Below w.heap.size w w' := by
  by_cases h1 : a.t.size ≤ 300
  · by_cases h2 : b.t.size ≤ 300
    · by_cases hm : mayE a ∧ mayE b
      · have hOa := fun w => of_any a w
        have hOb := fun w => of_any b w
        have hMa := fun w => may_any a w
        have hMb := fun w => may_any b w
        simp only [if_pos hm.1, decide_eq_true hm.1] at hOa hMa
        simp only [if_pos hm.2, decide_eq_true hm.2] at hOb hMb
        have hPa := fun w => plain_any a hm.1 w
        have hPb := fun w => plain_any b hm.2 w
        have hTa := fun w => tidy_any a hm.1 w
        have hTb := fun w => tidy_any b hm.2 w
        have hS := fun w => same_any a b hm.1 hm.2 w
        have hsz : (tidyE a).t.size ≤ 1000 := Nat.le_trans (tidy_small h1) (by omega)
        have hZ := fun w => size_by (valE a) (tidyE a) true hsz hPa w
        have hR := fun w => ref_size (tidyE a) hsz w
        simp only [size_tidy] at hR
        simp only [if_true] at hZ
        have eX := fun W => ev_neq (tidyE a) (tidyE a) W
        have eY := fun W => ev_neq (tidyE b) (tidyE b) W
        simp only [sameE_refl, Bool.not_true] at eX eY
        have eS := fun W => ev_eql (tidyE a) (tidyE b) W
        have hk : (a.k ≠ 3 ∧ ∀ w, Calls Try.prog 17 #[valE a] w fun r w' => r = .returned (.bool true) ∧ Below w.heap.size w w') ∨ (a.k = 3 ∧ valE a = .iface 49 (.string a.t)) := by
          by_cases h3 : a.k = 3
          · exact .inr ⟨h3, by unfold valE; rw [if_neg (by omega), if_neg (by omega), if_pos h3]⟩
          · exact .inl ⟨h3, fun w => panics_yes _ (val_not_word h3) w⟩
        exact tells_core a.k a.y a.m a.t a.c b.k b.y b.m b.t b.c (tidyE a).k (tidyE a).y (tidyE a).m (tidyE a).t (tidyE a).c (tidyE b).k (tidyE b).y (tidyE b).m (tidyE b).t (tidyE b).c (valE a) (valE b) (sameE (tidyE a) (tidyE b)) _ w h1 h2 hOa hOb hMa hMb hPa hPb hTa hTb hS hZ hR eX eY eS hk
      · exact tells_none a b w h1 h2 hm
    · exact tells_long_b a b w h1 h2
  · exact tells_long_a a b w h1
end Go.Proofs.Ytnhabheofdifhaa
