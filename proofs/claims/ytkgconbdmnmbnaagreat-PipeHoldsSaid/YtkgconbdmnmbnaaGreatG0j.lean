/-
  Parts: PinPe, PinPf, PinPg, PinPc.
-/
import Derived.Test.YtkgconbdmnmbnaaGreatG0i
import Derived.StillTailTactics
set_option maxRecDepth 100000
set_option maxHeartbeats 16000000
open Go.Lib (hid)
namespace Go.Proofs.YtkgconbdmnmbnaaGreat
section
open Go.RowKit
open Go.Lib
def kdK (k : Nat) : Nat := if k = 0 then 1 else if k = 1 then 3 else if k = 2 then 7 else if k = 3 then 8 else if k = 4 then 9 else 10
def fmW (w : Nat) : Nat := if w = 1 then 24 else if w = 2 then 25 else if w = 4 then 26 else 27
def StM (w : World) (b o D : Nat) (s : Pm) (vt vs : Value) : Prop :=
  match s with
  | .c (.bad e) => e ≠ 0 ∧ Room w b o 20 ∧ w.cell? ⟨b, o + 1, none⟩ = some (.int .i64 D)
  | .c (.item s dn) => ∃ kd nm fm h, PP w b o D (if dn = true then 3 else 0) kd nm fm h 0 0 vt [] st0 vs s.length (inP s)
  | .c (.text s m n t u) => ∃ kd nm fm h, PP w b o D 2 kd nm fm h (tkT m) n vt t u vs s.length (inP s)
  | .num s k q n a => ∃ nm, PP w b o D 1 (kdK k) nm (fmW q) (.mid 0 n a) 0 0 vt [] st0 vs s.length (inP s)
  | _ => False
structure GoM (w0 w w' : World) (b o D : Nat) (vt vs : Value) (q : Pm × List Ev) (x : Value) : Prop where
  vls : Vls w0 w' x q.2
  st : ∃ vt' vs', StM w' b o D q.1 vt' vs' ∧ ∀ k ∈ Value.owner vt' ++ Value.owner vs', k ∈ Value.owner vt ++ Value.owner vs ∨ w.heap.size ≤ k
  sub : Subg (Value.owner vt ++ Value.owner vs) b o 20 w w'
theorem GoM.from_ {w0 w w1 w' : World} {b o D : Nat} {vt vs vt1 : Value} {q : Pm × List Ev} {x : Value} (h : GoM w0 w1 w' b o D vt1 vs q x) (hS : Subg (Value.owner vt ++ Value.owner vs) b o 20 w w1) (ho : ∀ k ∈ Value.owner vt1, k ∈ Value.owner vt ∨ w.heap.size ≤ k) : GoM w0 w w' b o D vt vs q x := by
  have hg : ∀ k ∈ Value.owner vt1 ++ Value.owner vs, k ∈ Value.owner vt ++ Value.owner vs ∨ w.heap.size ≤ k := fun k hk => by
    rcases List.mem_append.1 hk with hk | hk
    · exact (ho k hk).imp (fun h => List.mem_append.2 (.inl h)) id
    · exact .inl (List.mem_append.2 (.inr hk))
  obtain ⟨vt', vs', hst, ho'⟩ := h.st; exact ⟨h.vls, ⟨vt', vs', hst, fun k hk => (ho' k hk).elim (hg k) (fun h2 => .inr (Nat.le_trans hS.size h2))⟩, hS.trans h.sub hg⟩
theorem GoM.up {w0 w w1 w' : World} {b o D : Nat} {vt vs : Value} {q : Pm × List Ev} {x : Value} (h : GoM w0 w1 w' b o D vt vs q x) (hB : Below w.heap.size w w1) (hb : b < w.heap.size) : GoM w0 w w' b o D vt vs q x :=
  h.from_ (subg_below hB hb _ _ _) (fun _ hk => .inl hk)
theorem pends_go {w0 w w1 w' : World} {b o D kd nm fm : Nat} {h : Hd} {vt vs v vs1 : Value} {s : List Bx} {L : List Ev} {x : Value} {vt1 : Value} (hE : EndsQ w0 w1 w' b o D kd nm fm h 0 0 vt1 [] st0 v vs1 s L x) (hvt : Value.owner vt1 = [] ∨ vt1 = vt) (ho : Value.owner vs1 = Value.owner vs)
    (hv : ∀ k ∈ Value.owner v, w.heap.size ≤ k) (hS : Subg (Value.owner vt ++ Value.owner vs) b o 20 w w1) : GoM w0 w w' b o D vt vs (.c (atC s), L ++ endsC s) x := by
  obtain ⟨vs', hc, hvs⟩ := hE.cp; refine ⟨hE.vls, ⟨vt1, vs', ?_, fun k hk => ?_⟩, hS.trans hE.sub (fun k hk => ?_)⟩
  · refine ⟨kd, nm, fm, h, ?_⟩
    simpa [plE] using hc
  · rcases List.mem_append.1 hk with hk | hk
    · rcases hvt with e | e
      · rw [e] at hk; cases hk
      · rw [e] at hk; exact .inl (List.mem_append.2 (.inl hk))
    · rw [hvs, ho] at hk
      exact .inl (List.mem_append.2 (.inr hk))
  · rcases List.mem_append.1 hk with hk | hk
    · exact .inr (hv k hk)
    · rw [ho] at hk
      exact .inl (List.mem_append.2 (.inr hk))
def txZP : List Value := [.int .i64 0, .int .i64 0, .slice none 0 0, .int .i64 0, .int .u8 0, .int .u8 0, .bool false]
def goP (s : List Bx) (m : Bool) (t : List UInt8) (n : Nat) (u : Option (Nat × Nat × Nat)) : Pm × List Ev := if 0 < n then (.c (.text s m n t u), []) else liftP (putC s (evTxC m t))
theorem goP_err (s : List Bx) (m : Bool) (t : List UInt8) (n : Nat) (u : Option (Nat × Nat × Nat)) : errPm (goP s m t n u).1 = 0 := by
  unfold goP; split <;> rfl
theorem pgoOn_at {w0 w : World} {b o D pl kd nm fm : Nat} {h : Hd} {vt : Value} {t : List UInt8} {u : Option (Nat × Nat × Nat)} {vs : Value} {s : List Bx} {m : Bool} {lk : Nat} (c : PP w b o D pl kd nm fm h (tkT m) lk vt t u vs s.length (inP s)) (hl : Low w0 w b vs) (hk : OkP s) :
    Calls Tryz.prog 191 #[.pointer (some ⟨b, o, none⟩)] w fun r w' => ∃ x, r = .returned x ∧ GoM w0 w w' b o D vt vs (goP s m t lk u) x := by
  obtain ⟨⟨_, _, ⟨c2, f2⟩⟩, _, ⟨_, ⟨c13, _⟩, _⟩, _⟩ := c.cells; unfold goP; by_cases hp : 0 < lk
  · rw [if_pos hp]
    have HG : Hid (GoM w0 w (w.setCell ⟨b, o + 2, none⟩ (.int .i64 2)) b o D vt vs (.c (.text s m lk t u), []) (.slice none 0 0)) := hid
      ⟨Vls.nil_ _ _, ⟨vt, vs, ⟨kd, nm, fm, h, c.setPl 2⟩, fun k hk => .inl hk⟩, ((sub_setCell w (o + 2) _ (by omega)).subg _)⟩
    have zp : (0 < lk) = True := by simp; omega
    clear c hl hk hp; go_enter Tryz.func191, Tryz.ntmps191; go_wp2; go_ret; exact ⟨_, rfl, HG.out⟩
  · obtain rfl : lk = 0 := by omega
    rw [if_neg hp]; have HP := hid (ppart_at c.tx c.wt); have HR := hid c.tx7; have H := hid (And.intro c (And.intro hl hk.inc)); have hone : (valE (evTxC m t)).oneCell' = true := vals_one [evTxC m t] _ (by simp); have HV : Hid (∀ W : World, w.heap.size ≤ W.heap.size → Vls w0 (W.alloc (.cells #[valE (evTxC m t)] 20)) (.slice (some ⟨W.heap.size, 0, none⟩) 1 1) [evTxC m t]) := hid (fun W hW => ⟨win_one W _ _ _ rfl, fun k hk => by
      simp only [Value.owner, List.mem_singleton] at hk; have := H.out.2.1.size; omega⟩)
    clear c hl hk hp; obtain ⟨T, V, hV⟩ : ∃ T V, valE (evTxC m t) = .iface T V := by cases m <;> exact ⟨_, _, rfl⟩
    rw [hV] at hone HV HP; have HVV := hid hV; clear hV; go_enter Tryz.func191, Tryz.ntmps191; (go_wp2_with fail); refine HP.out.mono ?_; rintro r w1 ⟨rfl, rfl⟩; clear HP
    go_wp2_with (refine wpList_store_room rfl 146 _ _ rfl b (o + 12) txZP rfl rfl HR.out (by kernel_rfl) (by kernel_rfl) ?_)
    intro w1 h1; have hc1 : PP w1 b o D pl kd nm fm h 0 0 (.slice none 0 0) [] st0 vs s.length (inP s) :=
      H.out.1.setTx (h1.out.2.subg []) (by simp) (h1.out.1.left (us := [.int .i64 0, .int .u8 0, .int .u8 0, .bool false])) (cat_zero (h1.out.1.right (vs := [.int .i64 0, .int .i64 0, .slice none 0 0]))) (Win.nil_ _ _ _) (by simp [Value.owner])
    have HC1 := hid hc1; have HS1 := hid h1.out.2; clear h1 hc1 HR; have HC2 : Hid (∀ ob, PP (w1.alloc ob) b o D pl kd nm fm h 0 0 (.slice none 0 0) [] st0 vs (incB s).length (outP (incB s))) := hid (fun ob => by
      rw [inc_lenK, inP_out]; exact HC1.out.go ((Below.refl _ _).alloc (Nat.le_refl _) ob))
    have hs1 := HS1.out.step.size; have hsz : ∀ ob, w0.heap.size ≤ (w1.alloc ob).heap.size := fun ob => by have := H.out.2.1.size; simp; omega
    have HSZ := hid hsz; have HHV := hid (HV.out w1 hs1); clear hs1 hsz HV HC1; (go_wp2_with fail); refine (pends_at (w0 := w0) (L := [evTxC m t]) (HC2.out _) HHV.out (by simp) (HSZ.out _) H.out.2.1.b (by simp [Value.owner]) H.out.2.1.vs H.out.2.2).mono ?_; rintro r w' ⟨x, rfl, hR⟩; have HR := hid hR; clear hR; go_wp2; go_ret; refine ⟨x, rfl, pends_go (vs1 := vs) HR.out (.inl rfl) rfl (fun k hk => ?_) ?_⟩
    · simp only [Value.owner, List.mem_singleton] at hk
      have := HS1.out.step.size; omega
    · exact (((HS1.out.widen (o' := o) (n' := 20) (by omega) (by simp [txZP])).subg _)).tr (subg_below ((Below.refl _ _).alloc (Nat.le_refl _) _) (Nat.lt_of_lt_of_le H.out.1.lt HS1.out.step.size) _ _ _)
theorem lenP_go (s : List Bx) (m : Bool) (v : Nat) : liftP (lenP s m v) = if 200 < v then (.c (.bad 5), []) else goP s m [] v st0 := by
  unfold lenP goP; by_cases h : 200 < v
  · rw [if_pos h, if_pos h]; rfl
  · rw [if_neg h, if_neg h]
    by_cases h0 : v = 0
    · rw [if_pos h0, if_neg (by omega)]
    · rw [if_neg h0, if_pos (by omega)]; rfl
def txBP (K v : Nat) : List Value := [.int .i64 (K : Int), .int .i64 (v : Int), .slice none 0 0, .int .i64 0, .int .u8 0, .int .u8 0, .bool false]
theorem txBP_one (K v : Nat) : (txBP K v).toArray.all (·.oneCell') = true := by simp [txBP, Value.oneCell']
theorem pbeginText_at {w0 w : World} {b o D pl kd nm fm : Nat} {h : Hd} {tk lk : Nat} {vt : Value} {t : List UInt8} {u : Option (Nat × Nat × Nat)} {vs : Value} {s : List Bx} (c : PP w b o D pl kd nm fm h tk lk vt t u vs s.length (inP s)) (hl : Low w0 w b vs) (hk : OkP s)
    (m : Bool) (v fm' : Nat) :
    Calls Tryz.prog 194 #[.pointer (some ⟨b, o, none⟩), .agg #[.int .i64 (tkT m : Nat), .int .u64 (v : Nat), .int .u8 (fm' : Nat)]] w fun r w' =>
      ∃ x, r = .returned (.tuple #[x, .int .i64 (errPm (liftP (lenP s m v)).1 : Nat)]) ∧ GoM w0 w w' b o D vt vs (liftP (lenP s m v)) x := by
  have hB : Below w.heap.size w (w.alloc (.cells #[.int .i64 (tkT m : Nat), .int .u64 (v : Nat), .int .u8 (fm' : Nat)] 144)) := up_alloc (Below.refl _ _) _; have H := hid (And.intro (c.go hB) (And.intro (hl.up hB) (And.intro hk (And.intro c.lt hB)))); rw [lenP_go]; by_cases hv : 200 < v
  · rw [if_pos hv]
    have HG : Hid (GoM w0 w (w.alloc (.cells #[.int .i64 (tkT m : Nat), .int .u64 (v : Nat), .int .u8 (fm' : Nat)] 144)) b o D vt vs (.c (.bad 5), []) (.slice none 0 0)) := hid
      ⟨Vls.nil_ _ _, ⟨vt, vs, ⟨by decide, H.out.1.room, H.out.1.cells.1.2.1.1⟩, fun k hk => .inl hk⟩, subg_below hB c.lt _ _ _⟩
    have zv : (200 < (v : Int)) = True := by simp; omega
    clear c hB hl hk hv H; go_enter Tryz.func194, Tryz.ntmps194; go_wp2; go_ret2; exact ⟨_, rfl, HG.out⟩
  · rw [if_neg hv, goP_err]
    have zv : (200 < (v : Int)) = False := by simp; omega
    have hwv : IntKind.i64.wrap (v : Int) = (v : Int) := by simp only [IntKind.wrap_i64]; omega
    have HR := hid H.out.1.tx7; clear c hB hl hk hv; go_enter Tryz.func194, Tryz.ntmps194
    go_wp2_with (refine wpList_store_room rfl 146 _ _ rfl b (o + 12) (txBP (tkT m) v) rfl rfl HR.out (by kernel_rfl) (txBP_one _ _) ?_)
    intro w1 h1; have hc1 : PP w1 b o D pl kd nm fm h (tkT m) v (.slice none 0 0) [] st0 vs s.length (inP s) :=
      H.out.1.setTx (h1.out.2.subg []) (by simp) (h1.out.1.left (us := [.int .i64 0, .int .u8 0, .int .u8 0, .bool false])) (cat_zero (h1.out.1.right (vs := [.int .i64 (tkT m : Nat), .int .i64 (v : Nat), .slice none 0 0]))) (Win.nil_ _ _ _) (by simp [Value.owner])
    have hs1 : Sub b o 20 (w.alloc (.cells #[.int .i64 (tkT m : Nat), .int .u64 (v : Nat), .int .u8 (fm' : Nat)] 144)) w1 := h1.out.2.widen (by omega) (by simp [txBP]); have HE := hid (pgoOn_at hc1 (H.out.2.1.of hs1.step.size rfl) H.out.2.2.1); have HS1 := hid hs1; clear h1 hc1 HR hs1; (go_wp2_with fail); refine HE.out.mono ?_; rintro r w' ⟨x, rfl, hR⟩; have HR := hid hR; clear hR; go_wp2; go_ret2; exact ⟨x, rfl, (HR.out.from_ (HS1.out.subg _) (fun k hk => by simp [Value.owner] at hk)).up H.out.2.2.2.2 H.out.2.2.2.1⟩
end
section
open Go.RowKit
open Go.Lib
theorem pmayHave_at {w : World} {b o : Nat} {m : Bool} {lk : Nat} {vt : Value} {u : Option (Nat × Nat × Nat)} (hA : At w b o [.int .i64 (tkT m : Nat), .int .i64 lk, vt]) (hC : CAt w b (o + 3) u) (y : UInt8) :
    Calls Tryz.prog 190 #[.pointer (some ⟨b, o, none⟩), .int .u8 (y.toNat : Int)] w fun r w' => r = .returned (.bool (mayH m lk (nextU m u y))) ∧ CAt w' b (o + 3) (nextU m u y) ∧ Sub b (o + 3) 4 w w' := by
  have c0 := (hA 0 _ rfl).1; simp only [Nat.add_zero] at c0; cases m with
  | false =>
    simp only [tkT] at c0; have HC := hid hC; have hE : mayH false lk (nextU false u y) = true := rfl; rw [hE]; clear hA hC hE; go_enter Tryz.func190, Tryz.ntmps190; go_wp2; go_ret; exact ⟨rfl, HC.out, Sub.refl _ _ _ _⟩
  | true =>
    simp only [tkT] at c0; have hS := step_at hC y; have hn : nextU true u y = stepS u y := rfl; rw [hn]; have HA := hid hA; obtain ⟨X, hX⟩ : ∃ X, (y.toNat : Int) = X := ⟨_, rfl⟩
    rw [hX] at hS ⊢; generalize stepS u y = u' at *
    have HS := hid hS; clear hA hC hn hS; cases hu : u'.isSome with
    | false =>
      rw [hu] at HS; have hE : mayH true lk u' = false := by simp [mayH, hu]
      rw [hE]; clear hE hu; go_enter Tryz.func190, Tryz.ntmps190; (go_wp2_with fail); refine HS.out.mono ?_; rintro r w1 ⟨rfl, h1, h2⟩; have H1 := hid (And.intro h1 h2); clear h1 h2; go_wp2; go_ret; exact ⟨rfl, H1.out⟩
    | true =>
      rw [hu] at HS; by_cases hp : 0 < lk
      · have hE : mayH true lk u' = true := by simp [mayH, hu, hp]
        rw [hE]; have zp : (0 < lk) = True := by simp [hp]
        clear hE hu hp; go_enter Tryz.func190, Tryz.ntmps190; (go_wp2_with fail); refine HS.out.mono ?_; rintro r w1 ⟨rfl, h1, h2⟩; have c1 := ((HA.out.sub h2 (by simp)) 1 _ rfl).1; have H1 := hid (And.intro h1 h2); clear h1 h2; go_wp2; go_ret; exact ⟨rfl, H1.out⟩
      · obtain rfl : lk = 0 := by omega
        have hE : mayH true 0 u' = wholeS u' := by simp [mayH, hu]
        rw [hE]; have HWW := hid (fun (w1 : World) (h : CAt w1 b (o + 3) u') => whole_at h); generalize wholeS u' = U at *
        clear hE hu hp; go_enter Tryz.func190, Tryz.ntmps190; (go_wp2_with fail); refine HS.out.mono ?_; rintro r w1 ⟨rfl, h1, h2⟩; have c1 := ((HA.out.sub h2 (by simp)) 1 _ rfl).1; have HW := hid (HWW.out w1 h1); have H1 := hid (And.intro h1 h2); clear h1 h2; (go_wp2_with fail); refine HW.out.mono ?_; rintro r w2 ⟨rfl, rfl⟩; go_wp2; go_ret; exact ⟨rfl, H1.out⟩
def bytP (s : List Bx) (m : Bool) (t : List UInt8) (n : Nat) (u : Option (Nat × Nat × Nat)) (y : UInt8) : Pm × List Ev :=
  if mayH m n (nextU m u y) = true then goP s m (t ++ [y]) n (nextU m u y) else (.c (.bad 9), [])
theorem ptext_push {W w3 : World} {b o D pl kd nm fm : Nat} {h : Hd} {tk lk : Nat} {vt v3 : Value} {t : List UInt8} {u : Option (Nat × Nat × Nat)} {vs : Value} {n : Nat} {xs : List Value} {y : UInt8} {ob : Obj} (c : PP W b o D pl kd nm fm h tk lk vt t u vs n xs)
    (hW : Win w3 5 1 v3 (t.length + 1) (bCells t ++ [.int .u8 (y.toNat : Int)])) (hG : (W.alloc ob).grownBy w3 vt.ownBlock) (hO : v3.ownBlock = vt.ownBlock ∨ v3.ownBlock = some (W.alloc ob).heap.size ∧ (W.alloc ob).heap.size < w3.heap.size) :
    (w3.cell? ⟨b, o + 12 + 2, none⟩ = some vt ∧ w3.frozen? ⟨b, o + 12 + 2, none⟩ = false) ∧ PP (w3.setCell ⟨b, o + 12 + 2, none⟩ v3) b o D pl kd nm fm h tk lk v3 (t ++ [y]) u vs n xs ∧ (∀ k ∈ Value.owner v3, k ∈ Value.owner vt ∨ W.heap.size ≤ k) ∧ Subg (Value.owner vt) b o 20 W (w3.setCell ⟨b, o + 12 + 2, none⟩ v3) := by
  have hz : (W.alloc ob).heap.size = W.heap.size + 1 := by simp
  have hnb : vt.ownBlock ≠ some b := fun e => c.ft ((ob_iff _ _).1 e)
  have hb := c.lt; have hblk : w3.heap[b]? = W.heap[b]? := (hG.block b (by omega) (fun e => hnb e.symm)).trans (Below.heap_alloc W ob b hb); have hown : ∀ k ∈ Value.owner v3, k ∈ Value.owner vt ∨ W.heap.size ≤ k := by
    intro k hk; rcases hO with e | ⟨e, _⟩
    · exact .inl ((ob_iff _ _).1 (e ▸ (ob_iff _ _).2 hk))
    · have h2 := (ob_iff _ _).2 hk
      rw [e] at h2; cases h2; exact .inr (by omega)
  have hfar : b ∉ Value.owner v3 := fun hk => (hown b hk).elim c.ft (fun h => by omega)
  have hvs : ∀ k ∈ Value.owner vs, w3.heap[k]? = W.heap[k]? := fun k hk => by
    have hlt := c.op.win.lt k hk; exact (hG.block k (by omega) (fun e => c.apart k hk ((ob_iff _ _).1 e.symm))).trans (Below.heap_alloc W ob k hlt)
  have hA := c.tx.keep hblk; have hS : Sub b (o + 12) 7 w3 (w3.setCell ⟨b, o + 12 + 2, none⟩ v3) := sub_setCell w3 _ _ (by omega); refine ⟨hA 2 _ rfl, ⟨(c.a.keep hblk).sub hS (by simp), (c.it.keep hblk).sub hS (by simp), (c.hd.keep hblk).sub hS (by omega), hA.set 2 (by simp) v3, (c.ck.keep hblk).sub (sub_setCell (b := b) (o := o + 12 + 2) (n := 1) w3 _ _ (by omega)) (by omega),
    ⟨(c.op.ptr.keep hblk).sub hS (by simp), (c.op.win.keep hvs).setCell_far c.op.far _, c.op.far⟩, ?_, hfar⟩, hown, ?_⟩
  · rw [List.length_append, bCells_append]
    exact hW.setCell_far hfar _
  · exact ((subg_below ((Below.refl _ _).alloc (Nat.le_refl _) ob) hb _ _ _).tr (subg_grown hG (fun k hk => (ob_iff _ _).1 hk) hnb (by omega))).tr ((hS.widen (by omega) (by omega)).subg _)
theorem pbyteOfText_at {w0 w : World} {b o D pl kd nm fm : Nat} {h : Hd} {vt : Value} {t : List UInt8} {u : Option (Nat × Nat × Nat)} {vs : Value} {s : List Bx} {m : Bool} {n : Nat} (c : PP w b o D pl kd nm fm h (tkT m) (n + 1) vt t u vs s.length (inP s)) (ht : t.length + (n + 1) ≤ 200) (hl : Low w0 w b vs) (hk : OkP s) (y : UInt8) :
    Calls Tryz.prog 187 #[.pointer (some ⟨b, o, none⟩), .int .u8 (y.toNat : Int)] w fun r w' =>
      ∃ x, r = .returned (.tuple #[x, .int .i64 (errPm (bytP s m t n u y).1 : Nat)]) ∧ GoM w0 w w' b o D vt vs (bytP s m t n u y) x := by
  obtain ⟨_, _, ⟨_, ⟨c11, f11⟩, ⟨c12, f12⟩⟩, _⟩ := c.cells; obtain ⟨a, cp, hvt, _, _⟩ := c.wt.slice_form; subst hvt; have hw1 : IntKind.i64.wrap (n : Int) = (n : Int) := by simp only [IntKind.wrap_i64]; omega
  have hwn : wrap64 (n : Int) = (n : Int) := by unfold wrap64; omega
  have hS : Sub b (o + 12) 7 w (w.setCell ⟨b, o + 12 + 1, none⟩ (.int .i64 (n : Int))) := sub_setCell w _ _ (by omega); have hc1 : PP (w.setCell ⟨b, o + 12 + 1, none⟩ (.int .i64 (n : Int))) b o D pl kd nm fm h (tkT m) n (.slice a t.length cp) t u vs s.length (inP s) :=
    c.setTx (hS.subg []) (by simp) (c.tx.set 1 (by simp) _) (c.ck.sub (sub_setCell (b := b) (o := o + 12 + 1) (n := 1) w _ _ (by omega)) (by omega)) (c.wt.subg (hS.subg []) c.ft (by simp)) c.ft
  have d12 := hc1.cells.2.2.1.2.2; have HC1 := hid (And.intro hc1 (And.intro hS c.lt)); have H := hid (And.intro hl (And.intro hk (And.intro c ht))); have HW1 := hid (fun ob => hc1.wt.alloc ob); have hn1 : t.length ≤ 200 := by omega
  clear c hc1 hS hl hk d12; have HNW : Hid (∀ ob, ((w.setCell ⟨b, o + 12 + 1, none⟩ (.int .i64 (n : Int))).alloc ob).heap[w.heap.size]? = some ob) := hid (fun ob => by
    have := heap_alloc_new (w.setCell ⟨b, o + 12 + 1, none⟩ (.int .i64 (n : Int))) ob; simpa using this)
  go_enter Tryz.func187, Tryz.ntmps187
  go_wp2_with (at_builtin; refine wpList_append_win rfl _ _ _ rfl Tryz.underlying51 info5 rfl rfl (HW1.out _) _ rfl 1 _ (src_new _ Tryz.underlying51 1 1 [.int .u8 (y.toNat : Int)] 5 _ rfl (by simp [Value.oneCell']) (HNW.out _)) ?e1 ?e2 ?_)
  case e1 => unfold maxLen; omega
  case e2 => omega
  intro v3 w3 hW3 hG3 hO3; obtain ⟨g, hc4, hown, hS4⟩ := ptext_push (vt := .slice a t.length cp) HC1.out.1 hW3.out hG3.out (by simpa using hO3.out); obtain ⟨g1, g2⟩ := g; obtain ⟨a3, c3, rfl, _, _⟩ := Win.slice_form hW3.out; have H4 := hid (And.intro hc4 (And.intro hown hS4)); have HMY := hid (pmayHave_at hc4.tx hc4.ck y); clear hW3 hG3 hO3 hc4 hown hS4; (go_wp2_with fail); refine HMY.out.mono ?_; rintro r w5 ⟨rfl, hk5, hS5⟩; have hc5 : PP w5 b o D pl kd nm fm h (tkT m) n (.slice a3 (t.length + 1) c3) (t ++ [y]) (nextU m u y) vs s.length (inP s) :=
    H4.out.1.setTx ((hS5.widen (by omega) (by omega)).subg []) (by simp) (H4.out.1.tx.sub hS5 (by simp)) hk5 (H4.out.1.wt.subg (hS5.subg []) H4.out.1.ft (by simp)) H4.out.1.ft
  have hgo : GoM w0 w5 w5 b o D (.slice a3 (t.length + 1) c3) vs (.c (.bad 9), []) (.slice none 0 0) := ⟨Vls.nil_ _ _, ⟨_, vs, ⟨by decide, hc5.room, hc5.cells.1.2.1.1⟩, fun k hk => .inl hk⟩, Subg.refl _ _ _ _ _⟩
  have hS1 : Subg (Value.owner (.slice a t.length cp) ++ Value.owner vs) b o 20 w w5 := by
    have e1 : Subg (Value.owner (.slice a t.length cp) ++ Value.owner vs) b o 20 w (w.setCell ⟨b, o + 12 + 1, none⟩ (.int .i64 (n : Int))) := (HC1.out.2.1.widen (by omega) (by omega)).subg _; have e2 := H4.out.2.2.widen (g' := Value.owner (.slice a t.length cp) ++ Value.owner vs) (fun x hx => List.mem_append.2 (.inl hx)) (Nat.le_refl _) (Nat.le_refl _); exact (e1.tr e2).tr ((hS5.widen (by omega) (by omega)).subg _)
  have hown : ∀ k ∈ Value.owner (.slice a3 (t.length + 1) c3), k ∈ Value.owner (.slice a t.length cp) ∨ w.heap.size ≤ k := fun k hk => (H4.out.2.1 k hk).imp id (fun h => Nat.le_trans (by simp) h)
  have HLow : Low w0 w5 b vs := H.out.1.of hS1.size rfl; have HF := hid (fun x w' (h : GoM w0 w5 w' b o D (.slice a3 (t.length + 1) c3) vs (bytP s m t n u y) x) => (h.from_ hS1 hown : GoM w0 w w' b o D (.slice a t.length cp) vs (bytP s m t n u y) x)); have HG := hid hgo; have HC5 := hid (And.intro hc5 HLow); have hb : bytP s m t n u y = if mayH m n (nextU m u y) = true then goP s m (t ++ [y]) n (nextU m u y) else (.c (.bad 9), []) := rfl
  clear hk5 hS5 hc5 hgo hS1 hown HLow HMY; have HBE := hid hb; clear hb; cases hmh : mayH m n (nextU m u y) with
  | false =>
    have hb : bytP s m t n u y = (.c (.bad 9), []) := by rw [HBE.out, hmh, if_neg (by decide)]
    have HB9 := hid hb; clear hb hmh; go_wp2; go_ret2; have hF := HF.out (.slice none 0 0) w5; rw [HB9.out] at hF ⊢; exact ⟨_, rfl, hF HG.out⟩
  | true =>
    have hb : bytP s m t n u y = goP s m (t ++ [y]) n (nextU m u y) := by rw [HBE.out, hmh, if_pos rfl]
    have HB9 := hid hb; have HGO := hid (pgoOn_at (w0 := w0) HC5.out.1 HC5.out.2 H.out.2.1); clear hb hmh; (go_wp2_with fail); refine HGO.out.mono ?_; rintro r w' ⟨x, rfl, hR⟩; have HR := hid hR; clear hR; go_wp2; go_ret2; have hF := HF.out x w'; rw [HB9.out] at hF ⊢; rw [goP_err]; exact ⟨x, rfl, hF HR.out⟩
end
section
open Go.RowKit
open Go.Lib
def ctP (m : Bool) : Nat := if m = true then 10 else 9
theorem penter_go {w0 w w1 w3 : World} {b o D pl kd nm fm : Nat} {h : Hd} {vt vs v' : Value} {s : List Bx} {m : Bool} {c : Int} (hC : PP w1 b o D pl kd nm fm h 0 0 vt [] st0 vs s.length (inP s)) (hl : Low w0 w1 b vs) (hB : Below w.heap.size w w1) (hb : b < w.heap.size) (hc : c ≠ 0)
    (hN : NsP w3 b (o + 19) v' (s.length + 1) (inP (⟨m, c, 0⟩ :: incB s))) (ho : ∀ k ∈ Value.owner v', k ∈ Value.owner vs ∨ w1.heap.size ≤ k) (hS : Subg (Value.owner vs) b (o + 19) 1 w1 w3) (g : Nat) (hg : g = w3.heap.size) :
    (w3.cell? ⟨b, o + 2, none⟩ = some (.int .i64 pl) ∧ w3.frozen? ⟨b, o + 2, none⟩ = false) ∧
    GoM w0 w ((w3.setCell ⟨b, o + 2, none⟩ (.int .i64 (0 : Nat))).alloc (.cells #[valE (evBegC m c)] 20)) b o D vt vs (liftP (beginC s m c)) (.slice (some ⟨g, 0, none⟩) 1 1) := by
  subst hg; rw [begin_ne s m hc]; have h3 : PP w3 b o D pl kd nm fm h 0 0 vt [] st0 v' (s.length + 1) (inP (⟨m, c, 0⟩ :: incB s)) := hC.setOp hS (fun x hx h => hC.apart x h hx) hN; have h4 := h3.setPl 0; have hz : (w3.setCell ⟨b, o + 2, none⟩ (.int .i64 (0 : Nat))).heap.size = w3.heap.size := by simp [World.setCell]
  have hup : Below (w3.setCell ⟨b, o + 2, none⟩ (.int .i64 (0 : Nat))).heap.size (w3.setCell ⟨b, o + 2, none⟩ (.int .i64 (0 : Nat))) ((w3.setCell ⟨b, o + 2, none⟩ (.int .i64 (0 : Nat))).alloc (.cells #[valE (evBegC m c)] 20)) := (Below.refl _ _).alloc (Nat.le_refl _) _; have hz3 : w0.heap.size ≤ w3.heap.size := Nat.le_trans hl.size hS.size; refine ⟨h3.cells.1.2.2, ⟨⟨?_, fun k hk => ?_⟩, ⟨vt, v', ?_, fun k hk => ?_⟩, ?_⟩⟩
  · have := win_one (w3.setCell ⟨b, o + 2, none⟩ (.int .i64 (0 : Nat))) (valE (evBegC m c)) 20 w3.heap.size hz.symm
    exact this
  · simp only [Value.owner, List.mem_singleton] at hk
    omega
  · refine ⟨kd, nm, fm, h, ?_⟩
    have := h4.go hup; simpa [inc_lenK] using this
  · rcases List.mem_append.1 hk with hk | hk
    · exact .inl (List.mem_append.2 (.inl hk))
    · exact (ho k hk).imp (fun h => List.mem_append.2 (.inr h)) (fun h => Nat.le_trans hB.size h)
  · have e1 := subg_below hB hb (Value.owner vt ++ Value.owner vs) o 20
    have e2 := hS.widen (g' := Value.owner vt ++ Value.owner vs) (o' := o) (n' := 20) (fun x hx => List.mem_append.2 (.inr hx)) (by omega) (by omega); have e3 : Subg (Value.owner vt ++ Value.owner vs) b o 20 w3 (w3.setCell ⟨b, o + 2, none⟩ (.int .i64 (0 : Nat))) := (sub_setCell w3 (o + 2) _ (by omega)).subg _; exact ((e1.tr e2).tr e3).tr (subg_below hup h4.lt _ _ _)
theorem pcon_big {w0 w : World} {b o D pl kd nm fm : Nat} {h : Hd} {vt : Value} {vs : Value} {s : List Bx} (c : PP w b o D pl kd nm fm h 0 0 vt [] st0 vs s.length (inP s)) (m : Bool) {v fm' : Nat} (hv : 1000000 < v) :
    Calls Tryz.prog 195 #[.pointer (some ⟨b, o, none⟩), .agg #[.int .i64 (ctP m : Nat), .int .u64 (v : Nat), .int .u8 (fm' : Nat)]] w fun r w' =>
      ∃ x, r = .returned (.tuple #[x, .int .i64 (7 : Nat)]) ∧ GoM w0 w w' b o D vt vs (.c (.bad 7), []) x := by
  have hB : Below w.heap.size w (w.alloc (.cells #[.int .i64 (ctP m : Nat), .int .u64 (v : Nat), .int .u8 (fm' : Nat)] 144)) := up_alloc (Below.refl _ _) _; have hc := c.go hB; have HG : Hid (GoM w0 w (w.alloc (.cells #[.int .i64 (ctP m : Nat), .int .u64 (v : Nat), .int .u8 (fm' : Nat)] 144)) b o D vt vs (.c (.bad 7), []) (.slice none 0 0)) := hid ⟨Vls.nil_ _ _, ⟨vt, vs, ⟨by decide, hc.room, hc.cells.1.2.1.1⟩, fun k hk => .inl hk⟩, subg_below hB c.lt _ _ _⟩; have zv : (1000000 < (v : Int)) = True := by simp; omega
  clear c hB hc hv; go_enter Tryz.func195, Tryz.ntmps195; go_wp2; go_ret2; exact ⟨_, rfl, HG.out⟩
theorem pcon_count {w0 w : World} {b o D pl kd nm fm : Nat} {h : Hd} {vt : Value} {vs : Value} {s : List Bx} (c : PP w b o D pl kd nm fm h 0 0 vt [] st0 vs s.length (inP s)) (hl : Low w0 w b vs) (hd : s.length < 16) (m : Bool) {v fm' : Nat} (hv : v ≤ 1000000) (hv0 : 0 < v) :
    Calls Tryz.prog 195 #[.pointer (some ⟨b, o, none⟩), .agg #[.int .i64 (ctP m : Nat), .int .u64 (v : Nat), .int .u8 (fm' : Nat)]] w fun r w' =>
      ∃ x, r = .returned (.tuple #[x, .int .i64 (0 : Nat)]) ∧ GoM w0 w w' b o D vt vs (liftP (beginC s m (v : Int))) x := by
  have hM : ((ctP m : Int) == 10) = m := by cases m <;> decide
  have hW1 : Below w.heap.size w ((w.alloc (.cells #[.int .i64 (ctP m : Nat), .int .u64 (v : Nat), .int .u8 (fm' : Nat)] 144)).alloc (.cells #[.bool m, .int .i64 (v : Int)] 163)) := up_alloc (up_alloc (Below.refl _ _) _) _; have zv : (1000000 < (v : Int)) = False := by simp; omega
  have zc : ((v : Int) == 0) = false := by rw [beq_eq_false_iff_ne]; omega
  have HV0 : Hid (¬ v = 0) := hid (by omega); have hwv : IntKind.i64.wrap (v : Int) = (v : Int) := by simp only [IntKind.wrap_i64]; omega
  have H := hid (And.intro (c.go hW1) (And.intro (hl.up hW1) (And.intro c.lt hW1))); have HL0 := hid hl.size; have HE := hid (penter_at (w := (((w.alloc (.cells #[.int .i64 (ctP m : Nat), .int .u64 (v : Nat), .int .u8 (fm' : Nat)] 144)).alloc (.cells #[.bool m, .int .i64 (v : Int)] 163)).drew)) (H.out.1.op.drewN 1) hd m (v : Int) (by omega)); have HBK := hid (blk_new (w.alloc (.cells #[.int .i64 (ctP m : Nat), .int .u64 (v : Nat), .int .u8 (fm' : Nat)] 144)) #[.bool m, .int .i64 (v : Int)] 163); clear c hl hd hv hv0 hW1; go_enter Tryz.func195, Tryz.ntmps195; (go_wp2_with fail); generalize hWg : ((w.alloc (.cells #[.int .i64 (ctP m : Nat), .int .u64 (v : Nat), .int .u8 (fm' : Nat)] 144)).alloc (.cells #[.bool m, .int .i64 (v : Int)] 163)) = W at *
  have hsz : W.heap.size = w.heap.size + 2 := by rw [← hWg]; simp
  have hbk : Blk W (w.heap.size + 1) #[.bool m, .int .i64 (v : Int)] 163 := by have := HBK.out; simpa using this
  have HC := hid H.out.1; have HLW := hid H.out.2; have HZ := hid hsz; have HBW := hid hbk; have d0 : W.drew.cell? ⟨w.heap.size + 1, 0, none⟩ = some (.bool m) := hbk.cell 0; have d1 : W.drew.cell? ⟨w.heap.size + 1, 1, none⟩ = some (.int .i64 (v : Int)) := hbk.cell 1; clear H HBK hWg hsz hbk; refine wp_region_tail 4 (by kernel_rfl) (by kernel_rfl) ?_; simp only [List.take_succ_cons, List.take_zero, List.drop_succ_cons, List.drop_zero]
  repeat still_step
  refine wpStill_nil ?_; (go_wp2_with fail); refine HE.out.mono ?_; rintro r w3 ⟨rfl, v', hN, ho, hS⟩; have hblk3 : Blk w3 (w.heap.size + 1) #[.bool m, .int .i64 (v : Int)] 163 := (hS.block _ (by show w.heap.size + 1 < W.heap.size; have := HZ.out; omega) (by have := HLW.out.2.1; omega) (fun h => by
    have h1 := HLW.out.1.vs _ h; have h2 := HL0.out; omega)).trans HBW.out
  have e0 := hblk3.cell 0; have e1 := hblk3.cell 1; obtain ⟨⟨p2, q2⟩, hG⟩ := penter_go (w0 := w0) (w := w) (HC.out.drewN 1) (HLW.out.1.of (Nat.le_refl _) rfl) (below_drw HLW.out.2.2) HLW.out.2.1 (by simpa using HV0.out) hN ho hS _ rfl; have HG := hid hG; rw [val_beg] at HG; have HB2 : b < w.heap.size + 1 := by have := HLW.out.2.1; omega
  have k0 : (w3.setCell ⟨b, o + 2, none⟩ (.int .i64 0)).cell? ⟨w.heap.size + 1, 0, none⟩ = some (.bool m) := (World.cell?_of_block (w := w3) (Below.heap_setCell w3 _ _ _ (by simp; omega))).trans e0; have k1 : (w3.setCell ⟨b, o + 2, none⟩ (.int .i64 0)).cell? ⟨w.heap.size + 1, 1, none⟩ = some (.int .i64 (v : Int)) := (World.cell?_of_block (w := w3) (Below.heap_setCell w3 _ _ _ (by simp; omega))).trans e1; clear hN ho hS hblk3 hG HB2; go_wp2; go_ret2; exact ⟨_, rfl, HG.out⟩
theorem pcon_zero {w0 w : World} {b o D pl kd nm fm : Nat} {h : Hd} {vt : Value} {vs : Value} {s : List Bx} (c : PP w b o D pl kd nm fm h 0 0 vt [] st0 vs s.length (inP s)) (hl : Low w0 w b vs) (hk : OkP s) (hvt : ∀ k ∈ Value.owner vt, k < w0.heap.size) (m : Bool) {fm' : Nat} :
    Calls Tryz.prog 195 #[.pointer (some ⟨b, o, none⟩), .agg #[.int .i64 (ctP m : Nat), .int .u64 (0 : Nat), .int .u8 (fm' : Nat)]] w fun r w' =>
      ∃ x, r = .returned (.tuple #[x, .int .i64 (0 : Nat)]) ∧ GoM w0 w w' b o D vt vs (liftP (beginC s m 0)) x := by
  have hM : ((ctP m : Int) == 10) = m := by cases m <;> decide
  have hW1 : Below w.heap.size w ((w.alloc (.cells #[.int .i64 (ctP m : Nat), .int .u64 (0 : Nat), .int .u8 (fm' : Nat)] 144)).alloc (.cells #[.bool m, .int .i64 0] 163)) := up_alloc (up_alloc (Below.refl _ _) _) _; have hW2 : Below w.heap.size w (((w.alloc (.cells #[.int .i64 (ctP m : Nat), .int .u64 (0 : Nat), .int .u8 (fm' : Nat)] 144)).alloc (.cells #[.bool m, .int .i64 0] 163)).alloc (.cells #[.iface 163 (.agg #[.bool m, .int .i64 0]), .iface 166 (.agg #[])] 20)) := up_alloc hW1 _; have hc2 : PP (((w.alloc (.cells #[.int .i64 (ctP m : Nat), .int .u64 (0 : Nat), .int .u8 (fm' : Nat)] 144)).alloc (.cells #[.bool m, .int .i64 0] 163)).alloc (.cells #[.iface 163 (.agg #[.bool m, .int .i64 0]), .iface 166 (.agg #[])] 20)) b o D pl kd nm fm h 0 0 vt [] st0 vs (incB s).length (outP (incB s)) := by
    rw [inc_lenK, inP_out]; exact c.go hW2
  have hg : w.heap.size + 2 = ((w.alloc (.cells #[.int .i64 (ctP m : Nat), .int .u64 (0 : Nat), .int .u8 (fm' : Nat)] 144)).alloc (.cells #[.bool m, .int .i64 0] 163)).heap.size := by simp
  have hV : Vls w0 (((w.alloc (.cells #[.int .i64 (ctP m : Nat), .int .u64 (0 : Nat), .int .u8 (fm' : Nat)] 144)).alloc (.cells #[.bool m, .int .i64 0] 163)).alloc (.cells #[.iface 163 (.agg #[.bool m, .int .i64 0]), .iface 166 (.agg #[])] 20)) (.slice (some ⟨w.heap.size + 2, 0, none⟩) 2 2) [evBegC m 0, evEnd] :=
    ⟨by
      have := win_two ((w.alloc (.cells #[.int .i64 (ctP m : Nat), .int .u64 (0 : Nat), .int .u8 (fm' : Nat)] 144)).alloc (.cells #[.bool m, .int .i64 0] 163)) (valE (evBegC m 0)) (valE evEnd) 20 _ hg; rw [val_beg, vle_end] at this; simpa [val_beg, vle_end] using this, fun k hk => by
      simp only [Value.owner, List.mem_singleton] at hk; have := hl.size; omega⟩
  have HE := hid (pends_at (w0 := w0) hc2 hV (by simp) (Nat.le_trans hl.size hW2.size) hl.b hvt hl.vs hk.inc); have HF := hid (And.intro hW2 c.lt); clear c hl hk hvt hW1 hW2 hc2 hV hg; go_enter Tryz.func195, Tryz.ntmps195; (go_wp2_with fail); refine HE.out.mono ?_; rintro r w' ⟨x, rfl, hR⟩; have HR := hid hR; clear hR HE; go_wp2; go_ret2; refine ⟨x, rfl, ?_⟩; rw [begin_zero]; exact pends_go HR.out (.inr rfl) rfl (fun k hk => by
    simp only [Value.owner, List.mem_singleton] at hk; omega) (subg_below HF.out.1 HF.out.2 _ _ _)
theorem pcon_any {w0 w : World} {b o D pl kd nm fm : Nat} {h : Hd} {vt : Value} {vs : Value} {s : List Bx} (c : PP w b o D pl kd nm fm h 0 0 vt [] st0 vs s.length (inP s)) (hl : Low w0 w b vs) (hk : OkP s) (hvt : ∀ k ∈ Value.owner vt, k < w0.heap.size) (hd : s.length < 16) (m : Bool) (v fm' : Nat) :
    Calls Tryz.prog 195 #[.pointer (some ⟨b, o, none⟩), .agg #[.int .i64 (ctP m : Nat), .int .u64 (v : Nat), .int .u8 (fm' : Nat)]] w fun r w' =>
      ∃ x, r = .returned (.tuple #[x, .int .i64 (errPm (liftP (cntP s m v)).1 : Nat)]) ∧ GoM w0 w w' b o D vt vs (liftP (cntP s m v)) x := by
  unfold cntP; by_cases hbig : 1000000 < v
  · rw [if_pos hbig]
    exact pcon_big c m hbig
  · rw [if_neg hbig, show errPm (liftP (beginC s m v)).1 = 0 from begin_err s m v]
    by_cases h0 : v = 0
    · subst h0
      exact pcon_zero c hl hk hvt m
    · exact pcon_count c hl hd m (by omega) (by omega)
end
section
open Go.RowKit
open Go.Lib
theorem xor_neg (m : Nat) (hm : m < 9223372036854775808) : bits BinOp.xor IntKind.i64 (-1) (-1 - (m : Int)) = (m : Int) := by
  have e1 : BitVec.ofInt 64 (-1) = BitVec.allOnes 64 := by decide
  have e2 : (BitVec.ofInt 64 (-1 - (m : Int))).toNat = 18446744073709551615 - m := by rw [BitVec.toNat_ofInt]; omega
  show IntKind.i64.wrap ((BitVec.ofInt 64 (-1) ^^^ BitVec.ofInt 64 (-1 - (m : Int))).toNat : Nat) = _; rw [e1, BitVec.allOnes_xor, BitVec.toNat_not, e2, IntKind.wrap_i64]; omega
def sgY (w v : Nat) : Bool := decide (256 ^ w ≤ 2 * v)
def sgM (w v : Nat) : Nat := if 256 ^ w ≤ 2 * v then 256 ^ w - 1 - v else v
theorem sgnP_eq (w v : Nat) : sgnP w v = evIntC (sgY w v) (sgM w v) := by
  unfold sgnP sgY sgM; split
  · rename_i h; simp [h]
  · rename_i h; simp [h]
theorem wholeOf_1 (v : Nat) (hv : v < 256) (w : World) : Calls Tryz.prog 203 #[.int .u64 (v : Nat), .int .i64 8] w fun r w' => r = .returned (.agg #[.bool (sgY 1 v), .int .u64 (sgM 1 v : Nat)]) ∧ Below w.heap.size w w' := by
  by_cases h : 256 ≤ 2 * v
  · obtain ⟨m, hm⟩ : ∃ m, 256 - 1 - v = m := ⟨_, rfl⟩
    have hY : sgY 1 v = true := by unfold sgY; rw [decide_eq_true_eq]; exact h
    have hM : sgM 1 v = m := by unfold sgM; rw [if_pos (by exact h)]; exact hm
    rw [hY, hM]; have hx : wrap64 ((v : Int) * 72057594037927936) / 72057594037927936 = -1 - (m : Int) := by unfold wrap64; omega
    have hn : (-1 - (m : Int) < 0) = True := by simp; omega
    have hxo := xor_neg m (by omega); have hwu : IntKind.u64.wrap (m : Int) = (m : Int) := wrapI_u64 _ (by omega) (by omega); have hwv : IntKind.u64.wrap ((v : Int) * 72057594037927936) = (v : Int) * 72057594037927936 := wrapI_u64 _ (by omega) (by omega); clear h hm hY hM; go_enter Tryz.func203, Tryz.ntmps203; go_wp2; simp [bodyPost, results, Tryz.results203, go_sem]; exact up_alloc (Below.refl _ _) _
  · have hY : sgY 1 v = false := by unfold sgY; rw [decide_eq_false_iff_not]; exact h
    have hM : sgM 1 v = v := by unfold sgM; rw [if_neg (by exact h)]
    rw [hY, hM]; have hx : wrap64 ((v : Int) * 72057594037927936) / 72057594037927936 = (v : Int) := by unfold wrap64; omega
    have hn : ((v : Int) < 0) = False := by simp
    have hwu : IntKind.u64.wrap (v : Int) = (v : Int) := wrapI_u64 _ (by omega) (by omega); have hwv : IntKind.u64.wrap ((v : Int) * 72057594037927936) = (v : Int) * 72057594037927936 := wrapI_u64 _ (by omega) (by omega); clear h hY hM; go_enter Tryz.func203, Tryz.ntmps203; go_wp2; simp [bodyPost, results, Tryz.results203, go_sem]; exact up_alloc (Below.refl _ _) _
theorem wholeOf_2 (v : Nat) (hv : v < 65536) (w : World) : Calls Tryz.prog 203 #[.int .u64 (v : Nat), .int .i64 16] w fun r w' => r = .returned (.agg #[.bool (sgY 2 v), .int .u64 (sgM 2 v : Nat)]) ∧ Below w.heap.size w w' := by
  by_cases h : 65536 ≤ 2 * v
  · obtain ⟨m, hm⟩ : ∃ m, 65536 - 1 - v = m := ⟨_, rfl⟩
    have hY : sgY 2 v = true := by unfold sgY; rw [decide_eq_true_eq]; exact h
    have hM : sgM 2 v = m := by unfold sgM; rw [if_pos (by exact h)]; exact hm
    rw [hY, hM]; have hx : wrap64 ((v : Int) * 281474976710656) / 281474976710656 = -1 - (m : Int) := by unfold wrap64; omega
    have hn : (-1 - (m : Int) < 0) = True := by simp; omega
    have hxo := xor_neg m (by omega); have hwu : IntKind.u64.wrap (m : Int) = (m : Int) := wrapI_u64 _ (by omega) (by omega); have hwv : IntKind.u64.wrap ((v : Int) * 281474976710656) = (v : Int) * 281474976710656 := wrapI_u64 _ (by omega) (by omega); clear h hm hY hM; go_enter Tryz.func203, Tryz.ntmps203; go_wp2; simp [bodyPost, results, Tryz.results203, go_sem]; exact up_alloc (Below.refl _ _) _
  · have hY : sgY 2 v = false := by unfold sgY; rw [decide_eq_false_iff_not]; exact h
    have hM : sgM 2 v = v := by unfold sgM; rw [if_neg (by exact h)]
    rw [hY, hM]; have hx : wrap64 ((v : Int) * 281474976710656) / 281474976710656 = (v : Int) := by unfold wrap64; omega
    have hn : ((v : Int) < 0) = False := by simp
    have hwu : IntKind.u64.wrap (v : Int) = (v : Int) := wrapI_u64 _ (by omega) (by omega); have hwv : IntKind.u64.wrap ((v : Int) * 281474976710656) = (v : Int) * 281474976710656 := wrapI_u64 _ (by omega) (by omega); clear h hY hM; go_enter Tryz.func203, Tryz.ntmps203; go_wp2; simp [bodyPost, results, Tryz.results203, go_sem]; exact up_alloc (Below.refl _ _) _
theorem wholeOf_4 (v : Nat) (hv : v < 4294967296) (w : World) : Calls Tryz.prog 203 #[.int .u64 (v : Nat), .int .i64 32] w fun r w' => r = .returned (.agg #[.bool (sgY 4 v), .int .u64 (sgM 4 v : Nat)]) ∧ Below w.heap.size w w' := by
  by_cases h : 4294967296 ≤ 2 * v
  · obtain ⟨m, hm⟩ : ∃ m, 4294967296 - 1 - v = m := ⟨_, rfl⟩
    have hY : sgY 4 v = true := by unfold sgY; rw [decide_eq_true_eq]; exact h
    have hM : sgM 4 v = m := by unfold sgM; rw [if_pos (by exact h)]; exact hm
    rw [hY, hM]; have hx : wrap64 ((v : Int) * 4294967296) / 4294967296 = -1 - (m : Int) := by unfold wrap64; omega
    have hn : (-1 - (m : Int) < 0) = True := by simp; omega
    have hxo := xor_neg m (by omega); have hwu : IntKind.u64.wrap (m : Int) = (m : Int) := wrapI_u64 _ (by omega) (by omega); have hwv : IntKind.u64.wrap ((v : Int) * 4294967296) = (v : Int) * 4294967296 := wrapI_u64 _ (by omega) (by omega); clear h hm hY hM; go_enter Tryz.func203, Tryz.ntmps203; go_wp2; simp [bodyPost, results, Tryz.results203, go_sem]; exact up_alloc (Below.refl _ _) _
  · have hY : sgY 4 v = false := by unfold sgY; rw [decide_eq_false_iff_not]; exact h
    have hM : sgM 4 v = v := by unfold sgM; rw [if_neg (by exact h)]
    rw [hY, hM]; have hx : wrap64 ((v : Int) * 4294967296) / 4294967296 = (v : Int) := by unfold wrap64; omega
    have hn : ((v : Int) < 0) = False := by simp
    have hwu : IntKind.u64.wrap (v : Int) = (v : Int) := wrapI_u64 _ (by omega) (by omega); have hwv : IntKind.u64.wrap ((v : Int) * 4294967296) = (v : Int) * 4294967296 := wrapI_u64 _ (by omega) (by omega); clear h hY hM; go_enter Tryz.func203, Tryz.ntmps203; go_wp2; simp [bodyPost, results, Tryz.results203, go_sem]; exact up_alloc (Below.refl _ _) _
theorem wholeOf_8 (v : Nat) (hv : v < 18446744073709551616) (w : World) : Calls Tryz.prog 203 #[.int .u64 (v : Nat), .int .i64 64] w fun r w' => r = .returned (.agg #[.bool (sgY 8 v), .int .u64 (sgM 8 v : Nat)]) ∧ Below w.heap.size w w' := by
  by_cases h : 18446744073709551616 ≤ 2 * v
  · obtain ⟨m, hm⟩ : ∃ m, 18446744073709551616 - 1 - v = m := ⟨_, rfl⟩
    have hY : sgY 8 v = true := by unfold sgY; rw [decide_eq_true_eq]; exact h
    have hM : sgM 8 v = m := by unfold sgM; rw [if_pos (by exact h)]; exact hm
    rw [hY, hM]; have hx : wrap64 (v : Int) = -1 - (m : Int) := by unfold wrap64; omega
    have hn : (-1 - (m : Int) < 0) = True := by simp; omega
    have hxo := xor_neg m (by omega); have hwu : IntKind.u64.wrap (m : Int) = (m : Int) := wrapI_u64 _ (by omega) (by omega); have hwv : IntKind.u64.wrap ((v : Int)) = (v : Int) := wrapI_u64 _ (by omega) (by omega); clear h hm hY hM; go_enter Tryz.func203, Tryz.ntmps203; go_wp2; simp [bodyPost, results, Tryz.results203, go_sem]; exact up_alloc (Below.refl _ _) _
  · have hY : sgY 8 v = false := by unfold sgY; rw [decide_eq_false_iff_not]; exact h
    have hM : sgM 8 v = v := by unfold sgM; rw [if_neg (by exact h)]
    rw [hY, hM]; have hx : wrap64 (v : Int) = (v : Int) := by unfold wrap64; omega
    have hn : ((v : Int) < 0) = False := by simp
    have hwu : IntKind.u64.wrap (v : Int) = (v : Int) := wrapI_u64 _ (by omega) (by omega); have hwv : IntKind.u64.wrap ((v : Int)) = (v : Int) := wrapI_u64 _ (by omega) (by omega); clear h hY hM; go_enter Tryz.func203, Tryz.ntmps203; go_wp2; simp [bodyPost, results, Tryz.results203, go_sem]; exact up_alloc (Below.refl _ _) _
def partP (kd nm fm : Nat) : Ev := if kd = 2 then evIntC true nm else if kd = 3 then sgnP (2 ^ (fm - 24)) nm else if kd = 1 then evIntC false nm else if nm = 192 then evNull else evBoolC (decide (nm = 195))
theorem part_neg (nm fm : Nat) (w : World) : Calls Tryz.prog 197 #[.agg #[.int .i64 2, .int .u64 (nm : Nat), .int .u8 (fm : Nat)]] w fun r w' => r = .returned (valE (evIntC true nm)) ∧ Below w.heap.size w w' := by
  rw [show valE (evIntC true nm) = .iface 123 (.agg #[.bool true, .int .u64 (nm : Nat)]) from rfl]; go_enter Tryz.func197, Tryz.ntmps197; go_wp2; go_ret; exact ⟨rfl, up_alloc (Below.refl _ _) _⟩
theorem part_whole (nm fm : Nat) (w : World) : Calls Tryz.prog 197 #[.agg #[.int .i64 1, .int .u64 (nm : Nat), .int .u8 (fm : Nat)]] w fun r w' => r = .returned (valE (evIntC false nm)) ∧ Below w.heap.size w w' := by
  rw [show valE (evIntC false nm) = .iface 123 (.agg #[.bool false, .int .u64 (nm : Nat)]) from rfl]; go_enter Tryz.func197, Tryz.ntmps197; go_wp2; go_ret; exact ⟨rfl, up_alloc (Below.refl _ _) _⟩
theorem part_sgn1 (nm : Nat) (hn : nm < 256) (w : World) : Calls Tryz.prog 197 #[.agg #[.int .i64 3, .int .u64 (nm : Nat), .int .u8 24]] w fun r w' => r = .returned (valE (evIntC (sgY 1 nm) (sgM 1 nm))) ∧ Below w.heap.size w w' := by
  have HW := hid (fun W => wholeOf_1 nm hn W); clear hn; rw [show valE (evIntC (sgY 1 nm) (sgM 1 nm)) = .iface 123 (.agg #[.bool (sgY 1 nm), .int .u64 (sgM 1 nm : Nat)]) from rfl]; go_enter Tryz.func197, Tryz.ntmps197; generalize sgY 1 nm = y at *
  generalize sgM 1 nm = g at *
  (go_wp2_with fail); refine (HW.out _).mono ?_; rintro r w1 ⟨rfl, b1⟩; have B1 := hid (up_trans (up_alloc (Below.refl _ _) _) b1); clear b1; go_wp2; go_ret; exact ⟨rfl, B1.out⟩
theorem part_sgn2 (nm : Nat) (hn : nm < 65536) (w : World) : Calls Tryz.prog 197 #[.agg #[.int .i64 3, .int .u64 (nm : Nat), .int .u8 25]] w fun r w' => r = .returned (valE (evIntC (sgY 2 nm) (sgM 2 nm))) ∧ Below w.heap.size w w' := by
  have HW := hid (fun W => wholeOf_2 nm hn W); clear hn; rw [show valE (evIntC (sgY 2 nm) (sgM 2 nm)) = .iface 123 (.agg #[.bool (sgY 2 nm), .int .u64 (sgM 2 nm : Nat)]) from rfl]; go_enter Tryz.func197, Tryz.ntmps197; generalize sgY 2 nm = y at *
  generalize sgM 2 nm = g at *
  (go_wp2_with fail); refine (HW.out _).mono ?_; rintro r w1 ⟨rfl, b1⟩; have B1 := hid (up_trans (up_alloc (Below.refl _ _) _) b1); clear b1; go_wp2; go_ret; exact ⟨rfl, B1.out⟩
theorem part_sgn4 (nm : Nat) (hn : nm < 4294967296) (w : World) : Calls Tryz.prog 197 #[.agg #[.int .i64 3, .int .u64 (nm : Nat), .int .u8 26]] w fun r w' => r = .returned (valE (evIntC (sgY 4 nm) (sgM 4 nm))) ∧ Below w.heap.size w w' := by
  have HW := hid (fun W => wholeOf_4 nm hn W); clear hn; rw [show valE (evIntC (sgY 4 nm) (sgM 4 nm)) = .iface 123 (.agg #[.bool (sgY 4 nm), .int .u64 (sgM 4 nm : Nat)]) from rfl]; go_enter Tryz.func197, Tryz.ntmps197; generalize sgY 4 nm = y at *
  generalize sgM 4 nm = g at *
  (go_wp2_with fail); refine (HW.out _).mono ?_; rintro r w1 ⟨rfl, b1⟩; have B1 := hid (up_trans (up_alloc (Below.refl _ _) _) b1); clear b1; go_wp2; go_ret; exact ⟨rfl, B1.out⟩
theorem part_sgn8 (nm : Nat) (hn : nm < 18446744073709551616) (w : World) : Calls Tryz.prog 197 #[.agg #[.int .i64 3, .int .u64 (nm : Nat), .int .u8 27]] w fun r w' => r = .returned (valE (evIntC (sgY 8 nm) (sgM 8 nm))) ∧ Below w.heap.size w w' := by
  have HW := hid (fun W => wholeOf_8 nm hn W); clear hn; rw [show valE (evIntC (sgY 8 nm) (sgM 8 nm)) = .iface 123 (.agg #[.bool (sgY 8 nm), .int .u64 (sgM 8 nm : Nat)]) from rfl]; go_enter Tryz.func197, Tryz.ntmps197; generalize sgY 8 nm = y at *
  generalize sgM 8 nm = g at *
  (go_wp2_with fail); refine (HW.out _).mono ?_; rintro r w1 ⟨rfl, b1⟩; have B1 := hid (up_trans (up_alloc (Below.refl _ _) _) b1); clear b1; go_wp2; go_ret; exact ⟨rfl, B1.out⟩
theorem part_null (fm : Nat) (w : World) : Calls Tryz.prog 197 #[.agg #[.int .i64 4, .int .u64 192, .int .u8 (fm : Nat)]] w fun r w' => r = .returned (valE evNull) ∧ Below w.heap.size w w' := by
  rw [show valE evNull = .nilIface from rfl]; go_enter Tryz.func197, Tryz.ntmps197; go_wp2; go_ret; exact ⟨rfl, up_alloc (Below.refl _ _) _⟩
theorem part_bool (nm fm : Nat) (hn : nm ≠ 192) (w : World) : Calls Tryz.prog 197 #[.agg #[.int .i64 4, .int .u64 (nm : Nat), .int .u8 (fm : Nat)]] w fun r w' => r = .returned (valE (evBoolC (decide (nm = 195)))) ∧ Below w.heap.size w w' := by
  have z1 : ((nm : Int) == 192) = false := by rw [beq_eq_false_iff_ne]; omega
  have z2 : ((nm : Int) == 195) = decide (nm = 195) := by rw [Bool.eq_iff_iff, beq_iff_eq, decide_eq_true_eq]; omega
  generalize decide (nm = 195) = B at *
  rw [show valE (evBoolC B) = .iface 4 (.bool B) from rfl]; clear hn; go_enter Tryz.func197, Tryz.ntmps197; go_wp2; go_ret; exact ⟨rfl, up_alloc (Below.refl _ _) _⟩
theorem part_any (kd nm fm : Nat) (hk : kd = 1 ∨ kd = 2 ∨ kd = 3 ∨ kd = 4) (hf : kd = 3 → 24 ≤ fm ∧ fm ≤ 27 ∧ nm < 256 ^ (2 ^ (fm - 24))) (w : World) :
    Calls Tryz.prog 197 #[.agg #[.int .i64 (kd : Nat), .int .u64 (nm : Nat), .int .u8 (fm : Nat)]] w fun r w' => r = .returned (valE (partP kd nm fm)) ∧ Below w.heap.size w w' := by
  rcases hk with rfl | rfl | rfl | rfl
  · exact part_whole nm fm w
  · exact part_neg nm fm w
  · obtain ⟨h1, h2, h3⟩ := hf rfl
    have hc : fm = 24 ∨ fm = 25 ∨ fm = 26 ∨ fm = 27 := by omega
    rw [show partP 3 nm fm = sgnP (2 ^ (fm - 24)) nm from rfl, sgnP_eq]; rcases hc with rfl | rfl | rfl | rfl
    · exact part_sgn1 nm h3 w
    · exact part_sgn2 nm h3 w
    · exact part_sgn4 nm h3 w
    · exact part_sgn8 nm h3 w
  · by_cases h : nm = 192
    · subst h
      exact part_null fm w
    · rw [show partP 4 nm fm = if nm = 192 then evNull else evBoolC (decide (nm = 195)) from rfl, if_neg h]
      exact part_bool nm fm h w
end
end Go.Proofs.YtkgconbdmnmbnaaGreat
