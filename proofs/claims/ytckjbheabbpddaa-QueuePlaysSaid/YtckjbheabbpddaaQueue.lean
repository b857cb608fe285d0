/-
  THE WALKS of package queue at one commit: what each call does to the world, the queue told as its bytes and the sizes of its chunks.
-/
import Derived.Test.YtckjbheabbpddaaKit
import Derived.Test.YtckjbheabbpddaaWin
namespace Go.Proofs.Ytckjbheabbpddaa
open Go.RowKit
open Go.Lib
theorem src_one {P : Program} {tx e' : TypeId} (w : World) (hk : P.underlying tx = some (.slice e')) (v : Value) (e : TypeId) (g : Nat) (h1 : v.oneCell' = true) (hg : g = w.heap.size) :
    Src P 1 tx (.slice (some ⟨g, 0, none⟩) 1 1) 1 [v] (w.alloc (.cells #[v] e)) := by
  subst hg
  refine Src.ofSlice _ hk _ 1 1 [v] rfl (fun j u hu => ?_) (by simpa using h1)
  cases j with
  | zero =>
    simp at hu
    subst hu
    rw [add_flat]
    have hh := heap_alloc_new w (.cells #[v] e)
    simp only [World.cell?, Nat.add_zero]
    rw [hh]
    rfl
  | succ j => simp at hu
def bCells (l : List UInt8) : List Value := l.map fun b => Value.int .u8 (b.toNat : Int)
theorem bCells_length (l : List UInt8) : (bCells l).length = l.length := by simp [bCells]
def intCells (ns : List Nat) : List Value := ns.map fun (n : Nat) => Value.int .i64 (n : Int)
theorem intCells_length (ns : List Nat) : (intCells ns).length = ns.length := by simp [intCells]
/-- THE QUEUE at block b, its blocks F: the bytes bs in chunks of ns. -/
def QAt (w : World) (b : Nat) (F : List Nat) (bs : List UInt8) (ns : List Nat) : Prop :=
  ∃ vb vs, w.heap[b]? = some (.cells #[vb, vs] 28 (0, 0)) ∧ Win w 5 1 vb bs.length (bCells bs) ∧ Win w 3 1 vs ns.length (intCells ns) ∧ F = b :: (Value.owner vb ++ Value.owner vs) ∧ ns.sum = bs.length ∧ (∀ n ∈ ns, 0 < n)
theorem QAt.drewN {w : World} {b : Nat} {F : List Nat} {bs : List UInt8} {ns : List Nat} (h : QAt w b F bs ns) (q : Nat) : QAt (w.drewN q) b F bs ns := h
set_option maxHeartbeats 400000 in
theorem len_any {w : World} {b : Nat} {F : List Nat} {bs : List UInt8} {ns : List Nat} (h : QAt w b F bs ns) :
    Calls Try.prog 16 #[.pointer (some ⟨b, 0, none⟩)] w fun e w' => e = .returned (.int .i64 bs.length) ∧ w = w' := by
  obtain ⟨vb, vs, hb, h1, h2, hF, hs, hp⟩ := h
  obtain ⟨a, cap, rfl, _, _⟩ := h1.slice_form
  have hc : w.cell? ⟨b, 0, none⟩ = some (.slice a bs.length cap) := by simp [World.cell?, hb]
  clear hb h1 h2 hF hs hp
  go_enter Try.func16, Try.ntmps16
  go_wp2
  go_ret
  exact ⟨rfl, rfl⟩
set_option maxHeartbeats 400000 in
theorem len_nil (w : World) :
    Calls Try.prog 16 #[.pointer none] w fun e w' => e = .returned (.int .i64 0) ∧ w = w' := by
  go_enter Try.func16, Try.ntmps16
  go_wp2
  go_ret
  exact ⟨rfl, rfl⟩
set_option maxHeartbeats 400000 in
theorem chunks_any {w : World} {b : Nat} {F : List Nat} {bs : List UInt8} {ns : List Nat} (h : QAt w b F bs ns) :
    Calls Try.prog 17 #[.pointer (some ⟨b, 0, none⟩)] w fun e w' => e = .returned (.int .i64 ns.length) ∧ w = w' := by
  obtain ⟨vb, vs, hb, h1, h2, hF, hs, hp⟩ := h
  obtain ⟨a, cap, rfl, _, _⟩ := h2.slice_form
  have hc : w.cell? ⟨b, 1, none⟩ = some (.slice a ns.length cap) := by simp [World.cell?, hb]
  clear hb h1 h2 hF hs hp
  go_enter Try.func17, Try.ntmps17
  go_wp2
  go_ret
  exact ⟨rfl, rfl⟩
set_option maxHeartbeats 400000 in
theorem chunks_nil (w : World) :
    Calls Try.prog 17 #[.pointer none] w fun e w' => e = .returned (.int .i64 0) ∧ w = w' := by
  go_enter Try.func17, Try.ntmps17
  go_wp2
  go_ret
  exact ⟨rfl, rfl⟩
theorem conv_win {w : World} {v : Value} {n : Nat} {bs : List UInt8} (h : Win w 5 1 v n (bCells bs)) : (convert 25 9 v).run Try.prog w = .ok (.string ⟨bs.toArray⟩) w := by
  rcases h.2 with ⟨rfl, rfl⟩ | ⟨g, off, cap, cur, rfl, hg, hnc, hs, hm, hx⟩
  · have : bs = [] := by
      have := h.1
      simp [bCells] at this
      exact this
    subst this
    have ht : (Try.prog.underlying 25, Try.prog.underlying 5, Try.prog.underlying 9) = (some (.slice 5), some (.int .u8), some .string) := by kernel_rfl
    simp only [Prod.mk.injEq] at ht
    simp [convert, run_underlying ht.1, run_underlying ht.2.1, run_underlying ht.2.2, Conv.bytesToString]
    rfl
  · have hl : bs.length = n := by have := h.1; simpa [bCells] using this
    have hby : Lib.Bytes w g off ⟨bs.toArray⟩ := by
      intro i hi
      have hi' : i < bs.length := by simpa [ByteArray.size] using hi
      have hu : (bCells bs)[i]? = some (.int .u8 bs[i].toNat) := by simp [bCells, hi']
      rw [← hx, List.getElem?_take_of_lt (by omega), List.getElem?_drop] at hu
      simp only [World.cell?, hg]
      have hb : (⟨bs.toArray⟩ : ByteArray)[i] = bs[i] := rfl
      rw [hb]
      simpa using hu
    have := run_convert_window (P := Try.prog) w 25 5 9 Try.underlying25 Try.underlying5 Try.underlying9 g off ⟨bs.toArray⟩ hby 0 n cap (by simp [ByteArray.size]; omega)
    rw [Nat.add_zero] at this
    rw [this]
    congr 2
    apply ByteArray.ext
    apply Array.toList_inj.1
    rw [extract_data]
    show List.take _ bs = bs
    exact List.take_of_length_le (by omega)
set_option maxHeartbeats 400000 in
theorem all_any {w : World} {b : Nat} {F : List Nat} {bs : List UInt8} {ns : List Nat} (h : QAt w b F bs ns) :
    Calls Try.prog 15 #[.pointer (some ⟨b, 0, none⟩)] w fun e w' => e = .returned (.string ⟨bs.toArray⟩) ∧ w = w' := by
  obtain ⟨vb, vs, hb, h1, h2, hF, hs, hp⟩ := h
  have hC := conv_win h1
  have hc : w.cell? ⟨b, 0, none⟩ = some vb := by simp [World.cell?, hb]
  clear hb h1 h2 hF hs hp
  go_enter Try.func15, Try.ntmps15
  go_wp2
  go_ret
  exact ⟨rfl, rfl⟩
set_option maxHeartbeats 400000 in
theorem all_nil (w : World) :
    Calls Try.prog 15 #[.pointer none] w fun e w' => e = .returned (.string ⟨#[]⟩) ∧ w = w' := by
  go_enter Try.func15, Try.ntmps15
  go_wp2
  go_ret
  exact ⟨rfl, rfl⟩

/-- The step of a structure at block b whose two slices turned within their own blocks. -/
def QPost (w : World) (b : Nat) (F : List Nat) (bs : List UInt8) (ns : List Nat) (w' : World) : Prop := ∃ F', QAt w' b F' bs ns ∧ Step F F' w w'
/-- Fields in memory, blocks for the rest: what letGo starts from: no law of the sizes. -/
def QRaw (w : World) (b : Nat) (F : List Nat) (bs : List UInt8) (ns : List Nat) : Prop :=
  ∃ vb vs, w.heap[b]? = some (.cells #[vb, vs] 28 (0, 0)) ∧ Win w 5 1 vb bs.length (bCells bs) ∧ Win w 3 1 vs ns.length (intCells ns) ∧ F = b :: (Value.owner vb ++ Value.owner vs)
theorem sum_zero {ns : List Nat} (h : ns.sum = 0) (hp : ∀ n ∈ ns, 0 < n) : ns = [] := by
  cases ns with
  | nil => rfl
  | cons n r => have := hp n (by simp); simp at h; omega
theorem Win.apart {w : World} {e : TypeId} {sz : Nat} {v : Value} {n : Nat} {xs : List Value} (h : Win w e sz v n xs) {b : Nat} {c : Array Value} {t : TypeId} {fr : Nat × Nat} (hb : w.heap[b]? = some (.cells c t fr)) (hne : e ≠ t) : b ∉ Value.owner v := by
  intro hk
  obtain ⟨cur, hc⟩ := h.typed b hk
  rw [hb] at hc
  injection hc with hc
  injection hc with _ h2
  exact hne h2.symm
theorem Win.apart2 {w : World} {e e' : TypeId} {sz sz' : Nat} {v v' : Value} {n n' : Nat} {xs xs' : List Value} (h : Win w e sz v n xs) (h' : Win w e' sz' v' n' xs') (hne : e ≠ e') : ∀ k ∈ Value.owner v', k ∉ Value.owner v := by
  intro k hk
  obtain ⟨cur, hc⟩ := h'.typed k hk
  exact h.apart hc hne
theorem step_setCell (F : List Nat) (w : World) (p : Addr) (u : Value) (hp : p.block ∈ F) : Step F F w (w.setCell p u) :=
  ⟨rfl, rfl, rfl, by simp [World.setCell], fun k _ hF => Below.heap_setCell w p u k (fun e => hF (e ▸ hp)), fun _ h => .inl h⟩
theorem step_grown {F : List Nat} {w w' : World} {row : Option Nat} (h : w.grownBy w' row) (hr : ∀ k, row = some k → k ∈ F) : Step F F w w' :=
  ⟨h.os, h.tape, h.output, h.size, fun k hk hF => h.block k hk (fun e => hF (hr k e.symm)), fun _ h => .inl h⟩
theorem Step.widen {F F' G : List Nat} {w w' : World} (h : Step F F' w w') (hG : ∀ k ∈ G, k ∈ F ∨ w.heap.size ≤ k) : Step F G w w' := ⟨h.os, h.tape, h.output, h.size, h.block, hG⟩
theorem QRaw.set0 {w : World} {b : Nat} {vb vs v' : Value} {bs : List UInt8} {ns : List Nat} (hb : w.heap[b]? = some (.cells #[vb, vs] 28 (0, 0))) (h1 : Win w 5 1 v' bs.length (bCells bs)) (h2 : Win w 3 1 vs ns.length (intCells ns)) :
    QRaw (w.setCell ⟨b, 0, none⟩ v') b (b :: (Value.owner v' ++ Value.owner vs)) bs ns :=
  ⟨v', vs, heap_setCell_same w b 0 _ _ v' hb, h1.setCell_far (h1.apart hb (by decide)) _, h2.setCell_far (h2.apart hb (by decide)) _, rfl⟩
theorem QRaw.set1 {w : World} {b : Nat} {vb vs v' : Value} {bs : List UInt8} {ns : List Nat} (hb : w.heap[b]? = some (.cells #[vb, vs] 28 (0, 0))) (h1 : Win w 5 1 vb bs.length (bCells bs)) (h2 : Win w 3 1 v' ns.length (intCells ns)) :
    QRaw (w.setCell ⟨b, 1, none⟩ v') b (b :: (Value.owner vb ++ Value.owner v')) bs ns :=
  ⟨vb, v', heap_setCell_same w b 1 _ _ v' hb, h1.setCell_far (h1.apart hb (by decide)) _, h2.setCell_far (h2.apart hb (by decide)) _, rfl⟩
theorem QRaw.at {w : World} {b : Nat} {F : List Nat} {bs : List UInt8} {ns : List Nat} (h : QRaw w b F bs ns) (hs : ns.sum = bs.length) (hp : ∀ n ∈ ns, 0 < n) : QAt w b F bs ns := by
  obtain ⟨vb, vs, hb, h1, h2, hF⟩ := h
  exact ⟨vb, vs, hb, h1, h2, hF, hs, hp⟩
theorem letgo_post {w : World} {b : Nat} {vb vs : Value} {F : List Nat} (hb : w.heap[b]? = some (.cells #[vb, vs] 28 (0, 0))) (hF : b ∈ F) : QPost w b F [] [] ((w.setCell ⟨b, 0, none⟩ (.slice none 0 0)).setCell ⟨b, 1, none⟩ (.slice none 0 0)) := by
  have e1 := heap_setCell_same w b 0 _ _ (.slice none 0 0) hb
  have e2 := heap_setCell_same _ b 1 _ _ (.slice none 0 0) e1
  refine ⟨[b], ⟨.slice none 0 0, .slice none 0 0, e2, Win.nil_ _ _ _, Win.nil_ _ _ _, rfl, rfl, by simp⟩, ((step_setCell F w ⟨b, 0, none⟩ _ hF).trans (step_setCell F _ ⟨b, 1, none⟩ _ hF)).widen (by simp [hF])⟩
set_option maxHeartbeats 400000 in
theorem go_any {w : World} {b : Nat} {F : List Nat} {bs : List UInt8} {ns : List Nat} (h : QRaw w b F bs ns) (hs : ns.sum = bs.length) (hp : ∀ n ∈ ns, 0 < n) :
    Calls Try.prog 20 #[.pointer (some ⟨b, 0, none⟩)] w fun e w' => e = .returned (.tuple #[]) ∧ QPost w b F bs ns w' := by
  have hR := h
  obtain ⟨vb, vs, hb, h1, h2, hF⟩ := h
  obtain ⟨a, cap, rfl, _, _⟩ := h1.slice_form
  have hc : w.cell? ⟨b, 0, none⟩ = some (.slice a bs.length cap) := by simp [World.cell?, hb]
  have hc1 : w.cell? ⟨b, 1, none⟩ = some vs := by simp [World.cell?, hb]
  have hf0 : w.frozen? ⟨b, 0, none⟩ = false := by simp [World.frozen?, hb]
  have hf1 : w.frozen? ⟨b, 1, none⟩ = false := by simp [World.frozen?, hb]
  have HB := Lib.hid hb
  by_cases h0 : bs.length = 0
  · have hbs : bs = [] := List.eq_nil_of_length_eq_zero h0
    subst hbs
    have hns : ns = [] := sum_zero (by simpa using hs) hp
    subst hns
    have hbF : b ∈ F := by rw [hF]; simp
    have HP := Lib.hid (letgo_post hb hbF)
    clear hb h1 h2 hF hs hp h0 HB hR
    go_enter Try.func20, Try.ntmps20
    go_wp2
    go_end0
    exact ⟨rfl, HP.out⟩
  · have hz : ((bs.length : Int) == 0) = false := by rw [beq_eq_false_iff_ne]; omega
    have HP := Lib.hid (show QPost w b F bs ns w from ⟨F, hR.at hs hp, Step.refl _ _⟩)
    clear hb h1 h2 hF hs hp h0 HB hR
    go_enter Try.func20, Try.ntmps20
    go_wp2
    go_end0
    exact ⟨rfl, HP.out⟩

theorem bCells_eq (x : ByteArray) : Go.byteCells x = bCells x.data.toList := rfl
theorem infob : (Try.prog.info? 5).map (fun i => (i.zero, i.size, i.bytes)) = some (some (.int .u8 0), 1, 1) := by kernel_rfl
theorem size3 (w : World) : (Go.sizeOf 3).run Try.prog w = .ok 1 w := by kernel_rfl
theorem infoi : (Try.prog.info? 3).map (fun i => (i.zero, i.size, i.bytes)) = some (some (.int .i64 0), 1, 8) := by kernel_rfl
set_option maxHeartbeats 400000 in
theorem add_none (b : Nat) (w : World) :
    Calls Try.prog 11 #[.pointer (some ⟨b, 0, none⟩), .string ⟨#[]⟩] w fun e w' => e = .returned (.tuple #[]) ∧ w = w' := by
  go_enter Try.func11, Try.ntmps11
  go_wp2
  refine bodyPost_ret (results_none rfl _ _ _) rfl ?_
  exact ⟨rfl, rfl⟩
set_option maxHeartbeats 400000 in
theorem add_nil (x : ByteArray) (w : World) :
    Calls Try.prog 11 #[.pointer none, .string x] w fun e w' => e = .returned (.tuple #[]) ∧ w = w' := by
  go_enter Try.func11, Try.ntmps11
  go_wp2
  refine bodyPost_ret (results_none rfl _ _ _) rfl ?_
  exact ⟨rfl, rfl⟩
theorem ob_iff (v : Value) (k : Nat) : v.ownBlock = some k ↔ k ∈ Value.owner v := (owner_eq v k).symm
theorem add_post {w w1 w3 : World} {b m : Nat} {vb vs v1 v3 : Value} {F : List Nat} {bs ys : List UInt8} {ns : List Nat} (hb : w.heap[b]? = some (.cells #[vb, vs] 28 (0, 0)))
    (h1 : Win w 5 1 vb bs.length (bCells bs)) (h2 : Win w 3 1 vs ns.length (intCells ns)) (hF : F = b :: (Value.owner vb ++ Value.owner vs)) (hs : ns.sum = bs.length) (hp : ∀ n ∈ ns, 0 < n)
    (hW1 : Win w1 5 1 v1 (bs.length + m) (bCells bs ++ bCells ys)) (hm : ys.length = m) (hm0 : 0 < m) (hG1 : w.grownBy w1 vb.ownBlock) (hO1 : v1.ownBlock = vb.ownBlock ∨ v1.ownBlock = some w.heap.size ∧ w.heap.size < w1.heap.size)
    {w2 : World} (e2 : w2 = (w1.setCell ⟨b, 0, none⟩ v1).alloc (.cells #[.int .i64 (m : Int)] 3))
    (hW3 : Win w3 3 1 v3 (ns.length + 1) (intCells ns ++ [.int .i64 (m : Int)])) (hG3 : w2.grownBy w3 vs.ownBlock) (hO3 : v3.ownBlock = vs.ownBlock ∨ v3.ownBlock = some w2.heap.size ∧ w2.heap.size < w3.heap.size) :
    QPost w b F (bs ++ ys) (ns ++ [m]) (w3.setCell ⟨b, 1, none⟩ v3) := by
  have hbF : b ∈ F := by rw [hF]; simp
  have hvF : ∀ k ∈ Value.owner vb, k ∈ F := fun k hk => by rw [hF]; simp [hk]
  have hsF : ∀ k ∈ Value.owner vs, k ∈ F := fun k hk => by rw [hF]; simp [hk]
  have hbl : b < w.heap.size := (Array.getElem?_eq_some_iff.1 hb).1
  have nb : ∀ k, some k = vb.ownBlock → k ≠ b := fun k hk e => h1.apart hb (by decide) ((ob_iff _ _).1 (e ▸ hk.symm))
  have ns' : ∀ k, some k = vs.ownBlock → k ≠ b := fun k hk e => h2.apart hb (by decide) ((ob_iff _ _).1 (e ▸ hk.symm))
  have hb1 : w1.heap[b]? = some (.cells #[vb, vs] 28 (0, 0)) := (hG1.block b hbl (fun e => nb b e rfl)).trans hb
  have s1 : Step F F w w1 := step_grown hG1 fun k hk => hvF k ((ob_iff _ _).1 hk)
  have s2 : Step F F w1 w2 := by
    rw [e2]
    exact (step_setCell F w1 ⟨b, 0, none⟩ v1 hbF).trans ⟨rfl, rfl, rfl, by simp, fun k hk _ => Below.heap_alloc _ _ _ hk, fun _ h => .inl h⟩
  have hb2 : w2.heap[b]? = some (.cells #[v1, vs] 28 (0, 0)) := by
    rw [e2, Below.heap_alloc _ _ _ (by simp [World.setCell]; exact (Array.getElem?_eq_some_iff.1 hb1).1)]
    exact heap_setCell_same w1 b 0 _ _ _ hb1
  have s3 : Step F F w2 w3 := step_grown hG3 fun k hk => hsF k ((ob_iff _ _).1 hk)
  have hbl2 : b < w2.heap.size := (Array.getElem?_eq_some_iff.1 hb2).1
  have hb3 : w3.heap[b]? = some (.cells #[v1, vs] 28 (0, 0)) := (hG3.block b hbl2 (fun e => ns' b e rfl)).trans hb2
  have hW2 : Win w2 5 1 v1 (bs.length + m) (bCells bs ++ bCells ys) := by
    rw [e2]
    exact (hW1.setCell_far (p := ⟨b, 0, none⟩) (hW1.apart hb1 (by decide)) _).alloc _
  have hvs2 : Win w2 3 1 vs ns.length (intCells ns) := by
    rw [e2]
    have : Win w1 3 1 vs ns.length (intCells ns) := h2.keep fun k hk => hG1.block k (h2.lt k hk) (fun e => h1.apart2 h2 (by decide) k hk ((ob_iff _ _).1 e.symm))
    exact (this.setCell_far (p := ⟨b, 0, none⟩) (this.apart hb1 (by decide)) _).alloc _
  have hW2' : Win w3 5 1 v1 (bs.length + m) (bCells bs ++ bCells ys) := hW2.keep fun k hk => hG3.block k (hW2.lt k hk) (fun e => hvs2.apart2 hW2 (by decide) k hk ((ob_iff _ _).1 e.symm))
  have hfin := QRaw.set1 (w := w3) (b := b) (vb := v1) (vs := vs) (v' := v3) (bs := bs ++ ys) (ns := ns ++ [m]) hb3
    (by rw [List.length_append, hm]; simpa [bCells] using hW2') (by rw [List.length_append]; simpa [intCells] using hW3)
  refine ⟨_, hfin.at (by simp [hs, hm]) (by simpa [hm0] using fun n hn => hn.elim (hp n) (fun e => e ▸ hm0)), ?_⟩
  have s4 : Step F F w (w3.setCell ⟨b, 1, none⟩ v3) := (s1.trans s2).trans (s3.trans (step_setCell F w3 ⟨b, 1, none⟩ v3 hbF))
  refine s4.widen fun k hk => ?_
  have hw2 := Nat.le_trans s1.size s2.size
  simp only [List.mem_cons, List.mem_append] at hk
  rcases hk with rfl | hk | hk
  · exact .inl hbF
  · rw [← ob_iff] at hk
    rcases hO1 with h | ⟨h, _⟩
    · exact .inl (hvF k ((ob_iff _ _).1 (h ▸ hk)))
    · rw [h] at hk; injection hk with hk; exact .inr (by omega)
  · rw [← ob_iff] at hk
    rcases hO3 with h | ⟨h, _⟩
    · exact .inl (hsF k ((ob_iff _ _).1 (h ▸ hk)))
    · rw [h] at hk; injection hk with hk; exact .inr (by omega)
set_option maxHeartbeats 400000 in
theorem add_some {w : World} {b : Nat} {F : List Nat} {bs : List UInt8} {ns : List Nat} (h : QAt w b F bs ns) (x : ByteArray) (hx : 0 < x.size) (hb : bs.length + x.size ≤ 1000000) (hn : ns.length ≤ 1000000) :
    Calls Try.prog 11 #[.pointer (some ⟨b, 0, none⟩), .string x] w fun e w' => e = .returned (.tuple #[]) ∧ QPost w b F (bs ++ x.data.toList) (ns ++ [x.size]) w' := by
  obtain ⟨vb, vs, hb, h1, h2, hF, hs, hp⟩ := h
  have hc : w.cell? ⟨b, 0, none⟩ = some vb := by simp [World.cell?, hb]
  have hf0 : w.frozen? ⟨b, 0, none⟩ = false := by simp [World.frozen?, hb]
  have hxe : x.toList.isEmpty = false := by rw [List.isEmpty_eq_false_iff]; exact fun e => by have := size_nil e; omega
  have HB := Lib.hid hb
  have H1 := Lib.hid h1
  have H2 := Lib.hid h2
  have HF := Lib.hid hF
  have HS := Lib.hid hs
  have HP := Lib.hid hp
  have hob : vb.ownBlock ≠ some b := fun e => h1.apart hb (by decide) ((ob_iff _ _).1 e)
  have hos : vs.ownBlock ≠ some b := fun e => h2.apart hb (by decide) ((ob_iff _ _).1 e)
  have HOB := Lib.hid hob
  have HOS := Lib.hid hos
  have hbl : b < w.heap.size := (Array.getElem?_eq_some_iff.1 hb).1
  clear hb h1 h2 hF hs hp hob hos
  go_enter Try.func11, Try.ntmps11
  go_wp2_with (at_builtin; refine wpList_append_win rfl _ _ _ rfl Try.underlying25 infob rfl rfl H1.out (.string x) rfl x.size _ (Src.ofString _ Try.underlying9 x) ?c1 ?c2 ?_)
  case c1 => unfold maxLen; omega
  case c2 => omega
  intro v1 w1 hW1 hG1 hO1
  obtain ⟨a1, k1, rfl, _, _⟩ := hW1.out.slice_form
  have hb1 : w1.heap[b]? = some (.cells #[vb, vs] 28 (0, 0)) := (hG1.out.block b hbl (fun e => HOB.out e.symm)).trans HB.out
  have hc0 : w1.cell? ⟨b, 0, none⟩ = some vb := by simp [World.cell?, hb1]
  have hc1 : w1.cell? ⟨b, 1, none⟩ = some vs := by simp [World.cell?, hb1]
  have hf0' : w1.frozen? ⟨b, 0, none⟩ = false := by simp [World.frozen?, hb1]
  have hW2 : Win w1 3 1 vs ns.length (intCells ns) := H2.out.keep fun k hk => hG1.out.block k (H2.out.lt k hk) (fun e => H1.out.apart2 H2.out (by decide) k hk ((ob_iff _ _).1 e.symm))
  have HW2 := Lib.hid hW2
  have HB1 := Lib.hid hb1
  have hbl1 : b < w1.heap.size := (Array.getElem?_eq_some_iff.1 hb1).1
  obtain ⟨a2, k2, rfl, _, _⟩ := H2.out.slice_form
  clear hc hf0 hb1 hW2
  go_wp2_with (at_builtin; refine wpList_append_win rfl _ _ _ rfl Try.underlying26 infoi rfl rfl ((HW2.out.setCell_far (p := ⟨b, 0, none⟩) (HW2.out.apart HB1.out (by decide)) _).alloc _) _ rfl 1 [.int .i64 (x.size : Int)] (src_one _ Try.underlying26 _ _ _ rfl ?d3) ?d1 ?d2 ?_)
  case d1 => unfold maxLen; omega
  case d2 => omega
  case d3 => simp [World.setCell]
  intro v3 w3 hW3 hG3 hO3
  obtain ⟨a3, k3, rfl, _, _⟩ := hW3.out.slice_form
  have hb2 : ((w1.setCell ⟨b, 0, none⟩ (.slice a1 (bs.length + x.size) k1)).alloc (Obj.cells #[Value.int IntKind.i64 ↑x.size] 3)).heap[b]? = some (.cells #[.slice a1 (bs.length + x.size) k1, .slice a2 ns.length k2] 28 (0, 0)) := by
    rw [Below.heap_alloc _ _ _ (by simpa using hbl1)]
    exact heap_setCell_same w1 b 0 _ _ _ HB1.out
  have hb3 : w3.heap[b]? = some (.cells #[.slice a1 (bs.length + x.size) k1, .slice a2 ns.length k2] 28 (0, 0)) := (hG3.out.block b (by simp; omega) (fun e => HOS.out e.symm)).trans hb2
  have hc3 : w3.cell? ⟨b, 1, none⟩ = some (.slice a2 ns.length k2) := by simp [World.cell?, hb3]
  have hf3 : w3.frozen? ⟨b, 1, none⟩ = false := by simp [World.frozen?, hb3]
  have HQ := Lib.hid (add_post HB.out H1.out H2.out HF.out HS.out HP.out hW1.out (by simp) hx hG1.out hO1.out rfl hW3.out hG3.out (by simpa using hO3.out))
  clear hb2 hb3
  go_wp2
  go_end0
  exact ⟨rfl, HQ.out⟩

/-- What is left of chunks when k bytes went from the front. -/
def dropN : Nat → List Nat → List Nat
  | _, [] => []
  | k, n :: r => if k < n then (n - k) :: r else dropN (k - n) r
theorem dropN_zero {ns : List Nat} (hp : ∀ n ∈ ns, 0 < n) : dropN 0 ns = ns := by
  cases ns with
  | nil => rfl
  | cons n r => have := hp n (by simp); simp [dropN, this]
theorem dropN_sum : ∀ (ns : List Nat) (k : Nat), k ≤ ns.sum → (dropN k ns).sum = ns.sum - k
  | [], k, h => by simp [dropN]
  | n :: r, k, h => by
    simp only [List.sum_cons] at h
    unfold dropN
    split
    · simp; omega
    · rw [dropN_sum r (k - n) (by omega)]; simp; omega
theorem dropN_pos : ∀ (ns : List Nat) (k : Nat), (∀ n ∈ ns, 0 < n) → ∀ n ∈ dropN k ns, 0 < n
  | [], k, h => by simp [dropN]
  | n :: r, k, h => by
    unfold dropN
    split
    · intro m hm
      simp at hm
      rcases hm with rfl | hm
      · omega
      · exact h m (by simp [hm])
    · exact dropN_pos r (k - n) (fun m hm => h m (by simp [hm]))
theorem dropN_len : ∀ (ns : List Nat) (k : Nat), (dropN k ns).length ≤ ns.length
  | [], k => by simp [dropN]
  | n :: r, k => by
    unfold dropN
    split
    · simp
    · have := dropN_len r (k - n); simp; omega
theorem sum_len {ns : List Nat} (hp : ∀ n ∈ ns, 0 < n) : ns.length ≤ ns.sum := by
  induction ns with
  | nil => simp
  | cons n r ih => have := hp n (by simp); have := ih (fun m hm => hp m (by simp [hm])); simp; omega
theorem intCells_get (ns : List Nat) (j : Nat) : (intCells ns)[j]? = ns[j]?.map fun (n : Nat) => Value.int .i64 (n : Int) := by simp [intCells]
/-- The loop's relation: memory in the middle of dropFirst. -/
def DropMid (w0 : World) (b : Nat) (F : List Nat) (bs : List UInt8) (m : Nat) (N : List Nat) (k : Nat) (w : World) : Prop :=
  ∃ ns, QRaw w b F bs ns ∧ Step F F w0 w ∧ dropN k ns = N ∧ k ≤ ns.sum ∧ (∀ n ∈ ns, 0 < n) ∧ ns.length ≤ m ∧ ns.sum ≤ 1000000
theorem QRaw.open_ {w : World} {b : Nat} {F : List Nat} {bs : List UInt8} {n : Nat} {r : List Nat} (h : QRaw w b F bs (n :: r)) :
    ∃ vb g off cap, w.heap[b]? = some (.cells #[vb, .slice (some ⟨g, off, none⟩) (r.length + 1) cap] 28 (0, 0)) ∧ g ≠ b ∧ Win w 5 1 vb bs.length (bCells bs) ∧ Win w 3 1 (.slice (some ⟨g, off, none⟩) (r.length + 1) cap) (r.length + 1) (intCells (n :: r)) ∧
      F = b :: (Value.owner vb ++ [g]) ∧ r.length + 1 ≤ cap ∧ cap ≤ maxLen := by
  obtain ⟨vb, vs, hb, h1, h2, hF⟩ := h
  obtain ⟨g, off, cap, rfl, h3, h4, h5, h6, h7⟩ := h2.form (by simp)
  refine ⟨vb, g, off, cap, hb, fun e => ?_, h1, h2, hF, h3, h4⟩
  have := h2.apart hb (by decide)
  simp [Value.owner] at this
  exact this e.symm
theorem QRaw.set_ {w : World} {b : Nat} {F : List Nat} {bs : List UInt8} {ns : List Nat} {vb : Value} {g off cap : Nat} (hb : w.heap[b]? = some (.cells #[vb, .slice (some ⟨g, off, none⟩) ns.length cap] 28 (0, 0)))
    (h1 : Win w 5 1 vb bs.length (bCells bs)) (h2 : Win w 3 1 (.slice (some ⟨g, off, none⟩) ns.length cap) ns.length (intCells ns)) (hF : F = b :: (Value.owner vb ++ [g])) (j : Nat) (hj : j < ns.length) (m : Nat) :
    QRaw (w.setCell ⟨g, off + j, none⟩ (.int .i64 (m : Int))) b F bs (ns.set j m) ∧ Step F F w (w.setCell ⟨g, off + j, none⟩ (.int .i64 (m : Int))) := by
  have hgb : b ≠ g := fun e => by
    have := h2.apart hb (by decide)
    simp [Value.owner] at this
    exact this e
  refine ⟨⟨vb, _, (Below.heap_setCell w ⟨g, off + j, none⟩ _ b hgb).trans hb, h1.setCell_far (fun hk => h1.apart2 h2 (by decide) g (by simp [Value.owner]) hk) _, ?_, hF⟩, step_setCell F w ⟨g, off + j, none⟩ _ (by rw [hF]; simp)⟩
  have := h2.store j (by rw [intCells_length]; exact hj) (.int .i64 (m : Int))
  rw [List.length_set]
  simpa [intCells, List.map_set] using this
theorem QRaw.pop {w : World} {b : Nat} {F : List Nat} {bs : List UInt8} {n : Nat} {r : List Nat} {vb : Value} {g off cap : Nat} (hb : w.heap[b]? = some (.cells #[vb, .slice (some ⟨g, off, none⟩) (r.length + 1) cap] 28 (0, 0)))
    (h1 : Win w 5 1 vb bs.length (bCells bs)) (h2 : Win w 3 1 (.slice (some ⟨g, off, none⟩) (r.length + 1) cap) (r.length + 1) (intCells (n :: r))) (hF : F = b :: (Value.owner vb ++ [g])) :
    ∃ v', (∀ W, (Instr.slice 26 (.slice (some ⟨g, off, none⟩) (r.length + 1) cap) (some (.int .i64 1)) none none).run Try.prog W = .ok v' W) ∧
      QRaw ((w.setCell ⟨g, off, none⟩ (.int .i64 0)).setCell ⟨b, 1, none⟩ v') b F bs r ∧ Step F F w ((w.setCell ⟨g, off, none⟩ (.int .i64 0)).setCell ⟨b, 1, none⟩ v') ∧ ∃ a' c', v' = .slice a' r.length c' := by
  have hgb : b ≠ g := fun e => by
    have := h2.apart hb (by decide)
    simp [Value.owner] at this
    exact this e
  have h22 := h2.store 0 (by simp [intCells]) (.int .i64 0)
  have hb2 := (Below.heap_setCell w ⟨g, off, none⟩ (.int .i64 0) b hgb).trans hb
  have h12 : Win (w.setCell ⟨g, off, none⟩ (.int .i64 0)) 5 1 vb bs.length (bCells bs) := h1.setCell_far (fun hk => h1.apart2 h2 (by decide) g (by simp [Value.owner]) hk) _
  obtain ⟨v', hS2, hW2, hO2⟩ := h22.lo (P := Try.prog) Try.underlying26 size3 1 (by omega)
  have hW2' : Win (w.setCell ⟨g, off, none⟩ (.int .i64 0)) 3 1 v' r.length (intCells r) := by simpa [intCells] using hW2
  have hR := QRaw.set1 hb2 h12 hW2'
  rw [hO2] at hR
  have hR' : QRaw ((w.setCell ⟨g, off, none⟩ (.int .i64 0)).setCell ⟨b, 1, none⟩ v') b F bs r := by
    rw [hF]
    exact hR
  obtain ⟨a', c', e, _⟩ := hW2'.slice_form
  exact ⟨v', hS2, hR', (step_setCell F w ⟨g, off, none⟩ _ (by rw [hF]; simp)).trans (step_setCell F _ ⟨b, 1, none⟩ _ (by rw [hF]; simp)), a', c', e⟩
set_option maxHeartbeats 1000000 in
theorem dropFirst_any {w : World} {b : Nat} {F : List Nat} {bs : List UInt8} {ns : List Nat} (h : QAt w b F bs ns) (k : Nat) (hk : k ≤ bs.length) (hbig : bs.length ≤ 1000000) :
    Calls Try.prog 18 #[.pointer (some ⟨b, 0, none⟩), .int .i64 (k : Nat)] w fun e w' => e = .returned (.tuple #[]) ∧ QPost w b F (bs.drop k) (dropN k ns) w' := by
  obtain ⟨vb, vs, hb, h1, h2, hF, hs, hp⟩ := h
  have hc : w.cell? ⟨b, 0, none⟩ = some vb := by simp [World.cell?, hb]
  have hf0 : w.frozen? ⟨b, 0, none⟩ = false := by simp [World.frozen?, hb]
  obtain ⟨v1, hS1, hW1, hO1⟩ := h1.lo (P := Try.prog) Try.underlying25 size5 k hk
  obtain ⟨a1, c1, rfl, _, _⟩ := hW1.slice_form
  have hR0 := QRaw.set0 (v' := .slice a1 (bs.length - k) c1) (bs := bs.drop k) (ns := ns) hb (by rw [List.length_drop]; simpa [bCells, List.map_drop] using hW1) h2
  rw [hO1, ← hF] at hR0
  have hs0 : Step F F w (w.setCell ⟨b, 0, none⟩ (.slice a1 (bs.length - k) c1)) := step_setCell F w ⟨b, 0, none⟩ _ (by rw [hF]; simp)
  have HM : Hid (DropMid w b F (bs.drop k) ns.length (dropN k ns) k (w.setCell ⟨b, 0, none⟩ (.slice a1 (bs.length - k) c1))) := ⟨ns, hR0, hs0, rfl, by omega, hp, Nat.le_refl _, by omega⟩
  have hsl := sum_len hp
  have hnl : ns.length ≤ 1000000 := by omega
  have HN := Lib.hid (dropN_sum ns k (by omega))
  have HP := Lib.hid (dropN_pos ns k hp)
  have HS := Lib.hid hs
  clear hb h1 h2 hF hs hp hW1 hO1 hR0 hs0 hsl
  go_enter Try.func18, Try.ntmps18
  go_wp2
  go_loopw [1, 4] (fun n _ wr => ∃ k' : Nat, n = .int .i64 k' ∧ k' ≤ 1000000 ∧ Hid (DropMid w b F (bs.drop k) ns.length (dropN k ns) k' wr)) (fun n _ _ => (RowKit.intOf n).toNat)
  case atStart => exact ⟨k, rfl, by omega, HM⟩
  case round =>
    obtain ⟨k', rfl, hk', hm⟩ := hrel
    clear HM
    by_cases h0 : k' = 0
    · subst h0
      obtain ⟨ns', hR, hst, hN, hle, hp', hl', hsm⟩ := hm.out
      rw [dropN_zero hp'] at hN
      subst hN
      have HG := Lib.hid (go_any hR (by rw [HN.out, HS.out, List.length_drop]) hp')
      have hst' := Lib.hid hst
      clear hR hst hle hp' hl' hm
      go_wp2_with fail
      refine HG.out.mono ?_
      rintro e w' ⟨rfl, hq⟩
      go_wp2
      go_end0
      obtain ⟨F', hq1, hq2⟩ := hq
      exact ⟨rfl, F', hq1, hst'.out.trans hq2⟩
    · obtain ⟨ns', hR, hst, hN1, hle, hp', hl', hsm⟩ := hm.out
      cases ns' with
      | nil => simp at hle; omega
      | cons n r =>
      obtain ⟨vb', g, off, cap, hb', hgb, h1', h2', hF', hcap, hmax⟩ := hR.open_
      have hn0 : 0 < n := hp' n (by simp)
      have hc1 : wr.cell? ⟨b, 1, none⟩ = some (.slice (some ⟨g, off, none⟩) (r.length + 1) cap) := by simp [World.cell?, hb']
      have hf1 : wr.frozen? ⟨b, 1, none⟩ = false := by simp [World.frozen?, hb']
      have hcn : wr.cell? ⟨g, off, none⟩ = some (.int .i64 (n : Int)) ∧ wr.frozen? ⟨g, off, none⟩ = false := by
        obtain ⟨g', off', cap', e1, _, _, _, _, h6⟩ := h2'.form (by omega)
        injection e1 with e1 _ e2
        injection e1 with e1
        injection e1 with e1 e3
        subst e1; subst e3
        exact h6 0 _ (by simp [intCells])
      obtain ⟨hcn, hfn⟩ := hcn
      have hsum : n + r.sum ≤ 1000000 := by simpa using hsm
      have hrl : r.length ≤ 1000000 := by have := sum_len hp'; simp at this; omega
      by_cases hlt : k' < n
      · have hQ := QRaw.set_ (ns := n :: r) hb' h1' h2' hF' 0 (by simp) (n - k')
        have HQ := Lib.hid (show DropMid w b F (bs.drop k) ns.length (dropN k ns) 0 (wr.setCell ⟨g, off, none⟩ (.int .i64 ((n : Int) - k'))) from by
          have e1 : ((n - k' : Nat) : Int) = (n : Int) - k' := by omega
          rw [e1] at hQ
          refine ⟨_, hQ.1, hst.trans hQ.2, ?_, by omega, ?_, by simpa using hl', ?_⟩
          · rw [← hN1, dropN_zero]
            · simp [dropN, hlt]
            · intro m hm; simp at hm; rcases hm with rfl | hm
              · omega
              · exact hp' m (by simp [hm])
          · intro m hm; simp at hm; rcases hm with rfl | hm
            · omega
            · exact hp' m (by simp [hm])
          · simp; omega)
        clear hm hR hst hN1 hle hp' hl' hsm hb' h1' h2' hF' hQ
        have hmin : min (k' : Int) (n : Int) = k' := by omega
        go_wp2
        go_roundw
        case rel => exact ⟨0, by simp, by omega, HQ⟩
        case measure => simp [RowKit.intOf]; omega
      · obtain ⟨v', hS2, hQ⟩ := QRaw.pop hb' h1' h2' hF'
        have HQ := Lib.hid (show DropMid w b F (bs.drop k) ns.length (dropN k ns) (k' - n) ((wr.setCell ⟨g, off, none⟩ (.int .i64 0)).setCell ⟨b, 1, none⟩ v') from by
          refine ⟨r, hQ.1, hst.trans hQ.2.1, ?_, ?_, fun m hm => hp' m (by simp [hm]), by simp at hl'; omega, by omega⟩
          · rw [← hN1]
            simp [dropN, hlt]
          · simp at hle; omega)
        obtain ⟨a', c', rfl⟩ := hQ.2.2
        have hmin : min (k' : Int) (n : Int) = n := by omega
        have hgb' : b ≠ g := Ne.symm hgb
        clear hm hR hst hN1 hle hp' hl' hsm hb' h1' h2' hF' hQ
        go_wp2
        go_roundw
        case rel => exact ⟨k' - n, by congr 1; omega, by omega, HQ⟩
        case measure => simp [RowKit.intOf]; omega

/-- What is left of chunks when k bytes went from the end. -/
def cutN (k : Nat) (ns : List Nat) : List Nat := (dropN k ns.reverse).reverse
theorem cutN_snoc (k n : Nat) (r : List Nat) : cutN k (r ++ [n]) = if k < n then r ++ [n - k] else cutN (k - n) r := by
  unfold cutN
  rw [List.reverse_append]
  simp only [List.reverse_cons, List.reverse_nil, List.nil_append, List.singleton_append, dropN]
  split <;> simp
theorem cutN_zero {ns : List Nat} (hp : ∀ n ∈ ns, 0 < n) : cutN 0 ns = ns := by
  unfold cutN
  rw [dropN_zero (by simpa using hp)]
  simp
theorem cutN_sum (ns : List Nat) (k : Nat) (h : k ≤ ns.sum) : (cutN k ns).sum = ns.sum - k := by
  unfold cutN
  rw [List.sum_reverse, dropN_sum _ _ (by rw [List.sum_reverse]; exact h), List.sum_reverse]
theorem cutN_pos (ns : List Nat) (k : Nat) (hp : ∀ n ∈ ns, 0 < n) : ∀ n ∈ cutN k ns, 0 < n := by
  intro n hn
  unfold cutN at hn
  exact dropN_pos ns.reverse k (by simpa using hp) n (by simpa using hn)
def CutMid (w0 : World) (b : Nat) (F : List Nat) (bs : List UInt8) (m : Nat) (N : List Nat) (k : Nat) (w : World) : Prop :=
  ∃ ns, QRaw w b F bs ns ∧ Step F F w0 w ∧ cutN k ns = N ∧ k ≤ ns.sum ∧ (∀ n ∈ ns, 0 < n) ∧ ns.length ≤ m ∧ ns.sum ≤ 1000000
theorem QRaw.last {w : World} {b : Nat} {F : List Nat} {bs : List UInt8} {n : Nat} {r : List Nat} (h : QRaw w b F bs (r ++ [n])) :
    ∃ vb g off cap, w.heap[b]? = some (.cells #[vb, .slice (some ⟨g, off, none⟩) (r.length + 1) cap] 28 (0, 0)) ∧ g ≠ b ∧ Win w 5 1 vb bs.length (bCells bs) ∧ Win w 3 1 (.slice (some ⟨g, off, none⟩) (r.length + 1) cap) (r.length + 1) (intCells (r ++ [n])) ∧
      F = b :: (Value.owner vb ++ [g]) ∧ r.length + 1 ≤ cap ∧ cap ≤ maxLen := by
  obtain ⟨vb, vs, hb, h1, h2, hF⟩ := h
  obtain ⟨g, off, cap, rfl, h3, h4, h5, h6, h7⟩ := h2.form (by simp)
  rw [List.length_append] at hb h2 h3
  refine ⟨vb, g, off, cap, hb, fun e => ?_, h1, h2, hF, h3, h4⟩
  have := h2.apart hb (by decide)
  simp [Value.owner] at this
  exact this e.symm
theorem QRaw.unpush {w : World} {b : Nat} {F : List Nat} {bs : List UInt8} {n : Nat} {r : List Nat} {vb : Value} {g off cap : Nat} (hb : w.heap[b]? = some (.cells #[vb, .slice (some ⟨g, off, none⟩) (r.length + 1) cap] 28 (0, 0)))
    (h1 : Win w 5 1 vb bs.length (bCells bs)) (h2 : Win w 3 1 (.slice (some ⟨g, off, none⟩) (r.length + 1) cap) (r.length + 1) (intCells (r ++ [n]))) (hF : F = b :: (Value.owner vb ++ [g])) :
    ∃ v', (∀ W, (Instr.slice 26 (.slice (some ⟨g, off, none⟩) (r.length + 1) cap) none (some (.int .i64 (r.length : Int))) none).run Try.prog W = .ok v' W) ∧
      QRaw ((w.setCell ⟨g, off + r.length, none⟩ (.int .i64 0)).setCell ⟨b, 1, none⟩ v') b F bs r ∧ Step F F w ((w.setCell ⟨g, off + r.length, none⟩ (.int .i64 0)).setCell ⟨b, 1, none⟩ v') ∧ ∃ a' c', v' = .slice a' r.length c' := by
  have hgb : b ≠ g := fun e => by
    have := h2.apart hb (by decide)
    simp [Value.owner] at this
    exact this e
  have h22 := h2.store r.length (by simp [intCells]) (.int .i64 0)
  have hb2 := (Below.heap_setCell w ⟨g, off + r.length, none⟩ (.int .i64 0) b hgb).trans hb
  have h12 : Win (w.setCell ⟨g, off + r.length, none⟩ (.int .i64 0)) 5 1 vb bs.length (bCells bs) := h1.setCell_far (fun hk => h1.apart2 h2 (by decide) g (by simp [Value.owner]) hk) _
  obtain ⟨v', hS2, hW2, hO2⟩ := h22.hi (P := Try.prog) Try.underlying26 size3 r.length (by omega)
  have hW2' : Win (w.setCell ⟨g, off + r.length, none⟩ (.int .i64 0)) 3 1 v' r.length (intCells r) := by
    have e : ((intCells (r ++ [n])).set r.length (Value.int .i64 0)).take (r.length * 1) = intCells r := by
      apply List.ext_getElem?
      intro i
      rw [List.getElem?_take]
      by_cases hi : i < r.length
      · rw [if_pos (by omega), List.getElem?_set, if_neg (by omega)]
        unfold intCells
        rw [List.map_append, List.getElem?_append_left (by simpa using hi)]
      · rw [if_neg (by omega), intCells_get, List.getElem?_eq_none (by omega)]
        rfl
    rw [e] at hW2
    exact hW2
  have hR := QRaw.set1 hb2 h12 hW2'
  rw [hO2] at hR
  have hR' : QRaw ((w.setCell ⟨g, off + r.length, none⟩ (.int .i64 0)).setCell ⟨b, 1, none⟩ v') b F bs r := by
    rw [hF]
    exact hR
  obtain ⟨a', c', e, _⟩ := hW2'.slice_form
  exact ⟨v', hS2, hR', (step_setCell F w ⟨g, off + r.length, none⟩ _ (by rw [hF]; simp)).trans (step_setCell F _ ⟨b, 1, none⟩ _ (by rw [hF]; simp)), a', c', e⟩
theorem last_of {ns : List Nat} (h : 0 < ns.sum) : ∃ r n, ns = r ++ [n] := by
  cases ns with
  | nil => simp at h
  | cons a r => exact ⟨(a :: r).dropLast, (a :: r).getLast (by simp), (List.dropLast_concat_getLast _).symm⟩
set_option maxHeartbeats 1000000 in
theorem dropLast_any {w : World} {b : Nat} {F : List Nat} {bs : List UInt8} {ns : List Nat} (h : QAt w b F bs ns) (k : Nat) (hk : k ≤ bs.length) (hbig : bs.length ≤ 1000000) :
    Calls Try.prog 19 #[.pointer (some ⟨b, 0, none⟩), .int .i64 (k : Nat)] w fun e w' => e = .returned (.tuple #[]) ∧ QPost w b F (bs.take (bs.length - k)) (cutN k ns) w' := by
  obtain ⟨vb, vs, hb, h1, h2, hF, hs, hp⟩ := h
  obtain ⟨a0, c0, rfl, _, _⟩ := h1.slice_form
  have hc : w.cell? ⟨b, 0, none⟩ = some (.slice a0 bs.length c0) := by simp [World.cell?, hb]
  have hf0 : w.frozen? ⟨b, 0, none⟩ = false := by simp [World.frozen?, hb]
  obtain ⟨v1, hS1, hW1, hO1⟩ := h1.hi (P := Try.prog) Try.underlying25 size5 (bs.length - k) (by omega)
  obtain ⟨a1, c1, rfl, _, _⟩ := hW1.slice_form
  have htl : (bs.take (bs.length - k)).length = bs.length - k := by rw [List.length_take]; omega
  have hR0 := QRaw.set0 (v' := .slice a1 (bs.length - k) c1) (bs := bs.take (bs.length - k)) (ns := ns) hb (by rw [htl]; simpa [bCells, List.map_take] using hW1) h2
  rw [hO1, ← hF] at hR0
  have hs0 : Step F F w (w.setCell ⟨b, 0, none⟩ (.slice a1 (bs.length - k) c1)) := step_setCell F w ⟨b, 0, none⟩ _ (by rw [hF]; simp)
  have HM : Hid (∀ q, CutMid w b F (bs.take (bs.length - k)) ns.length (cutN k ns) k ((w.setCell ⟨b, 0, none⟩ (.slice a1 (bs.length - k) c1)).drewN q)) := fun q => ⟨ns, hR0, hs0.drewN q, rfl, by omega, hp, Nat.le_refl _, by omega⟩
  have hsl := sum_len hp
  have hnl : ns.length ≤ 1000000 := by omega
  have HN := Lib.hid (cutN_sum ns k (by omega))
  have HS := Lib.hid hs
  have HT := Lib.hid htl
  have e1 : IntKind.i64.wrap ((bs.length : Int) - (k : Int)) = ((bs.length - k : Nat) : Int) := by rw [IntWalk.i64_in _ (by omega)]; omega
  clear hb h1 h2 hF hs hp hW1 hO1 hR0 hs0 hsl htl
  go_enter Try.func19, Try.ntmps19
  go_wp2
  refine wp_region_tail 15 (by kernel_rfl) (by kernel_rfl) ?_
  simp only [List.take_succ_cons, List.take_zero, List.drop_succ_cons, List.drop_zero]
  repeat still_step
  refine wpStill_nil ?_
  clear e1
  go_wp2
  go_loopw [1, 4, 5] (fun n _ _ wr => ∃ k' : Nat, n = .int .i64 k' ∧ k' ≤ 1000000 ∧ Hid (CutMid w b F (bs.take (bs.length - k)) ns.length (cutN k ns) k' wr)) (fun n _ _ _ => (RowKit.intOf n).toNat)
  case atStart => exact ⟨k, rfl, by omega, HM.out 1⟩
  case round =>
    obtain ⟨k', rfl, hk', hm⟩ := hrel
    clear HM
    by_cases h0 : k' = 0
    · subst h0
      obtain ⟨ns', hR, hst, hN, hle, hp', hl', hsm⟩ := hm.out
      rw [cutN_zero hp'] at hN
      subst hN
      have HG := Lib.hid (go_any hR (by rw [HN.out, HS.out, HT.out]) hp')
      have hst' := Lib.hid hst
      clear hR hst hle hp' hl' hm hsm
      go_wp2_with fail
      refine HG.out.mono ?_
      rintro e w' ⟨rfl, hq⟩
      go_wp2
      go_end0
      obtain ⟨F', hq1, hq2⟩ := hq
      exact ⟨rfl, F', hq1, hst'.out.trans hq2⟩
    · obtain ⟨ns', hR, hst, hN1, hle, hp', hl', hsm⟩ := hm.out
      obtain ⟨r, n, rfl⟩ := last_of (ns := ns') (by omega)
      obtain ⟨vb', g, off, cap, hb', hgb, h1', h2', hF', hcap, hmax⟩ := hR.last
      have hn0 : 0 < n := hp' n (by simp)
      have hc1 : wr.cell? ⟨b, 1, none⟩ = some (.slice (some ⟨g, off, none⟩) (r.length + 1) cap) := by simp [World.cell?, hb']
      have hf1 : wr.frozen? ⟨b, 1, none⟩ = false := by simp [World.frozen?, hb']
      have hcn : wr.cell? ⟨g, off + r.length, none⟩ = some (.int .i64 (n : Int)) ∧ wr.frozen? ⟨g, off + r.length, none⟩ = false := by
        obtain ⟨g', off', cap', e1, _, _, _, _, h6⟩ := h2'.form (by omega)
        injection e1 with e1 _ e2
        injection e1 with e1
        injection e1 with e1 e3
        subst e1; subst e3
        exact h6 r.length _ (by simp [intCells])
      obtain ⟨hcn, hfn⟩ := hcn
      have hsum : r.sum + n ≤ 1000000 := by simpa using hsm
      have hrl : r.length ≤ 1000000 := by have := sum_len hp'; simp at this; omega
      have hgb' : b ≠ g := Ne.symm hgb
      by_cases hlt : k' < n
      · have hQ := QRaw.set_ (ns := r ++ [n]) (by rw [List.length_append]; exact hb') h1' (by rw [List.length_append]; exact h2') hF' r.length (by simp) (n - k')
        have HQ := Lib.hid (show CutMid w b F (bs.take (bs.length - k)) ns.length (cutN k ns) 0 (wr.setCell ⟨g, off + r.length, none⟩ (.int .i64 ((n : Int) - k'))) from by
          have e1 : ((n - k' : Nat) : Int) = (n : Int) - k' := by omega
          have e2 : (r ++ [n]).set r.length (n - k') = r ++ [n - k'] := by simp
          rw [e1, e2] at hQ
          have hpp : ∀ m ∈ r ++ [n - k'], 0 < m := by
            intro m hm; simp at hm; rcases hm with hm | rfl
            · exact hp' m (by simp [hm])
            · omega
          refine ⟨_, hQ.1, hst.trans hQ.2, ?_, by omega, hpp, by simpa using hl', ?_⟩
          · rw [← hN1, cutN_zero hpp, cutN_snoc, if_pos hlt]
          · simp; omega)
        have hmin : min (k' : Int) (n : Int) = k' := by omega
        clear hm hR hst hN1 hle hp' hl' hsm hb' h1' h2' hF' hQ
        go_wp2
        go_roundw
        case rel => exact ⟨0, by simp, by omega, HQ⟩
        case measure => simp [RowKit.intOf]; omega
      · obtain ⟨v', hS2, hQ⟩ := QRaw.unpush hb' h1' h2' hF'
        have HQ := Lib.hid (show CutMid w b F (bs.take (bs.length - k)) ns.length (cutN k ns) (k' - n) ((wr.setCell ⟨g, off + r.length, none⟩ (.int .i64 0)).setCell ⟨b, 1, none⟩ v') from by
          refine ⟨r, hQ.1, hst.trans hQ.2.1, ?_, ?_, fun m hm => hp' m (by simp [hm]), by simp at hl'; omega, by omega⟩
          · rw [← hN1, cutN_snoc, if_neg hlt]
          · simp at hle; omega)
        obtain ⟨a', c', rfl⟩ := hQ.2.2
        have hmin : min (k' : Int) (n : Int) = n := by omega
        clear hm hR hst hN1 hle hp' hl' hsm hb' h1' h2' hF' hQ
        go_wp2
        go_roundw
        case rel => exact ⟨k' - n, by congr 1; omega, by omega, HQ⟩
        case measure => simp [RowKit.intOf]; omega
/-- The three ways in which bytes go. -/
theorem QAt.len_le {w : World} {b : Nat} {F : List Nat} {bs : List UInt8} {ns : List Nat} (h : QAt w b F bs ns) : ns.length ≤ bs.length := by
  obtain ⟨vb, vs, hb, h1, h2, hF, hs, hp⟩ := h
  rw [← hs]
  exact sum_len hp
set_option maxHeartbeats 400000 in
theorem take_any {w : World} {b : Nat} {F : List Nat} {bs : List UInt8} {ns : List Nat} (h : QAt w b F bs ns) (n : Int) (k : Nat) (hk : min (max n 0) (bs.length : Int) = k) (hbig : bs.length ≤ 1000000) :
    Calls Try.prog 13 #[.pointer (some ⟨b, 0, none⟩), .int .i64 n] w fun e w' => e = .returned (.string ⟨(bs.take k).toArray⟩) ∧ QPost w b F (bs.drop k) (dropN k ns) w' := by
  by_cases h0 : k = 0
  · subst h0
    have hmin : min n (bs.length : Int) ≤ 0 := by omega
    have HH : Hid (QPost w b F (bs.drop 0) (dropN 0 ns) w) := by
      obtain ⟨vb, vs, hb, h1, h2, hF, hs, hp⟩ := h
      rw [dropN_zero hp, List.drop_zero]
      exact ⟨F, ⟨vb, vs, hb, h1, h2, hF, hs, hp⟩, Step.refl _ _⟩
    clear hk
    go_enter Try.func13, Try.ntmps13
    go_wp2_with fail
    refine (len_any h).mono ?_
    rintro e w' ⟨rfl, rfl⟩
    go_wp2
    go_ret
    exact ⟨rfl, HH.out⟩
  · have hmin : min n (bs.length : Int) = k := by omega
    have HMIN := Lib.hid hmin
    have hkb : k ≤ bs.length := by omega
    have HD := Lib.hid (dropFirst_any h k hkb hbig)
    have HL := Lib.hid (len_any h)
    obtain ⟨vb, vs, hb, h1, h2, hF, hs, hp⟩ := h
    obtain ⟨v1, hS1, hW1, hO1⟩ := h1.hi (P := Try.prog) Try.underlying25 size5 k hkb
    have hC1 := conv_win (v := v1) (n := k) (bs := bs.take k) (w := w) (by simpa [bCells, List.map_take] using hW1)
    have hc : w.cell? ⟨b, 0, none⟩ = some vb := by simp [World.cell?, hb]
    clear hk hmin hb h1 h2 hF hs hp hW1 hO1
    go_enter Try.func13, Try.ntmps13
    go_wp2_with fail
    refine HL.out.mono ?_
    rintro e w' ⟨rfl, rfl⟩
    have hmin := HMIN.out
    go_wp2_with fail
    refine HD.out.mono ?_
    rintro e w' ⟨rfl, hq⟩
    go_wp2
    go_ret
    exact ⟨rfl, hq⟩

theorem take_nil (n : Int) (w : World) (hn : -9223372036854775808 ≤ n) :
    Calls Try.prog 13 #[.pointer none, .int .i64 n] w fun e w' => e = .returned (.string ⟨#[]⟩) ∧ w = w' := by
  have hmin : min n 0 ≤ 0 := by omega
  go_enter Try.func13, Try.ntmps13
  go_wp2_with fail
  refine (len_nil _).mono ?_
  rintro e w' ⟨rfl, rfl⟩
  go_wp2
  go_ret
  exact ⟨rfl, rfl⟩
set_option maxHeartbeats 400000 in
theorem next_none {w : World} {b : Nat} {F : List Nat} {ns : List Nat} (h : QAt w b F [] ns) :
    Calls Try.prog 12 #[.pointer (some ⟨b, 0, none⟩)] w fun e w' => e = .returned (.tuple #[.int .u8 0, .bool false]) ∧ w = w' := by
  go_enter Try.func12, Try.ntmps12
  go_wp2_with fail
  refine (len_any h).mono ?_
  rintro e w' ⟨rfl, rfl⟩
  go_wp2
  go_ret2
  exact ⟨rfl, rfl⟩
set_option maxHeartbeats 400000 in
theorem next_nil (w : World) :
    Calls Try.prog 12 #[.pointer none] w fun e w' => e = .returned (.tuple #[.int .u8 0, .bool false]) ∧ w = w' := by
  go_enter Try.func12, Try.ntmps12
  go_wp2_with fail
  refine (len_nil _).mono ?_
  rintro e w' ⟨rfl, rfl⟩
  go_wp2
  go_ret2
  exact ⟨rfl, rfl⟩
set_option maxHeartbeats 400000 in
theorem next_some {w : World} {b : Nat} {F : List Nat} {c : UInt8} {bs : List UInt8} {ns : List Nat} (h : QAt w b F (c :: bs) ns) (hbig : bs.length < 1000000) :
    Calls Try.prog 12 #[.pointer (some ⟨b, 0, none⟩)] w fun e w' => e = .returned (.tuple #[.int .u8 (c.toNat : Int), .bool true]) ∧ QPost w b F bs (dropN 1 ns) w' := by
  have HD := Lib.hid (dropFirst_any h 1 (by simp) (by simp; omega))
  have HL := Lib.hid (len_any h)
  obtain ⟨vb, vs, hb, h1, h2, hF, hs, hp⟩ := h
  obtain ⟨g, off, cap, rfl, h3, h4, h5, h6, h7⟩ := h1.form (by simp)
  have hc : w.cell? ⟨b, 0, none⟩ = some (.slice (some ⟨g, off, none⟩) (bs.length + 1) cap) := by simp [World.cell?, hb]
  have hcc : w.cell? ⟨g, off, none⟩ = some (.int .u8 (c.toNat : Int)) := (h7 0 _ (by simp [bCells])).1
  clear hb h1 h2 hF hs hp h3 h4 h5 h6 h7
  go_enter Try.func12, Try.ntmps12
  go_wp2_with fail
  refine HL.out.mono ?_
  rintro e w' ⟨rfl, rfl⟩
  go_wp2_with fail
  refine HD.out.mono ?_
  rintro e w' ⟨rfl, hq⟩
  go_wp2
  go_ret2
  exact ⟨rfl, hq⟩
set_option maxHeartbeats 400000 in
theorem cut_any {w : World} {b : Nat} {F : List Nat} {bs : List UInt8} {ns : List Nat} (h : QAt w b F bs ns) (n : Int) (k : Nat) (hk : min (max n 0) (bs.length : Int) = k) (hbig : bs.length ≤ 1000000) (hn : n ≤ 9223372036854775807) :
    Calls Try.prog 14 #[.pointer (some ⟨b, 0, none⟩), .int .i64 n] w fun e w' => e = .returned (.int .i64 ((bs.length : Int) - k)) ∧ QPost w b F (bs.take k) (cutN (bs.length - k) ns) w' := by
  by_cases h0 : k = bs.length
  · have HH : Hid (QPost w b F (bs.take k) (cutN (bs.length - k) ns) w) := by
      obtain ⟨vb, vs, hb, h1, h2, hF, hs, hp⟩ := h
      rw [h0, Nat.sub_self, cutN_zero hp, List.take_length]
      exact ⟨F, ⟨vb, vs, hb, h1, h2, hF, hs, hp⟩, Step.refl _ _⟩
    have hz : (bs.length : Int) - k = 0 := by omega
    rw [hz]
    have hle : (bs.length : Int) - max n 0 ≤ 0 := by omega
    clear hk h0 hz
    go_enter Try.func14, Try.ntmps14
    go_wp2_with fail
    refine (len_any h).mono ?_
    rintro e w' ⟨rfl, rfl⟩
    go_wp2
    go_ret
    exact ⟨rfl, HH.out⟩
  · have hkb : k ≤ bs.length := by omega
    obtain ⟨d, hd⟩ : ∃ d, d = bs.length - k := ⟨_, rfl⟩
    have hd0 : 0 < d := by omega
    have hdl : d ≤ bs.length := by omega
    have HD := dropLast_any h d hdl hbig
    rw [show bs.length - d = k by omega] at HD
    have HD' := Lib.hid HD
    have he : (bs.length : Int) - max n 0 = d := by omega
    have hz : (bs.length : Int) - k = d := by omega
    rw [hz, ← hd]
    have HE := Lib.hid he
    clear hk hz HD he hd h0
    go_enter Try.func14, Try.ntmps14
    go_wp2_with fail
    refine (len_any h).mono ?_
    rintro e w' ⟨rfl, rfl⟩
    have he := HE.out
    go_wp2_with fail
    refine HD'.out.mono ?_
    rintro e w' ⟨rfl, hq⟩
    go_wp2
    go_ret
    exact ⟨rfl, hq⟩
set_option maxHeartbeats 400000 in
theorem cut_nil (n : Int) (w : World) (hn : n ≤ 9223372036854775807) :
    Calls Try.prog 14 #[.pointer none, .int .i64 n] w fun e w' => e = .returned (.int .i64 0) ∧ w = w' := by
  go_enter Try.func14, Try.ntmps14
  go_wp2_with fail
  refine (len_nil _).mono ?_
  rintro e w' ⟨rfl, rfl⟩
  have hle : (0 : Int) - max n 0 ≤ 0 := by omega
  go_wp2
  go_ret
  exact ⟨rfl, rfl⟩
end Go.Proofs.Ytckjbheabbpddaa
