/-
  NO PROGRAM NEEDED: parts as CBOR (on the machine of CinPure): what is written so is read as it was. NO PROGRAM NEEDED: CBOR written part by part, whether a part may be or not: the bytes of each (writeK of CinBack), the error, whether the document is at its end. GENERAL (NO PROGRAM NEEDED): a block and all that it holds; frames by steps; append under a guard. GENERAL, NO PROGRAM NEEDED: A STRUCTURE WITHIN A BLOCK: its cells from an offset on; a step that turns those cells alone. GENERAL LEMMAS for the walks of byte slices, strings, copies, regions that draw, slices that came in. Nothing of one package's code. GENERAL: cells that are there, whatever they hold; cells that are all written anew. A SLICE OF api.Ev: its elements as parts of EvPure. (What comes in is opened by XEvs.lean.part, in the rows.) GENERAL (of the program the type api.Ev alone): a part as a plain one; a block and all that it holds; frames by steps. A FRAME: only two cells of a block have turned, and the blocks of its row. CONTRACTS of package cborout, part A: the open containers (nest) as cells; lacksValue, hasAll, mayEnd; of the innermost one: isFull, atKey, mayEnd. CONTRACTS of package cborout, part B: of the innermost container: isFull, atKey, mayEnd; count. CONTRACTS of cborout.Writer, part C: where it stands in memory; leave, enter, Done, end. A part as a value. CONTRACT of event.Of; type assertions. Whole numbers that lie within their kind; x & 31; x | y of bits beside each other. CONTRACT of truchmanre
-/
import Derived.Test.YtockeedbceopiaaG0a
import Derived.Below
import Derived.RowKit
import Derived.Lib.Hide
import Derived.Lib.OthersKept
import Derived.Test.YtockeedbceopiaaProg
import Derived.WalkKit
import Derived.WalkSpells
import Derived.WalkLawsBesides
import Derived.Deep.QuietTactic
import Derived.BigQuiet
import Derived.Lib.BufferWrite
import Derived.Lib.SlBuf
import Derived.Lib.SlBytesRow
import Derived.Laws.MakeOwn
import Derived.Laws.CopyOwn
import Derived.StillTailTactics
import Derived.Handy
import Derived.Deep.Light
import Derived.Deep.AppendLies
import Derived.Deep.RegionWith
import Derived.Outline
import Derived.Deep.MidRow
import Derived.Laws.StructEq
import GoSem.Op.String
import Derived.OwnWalk
import Derived.BigCall
import Derived.BigGuard
import Derived.Deep.DeepCutAuto
import Derived.Deep.RegionLaw
/-
  NO PROGRAM NEEDED: parts as CBOR (on the machine of CinPure): what is written so is read as it was.
-/
namespace Go.Proofs.Ytockeedbceopiaa
open Go.Lib
/-- The bytes of a part. -/
def writeK (s : List Bx) (e : Ev) : List UInt8 :=
  if e.k = 7 then (match s with
    | [] => []
    | b :: _ => if b.c < 0 then [255] else [])
  else if e.k = 0 then [246]
  else if e.k = 1 then [if e.y = true then 245 else 244]
  else if e.k = 2 then headB (if e.y = true then 1 else 0) e.m
  else if e.k = 3 ∨ e.k = 4 then headB (if e.k = 3 then 3 else 2) e.t.data.toList.length ++ e.t.data.toList
  else if e.c < 0 then [if e.k = 6 then 191 else 159]
  else headB (if e.k = 6 then 5 else 4) e.c.toNat
def writeAllK : List Bx → List Ev → List UInt8
  | _, [] => []
  | s, e :: l => writeK s e ++ (match stepC (.live s) e with
    | .live s' => writeAllK s' l
    | _ => [])
/-- What CBOR's reader tells. -/
structure GoodK (e : Ev) : Prop where
  kind : 0 ≤ e.k ∧ e.k ≤ 7
  tidy : tidyE e = e
  cnt : -1 ≤ e.c ∧ e.c ≤ 1000000
  mag : e.m < 18446744073709551616
  text : e.t.data.toList.length ≤ 200 ∧ (e.k = 3 → validD e.t.data.toList = true)
/-! ### Containers with more parts than they may have -/
def overB (b : Bx) : Prop := 0 ≤ b.c ∧ (if b.map = true then 2 * b.c else b.c) < (b.have_ : Int)
theorem over_inc {s : List Bx} (h : ∃ b ∈ s, overB b) : ∃ b ∈ incB s, overB b := by
  obtain ⟨b, hb, ho⟩ := h
  cases s with
  | nil => cases hb
  | cons x r =>
    rcases List.mem_cons.1 hb with rfl | hb
    · refine ⟨_, List.mem_cons_self, ho.1, ?_⟩
      have := ho.2
      simp only
      omega
    · exact ⟨b, List.mem_cons_of_mem _ hb, ho⟩
theorem full_over {b : Bx} (h : fullB b = true) : overB ⟨b.map, b.c, b.have_ + 1⟩ := by
  unfold fullB at h
  rw [decide_eq_true_eq] at h
  refine ⟨h.1, ?_⟩
  have := h.2
  simp only
  omega
theorem over_step {s : List Bx} {e : Ev} (h : ∃ b ∈ s, overB b) : (∃ f, stepC (.live s) e = .bad f) ∨ ∃ s', stepC (.live s) e = .live s' ∧ ∃ b ∈ s', overB b := by
  have hs : s ≠ [] := by
    rintro rfl
    obtain ⟨b, hb, _⟩ := h
    cases hb
  simp only [stepC]
  split
  · exact .inl ⟨_, rfl⟩
  split
  · cases s with
    | nil => exact absurd rfl hs
    | cons x r =>
      simp only
      split
      · exact .inl ⟨_, rfl⟩
      · rename_i hx
        obtain ⟨b, hb, ho⟩ := h
        rcases List.mem_cons.1 hb with rfl | hb
        · exact absurd (.inl ⟨ho.1, by have := ho.2; omega⟩) hx
        · rw [if_neg (by rintro rfl; cases hb)]
          exact .inr ⟨r, rfl, b, hb, ho⟩
  split
  · exact .inl ⟨_, rfl⟩
  have hinc := over_inc h
  split
  · split
    · exact .inl ⟨_, rfl⟩
    · obtain ⟨b, hb, ho⟩ := hinc
      exact .inr ⟨_, rfl, b, List.mem_cons_of_mem _ hb, ho⟩
  · first | rw [if_neg hs] | skip
    exact .inr ⟨_, rfl, hinc⟩
theorem over_bad : ∀ (l : List Ev) (s : List Bx), (∃ b ∈ s, overB b) → runC (.live s) l ≠ .done
  | [], s, _ => by simp [runC]
  | e :: l, s, h => by
    rw [runC_cons]
    rcases over_step (e := e) h with ⟨f, hf⟩ | ⟨s', hs, ho⟩
    · rw [hf, runC_bad]
      simp
    · rw [hs]
      exact over_bad l s' ho
theorem full_end {b : Bx} {r : List Bx} {e : Ev} {l : List Ev} (hf : fullB b = true) (h : runC (.live (b :: r)) (e :: l) = .done) : e.k = 7 := by
  by_cases h7 : e.k = 7
  · exact h7
  · exfalso
    rw [runC_cons] at h
    have ho : ∃ x ∈ incB (b :: r), overB x := ⟨_, List.mem_cons_self, full_over hf⟩
    have : (∃ f, stepC (.live (b :: r)) e = .bad f) ∨ ∃ s', stepC (.live (b :: r)) e = .live s' ∧ ∃ b ∈ s', overB b := by
      simp only [stepC]
      rw [if_neg h7]
      split
      · exact .inl ⟨_, rfl⟩
      split
      · exact .inl ⟨_, rfl⟩
      split
      · split
        · exact .inl ⟨_, rfl⟩
        · obtain ⟨x, hx, ho⟩ := ho
          exact .inr ⟨_, rfl, x, List.mem_cons_of_mem _ hx, ho⟩
      · rw [if_neg (by simp)]
        exact .inr ⟨_, rfl, ho⟩
    rcases this with ⟨f, hf⟩ | ⟨s', hs, ho⟩
    · rw [hf, runC_bad] at h
      cases h
    · rw [hs] at h
      exact over_bad _ _ ho h
/-! ### Heads, texts -/
theorem first_of {D : Nat} {s : List Bx} {m l : Nat} (hm : m < 6) (hl : l < 28 ∨ l = 31 ∧ 2 ≤ m) (hk : keyB s = true → m = 3) (hd : 4 ≤ m → s.length < D) : firstC D s false (m * 32 + l) = headC s (stepH .new (m * 32 + l)) := by
  have e1 : (m * 32 + l) / 32 = m := by omega
  have e2 : (m * 32 + l) % 32 = l := by omega
  unfold firstC
  rw [e1, e2]
  rw [if_neg (by rintro (h | h | h); cases h; omega; omega), if_neg (by omega), if_neg (fun h => h.2 (hk h.1)), if_neg (by omega), if_neg (by omega), if_neg (by omega)]
theorem one_byte {D : Nat} {j j' : Ci} {b : UInt8} {ps : List Ev} (h : stepCi D j b = (j', ps)) : runCi D j [b] = (j', ps) := by
  simp only [runCi, h, List.append_nil]
theorem head_mid (D : Nat) (s : List Bx) (m : Nat) : ∀ (l : List UInt8) (a : Nat), l ≠ [] → runCi D (.head s (.mid m l.length a)) l = headC s (.fin m (valB a l) false)
  | [], _, h => absurd rfl h
  | [b], a, _ => by
    have h1 : stepH (.mid m [b].length a) b.toNat = .fin m (a * 256 + b.toNat) false := by simp [stepH]
    have h2 : stepCi D (.head s (.mid m [b].length a)) b = headC s (.fin m (a * 256 + b.toNat) false) := by
      show headC s (stepH (.mid m [b].length a) b.toNat) = _
      rw [h1]
    exact one_byte h2
  | b :: c :: t, a, _ => by
    have h1 : stepCi D (.head s (.mid m (b :: c :: t).length a)) b = (.head s (.mid m (c :: t).length (a * 256 + b.toNat)), []) := by
      simp only [stepCi, stepH]
      rw [if_neg (by simp)]
      simp [headC]
    rw [runCi, h1]
    simp only [List.nil_append]
    rw [head_mid D s m (c :: t) _ (by simp)]
    simp only [valB]
theorem headB_len (m v : Nat) : (headB m v).length ≤ 9 := by
  rw [headB_length]
  unfold sizH
  split
  · simp
  split
  · simp
  split
  · simp
  split <;> simp
theorem byte_eq (n : Nat) (h : n < 256) : (UInt8.ofNat n).toNat = n := by simp; omega
theorem head_read {D : Nat} {s : List Bx} {m v : Nat} (hm : m < 6) (hv : v < 18446744073709551616) (hk : keyB s = true → m = 3) (hd : 4 ≤ m → s.length < D) : runCi D (.item s false) (headB m v) = headC s (.fin m v false) := by
  have hlong : ∀ k : Nat, k < 4 → v < 256 ^ 2 ^ k → runCi D (.item s false) (UInt8.ofNat (m * 32 + (24 + k)) :: bigB (2 ^ k) v) = headC s (.fin m v false) := by
    intro k hk4 hvk
    have h1 : stepCi D (.item s false) (UInt8.ofNat (m * 32 + (24 + k))) = (.head s (.mid m (2 ^ k) 0), []) := by
      simp only [stepCi]
      rw [byte_eq _ (by omega), first_of hm (.inl (by omega)) hk hd]
      have := step_first m (24 + k) (by omega) (by omega)
      rw [byte_eq _ (by omega)] at this
      rw [this, if_neg (by omega), if_pos (by omega), show 24 + k - 24 = k by omega]
      rfl
    rw [runCi, h1]
    simp only [List.nil_append]
    have h2 := head_mid D s m (bigB (2 ^ k) v) 0 (by intro h; have := congrArg List.length h; rw [bigB_length] at this; simp at this)
    rw [bigB_length, valB_big, Nat.mod_eq_of_lt hvk] at h2
    rw [h2]
  unfold headB
  rcases sizH_cases v hv with ⟨h, e⟩ | ⟨h, e⟩ | ⟨h, e⟩ | ⟨h, e⟩ | ⟨h, e⟩ <;> rw [e]
  · simp only [bigB]
    rw [runCi]
    have h1 : stepCi D (.item s false) (UInt8.ofNat (m * 32 + v)) = headC s (.fin m v false) := by
      simp only [stepCi]
      rw [byte_eq _ (by omega), first_of hm (.inl (by omega)) hk hd]
      have := step_first m v (by omega) (by omega)
      rw [byte_eq _ (by omega), if_pos h] at this
      rw [this]
    rw [h1]
    simp only [runCi, List.append_nil]
  · exact hlong 0 (by decide) (by simp; omega)
  · exact hlong 1 (by decide) (by simp; omega)
  · exact hlong 2 (by decide) (by simp; omega)
  · exact hlong 3 (by decide) (by simp; omega)
theorem text_read (D : Nat) (s : List Bx) (m : Bool) : ∀ (l t : List UInt8) (u : Option (Nat × Nat × Nat)), l ≠ [] → (m = true → wholeS (runS u l) = true) → runCi D (.text s m l.length t u) l = putC s (evTxC m (t ++ l))
  | [], _, _, h, _ => absurd rfl h
  | b :: l, t, u, _, hw => by
    have hn : ¬ (m = true ∧ nextU m u b = none) := by
      rintro ⟨rfl, h⟩
      have := hw rfl
      simp only [nextU, if_true] at h
      rw [runS_cons, h, runS_none] at this
      cases this
    cases l with
    | nil =>
      have h2 : ¬ (m = true ∧ wholeS (nextU m u b) = false) := by
        rintro ⟨rfl, h⟩
        have := hw rfl
        simp only [nextU, if_true] at h
        rw [runS_cons, runS_nil, h] at this
        cases this
      have h1 : stepCi D (.text s m [b].length t u) b = putC s (evTxC m (t ++ [b])) := by
        simp only [stepCi]
        rw [if_neg hn, if_pos (by simp), if_neg h2]
      rw [runCi, h1]
      simp only [runCi, List.append_nil]
    | cons c l =>
      have h1 : stepCi D (.text s m (b :: c :: l).length t u) b = (.text s m (c :: l).length (t ++ [b]) (nextU m u b), []) := by
        simp only [stepCi]
        rw [if_neg hn, if_neg (by simp)]
        rfl
      rw [runCi, h1]
      simp only [List.nil_append]
      rw [text_read D s m (c :: l) (t ++ [b]) (nextU m u b) (by simp) (by rintro rfl; have := hw rfl; rw [runS_cons] at this; exact this)]
      simp
/-! ### A part -/
def itemOf (s : List Bx) (e : Ev) : List Bx := if e.k = 5 ∨ e.k = 6 then ⟨decide (e.k = 6), e.c, 0⟩ :: incB s else incB s
theorem item_read (D : Nat) (s : List Bx) (e : Ev) (hg : GoodK e) (h7 : e.k ≠ 7) (hk : keyB s = true → e.k = 3) (hd : e.k = 5 ∨ e.k = 6 → s.length < D) : runCi D (.item s false) (writeK s e) = (atC (itemOf s e), e :: endsC (itemOf s e)) := by
  obtain ⟨hkind, ht, hc, hm, htx⟩ := hg
  obtain ⟨k, y, m, t, c⟩ := e
  simp only at h7 hk hd hkind hc hm htx
  have hkf : k ≠ 3 → ¬ keyB s = true := fun h h' => h (hk h')
  have hcs : k = 0 ∨ k = 1 ∨ k = 2 ∨ k = 3 ∨ k = 4 ∨ k = 5 ∨ k = 6 := by omega
  rcases hcs with rfl | rfl | rfl | rfl | rfl | rfl | rfl
  · have he : (⟨0, y, m, t, c⟩ : Ev) = evNull := ht.symm
    rw [he]
    refine one_byte ?_
    simp only [stepCi, firstC]
    rw [if_neg (by decide), if_neg (by decide), if_neg (fun h => hkf (by decide) h.1), if_neg (by decide), if_pos (by decide), if_pos (by decide)]
    rfl
  · have he : (⟨1, y, m, t, c⟩ : Ev) = evBoolC y := ht.symm
    rw [he]
    cases y
    · refine one_byte (b := 244) ?_
      simp only [stepCi, firstC]
      rw [if_neg (by decide), if_neg (by decide), if_neg (fun h => hkf (by decide) h.1), if_neg (by decide), if_pos (by decide), if_neg (by decide), if_pos (by decide)]
      rfl
    · refine one_byte (b := 245) ?_
      simp only [stepCi, firstC]
      rw [if_neg (by decide), if_neg (by decide), if_neg (fun h => hkf (by decide) h.1), if_neg (by decide), if_pos (by decide), if_neg (by decide), if_pos (by decide)]
      rfl
  · have he : (⟨2, y, m, t, c⟩ : Ev) = evIntC y m := ht.symm
    rw [he]
    have hw : writeK s (evIntC y m) = headB (if y = true then 1 else 0) m := rfl
    rw [hw, head_read (by split <;> decide) hm (fun h => absurd h (hkf (by decide))) (by split <;> intro h <;> omega)]
    cases y <;> rfl
  · have he : (⟨3, y, m, t, c⟩ : Ev) = evTxC true t.data.toList := ht.symm
    have hw : writeK s ⟨3, y, m, t, c⟩ = headB 3 t.data.toList.length ++ t.data.toList := rfl
    rw [hw, runCi_append, head_read (by decide) (by omega) (fun _ => rfl) (fun h => by omega)]
    have hwh : wholeS (runS st0 t.data.toList) = true := by
      rw [← valid_run]
      exact htx.2 rfl
    rw [he]
    generalize t.data.toList = l at htx hwh
    by_cases hl : l = []
    · subst hl
      have h1 : headC s (.fin 3 ([] : List UInt8).length false) = putC s (evTxC true []) := by
        simp only [headC]
        rw [if_neg (by decide), if_pos (by decide), if_neg (by decide), if_neg (by decide), if_pos (by decide)]
        rfl
      rw [h1]
      simp only [runCi, List.append_nil]
      rfl
    · have hlen : l.length ≠ 0 := by simpa using hl
      have h1 : headC s (.fin 3 l.length false) = (.text s true l.length [] st0, []) := by
        simp only [headC]
        rw [if_neg (by decide), if_pos (by decide), if_neg (by decide), if_neg (by omega), if_neg hlen]
        rfl
      rw [h1]
      simp only [List.nil_append]
      rw [text_read D s true l [] st0 hl (fun _ => hwh)]
      rfl
  · have he : (⟨4, y, m, t, c⟩ : Ev) = evTxC false t.data.toList := ht.symm
    have hw : writeK s ⟨4, y, m, t, c⟩ = headB 2 t.data.toList.length ++ t.data.toList := rfl
    rw [hw, runCi_append, head_read (by decide) (by omega) (fun h => absurd h (hkf (by decide))) (fun h => by omega)]
    rw [he]
    generalize t.data.toList = l at htx
    by_cases hl : l = []
    · subst hl
      have h1 : headC s (.fin 2 ([] : List UInt8).length false) = putC s (evTxC false []) := by
        simp only [headC]
        rw [if_neg (by decide), if_pos (by decide), if_neg (by decide), if_neg (by decide), if_pos (by decide)]
        rfl
      rw [h1]
      simp only [runCi, List.append_nil]
      rfl
    · have hlen : l.length ≠ 0 := by simpa using hl
      have h1 : headC s (.fin 2 l.length false) = (.text s false l.length [] st0, []) := by
        simp only [headC]
        rw [if_neg (by decide), if_pos (by decide), if_neg (by decide), if_neg (by omega), if_neg hlen]
        rfl
      rw [h1]
      simp only [List.nil_append]
      rw [text_read D s false l [] st0 hl (fun h => by cases h)]
      rfl
  · have he : (⟨5, y, m, t, c⟩ : Ev) = evBegC false c := ht.symm
    rw [he]
    by_cases hneg : c < 0
    · obtain rfl : c = -1 := by omega
      refine one_byte (b := 159) ?_
      have h1 := first_of (D := D) (s := s) (m := 4) (l := 31) (by decide) (.inr ⟨rfl, by decide⟩) (fun h => absurd h (hkf (by decide))) (fun _ => hd (by decide))
      show firstC D s false 159 = _
      rw [h1]
      rfl
    · have hw : writeK s (evBegC false c) = headB 4 c.toNat := by
        show (if c < 0 then [159] else headB 4 c.toNat) = _
        rw [if_neg hneg]
      rw [hw, head_read (by decide) (by omega) (fun h => absurd h (hkf (by decide))) (fun _ => hd (by decide))]
      have h1 : headC s (.fin 4 c.toNat false) = beginC s false c := by
        simp only [headC]
        rw [if_neg (by decide), if_neg (by decide), if_neg (by decide), if_neg (by omega), Int.toNat_of_nonneg (by omega)]
        rfl
      rw [h1]
      rfl
  · have he : (⟨6, y, m, t, c⟩ : Ev) = evBegC true c := ht.symm
    rw [he]
    by_cases hneg : c < 0
    · obtain rfl : c = -1 := by omega
      refine one_byte (b := 191) ?_
      have h1 := first_of (D := D) (s := s) (m := 5) (l := 31) (by decide) (.inr ⟨rfl, by decide⟩) (fun h => absurd h (hkf (by decide))) (fun _ => hd (by decide))
      show firstC D s false 191 = _
      rw [h1]
      rfl
    · have hw : writeK s (evBegC true c) = headB 5 c.toNat := by
        show (if c < 0 then [191] else headB 5 c.toNat) = _
        rw [if_neg hneg]
      rw [hw, head_read (by decide) (by omega) (fun h => absurd h (hkf (by decide))) (fun _ => hd (by decide))]
      have h1 : headC s (.fin 5 c.toNat false) = beginC s true c := by
        simp only [headC]
        rw [if_neg (by decide), if_neg (by decide), if_neg (by decide), if_neg (by omega), Int.toNat_of_nonneg (by omega)]
        rfl
      rw [h1]
      rfl
/-! ### A whole document -/
def jC (s : List Bx) : Ci := if s = [] then .item [] false else atC s
theorem rest_full {b : Bx} {r : List Bx} (h : fullB b = true) : atC (b :: r) = atC r ∧ endsC (b :: r) = evEnd :: endsC r := by
  have h1 : restC (b :: r) = restC r := by simp only [restC]; rw [if_pos h]
  have h2 : numC (b :: r) = numC r + 1 := by simp only [numC]; rw [if_pos h]
  unfold atC endsC
  rw [h1, h2]
  exact ⟨rfl, rfl⟩
theorem rest_open {b : Bx} {r : List Bx} (h : ¬ fullB b = true) : atC (b :: r) = .item (b :: r) false ∧ endsC (b :: r) = [] := by
  have h1 : restC (b :: r) = b :: r := by simp only [restC]; rw [if_neg h]
  have h2 : numC (b :: r) = 0 := by simp only [numC]; rw [if_neg h]
  unfold atC endsC
  rw [h1, h2]
  exact ⟨rfl, rfl⟩
theorem good_end {e : Ev} (hg : GoodK e) (h7 : e.k = 7) : e = evEnd := by
  have ht := hg.tidy
  obtain ⟨k, y, m, t, c⟩ := e
  obtain rfl : k = 7 := h7
  exact ht.symm
theorem back_runK (D : Nat) : ∀ (l : List Ev) (s : List Bx), runC (.live s) l = .done → (∀ e ∈ l, GoodK e) → DeepW D s l → ∃ ps, runCi D (jC s) (writeAllK s l) = (.item [] true, ps) ∧ l = endsC s ++ ps
  | [], s, h, _, _ => by simp [runC] at h
  | e :: l, s, h, hg, hd => by
    have hge := hg e (by simp)
    have hgl : ∀ x ∈ l, GoodK x := fun x hx => hg x (by simp [hx])
    have hlast : ∀ s' : List Bx, stepC (.live s) e = ckS s' → s' ≠ [] → ∃ ps, runCi D (atC s') (writeAllK s' l) = (.item [] true, ps) ∧ l = endsC s' ++ ps := by
      intro s' hs hne
      have hs2 : stepC (.live s) e = .live s' := by rw [hs]; exact if_neg hne
      have hd2 := hd.2
      rw [runC_cons, hs2] at h
      rw [hs2] at hd2
      have := back_runK D l s' h hgl hd2
      unfold jC at this
      rwa [if_neg hne] at this
    have hall : ∀ s' : List Bx, stepC (.live s) e = ckS s' → writeAllK s (e :: l) = writeK s e ++ (if s' = [] then [] else writeAllK s' l) ∧ (s' = [] → l = []) := by
      intro s' hs
      have h2 := h
      rw [runC_cons, hs] at h2
      simp only [writeAllK]
      rw [hs]
      unfold ckS at h2 ⊢
      by_cases hne : s' = []
      · rw [if_pos hne] at h2 ⊢
        rw [if_pos hne]
        exact ⟨rfl, fun _ => runC_done h2⟩
      · rw [if_neg hne, if_neg hne]
        exact ⟨rfl, fun h => absurd h hne⟩
    by_cases h7 : e.k = 7
    · obtain rfl := good_end hge h7
      cases s with
      | nil =>
        rw [runC_cons, show stepC (.live []) evEnd = .bad 2 from rfl, runC_bad] at h
        cases h
      | cons b r =>
        have hns : ¬ shutB b := by
          intro hsb
          have : stepC (.live (b :: r)) evEnd = .bad 2 := by
            simp only [stepC]
            rw [if_neg (by decide), if_pos (by rfl), if_pos hsb]
          rw [runC_cons, this, runC_bad] at h
          cases h
        have hst := end_step (r := r) hns
        obtain ⟨hw, hl⟩ := hall r hst
        have hj : jC (b :: r) = atC (b :: r) := if_neg (by simp)
        rw [hw, hj]
        by_cases hf : fullB b = true
        · have hwk : writeK (b :: r) evEnd = [] := by
            show (if b.c < 0 then [255] else []) = _
            unfold fullB at hf
            rw [decide_eq_true_eq] at hf
            rw [if_neg (by omega)]
          obtain ⟨e1, e2⟩ := rest_full (r := r) hf
          rw [hwk, e1, e2, List.nil_append]
          by_cases hr : r = []
          · subst hr
            obtain rfl := hl rfl
            exact ⟨[], rfl, rfl⟩
          · rw [if_neg hr]
            obtain ⟨ps, h1, h2⟩ := hlast r hst hr
            exact ⟨ps, h1, by rw [List.cons_append, ← h2]⟩
        · have hc : b.c < 0 := by
            by_cases hc : 0 ≤ b.c
            · exact absurd (shut_full hns hc) hf
            · omega
          have hwk : writeK (b :: r) evEnd = [255] := by
            show (if b.c < 0 then [255] else []) = _
            rw [if_pos hc]
          obtain ⟨e1, e2⟩ := rest_open (r := r) hf
          rw [hwk, e1, e2, runCi_append]
          have h1 : runCi D (.item (b :: r) false) [255] = (atC r, evEnd :: endsC r) := by
            refine one_byte ?_
            show firstC D (b :: r) false 255 = _
            unfold firstC
            rw [if_neg (by decide), if_pos rfl]
            simp only
            rw [if_neg]
            rintro (h1 | h1)
            · omega
            · exact hns (.inr h1)
          rw [h1]
          simp only
          by_cases hr : r = []
          · subst hr
            obtain rfl := hl rfl
            exact ⟨[evEnd], rfl, rfl⟩
          · rw [if_neg hr]
            obtain ⟨ps, h1, h2⟩ := hlast r hst hr
            refine ⟨evEnd :: endsC r ++ ps, by rw [h1], ?_⟩
            rw [List.nil_append, List.cons_append, ← h2]
    · have hopen : jC s = .item s false ∧ endsC s = [] := by
        cases s with
        | nil => exact ⟨rfl, rfl⟩
        | cons b r =>
          have hj : jC (b :: r) = atC (b :: r) := if_neg (by simp)
          rw [hj]
          exact rest_open (fun hf => h7 (full_end hf h))
      have hbad : ∀ f, stepC (.live s) e ≠ .bad f := fun f hf => by
        rw [runC_cons, hf, runC_bad] at h
        cases h
      have hm : mayE e := by
        by_cases hm : mayE e
        · exact hm
        · exact absurd (by simp only [stepC]; rw [if_pos hm]) (hbad 2)
      have hkey : keyB s = true → e.k = 3 := by
        intro hk
        by_cases h3 : e.k = 3
        · exact h3
        · refine absurd ?_ (hbad 8)
          simp only [stepC]
          rw [if_neg (by simpa using hm), if_neg h7, if_pos ⟨hk, h3⟩]
      have hst : stepC (.live s) e = ckS (itemOf s e) := by
        have hb4 := hbad 4
        simp only [stepC] at hb4 ⊢
        rw [if_neg (by simpa using hm), if_neg h7, if_neg (fun h => h.2 (hkey h.1))] at hb4 ⊢
        unfold itemOf ckS
        by_cases h56 : e.k = 5 ∨ e.k = 6
        · rw [if_pos h56] at hb4 ⊢
          by_cases hl : 16 ≤ s.length
          · rw [if_pos hl] at hb4
            exact absurd rfl hb4
          · rw [if_neg hl, if_pos h56, if_neg (by simp)]
        · rw [if_neg h56, if_neg h56]
          cases s <;> rfl
      obtain ⟨hw, hl⟩ := hall _ hst
      rw [hw, hopen.1, hopen.2, runCi_append, item_read D s e hge h7 hkey hd.1]
      simp only
      by_cases hr : itemOf s e = []
      · rw [if_pos hr, hr]
        obtain rfl := hl hr
        exact ⟨[e], rfl, rfl⟩
      · rw [if_neg hr]
        obtain ⟨ps, h1, h2⟩ := hlast _ hst hr
        refine ⟨e :: endsC (itemOf s e) ++ ps, by rw [h1], ?_⟩
        rw [List.nil_append, List.cons_append, ← h2]
/-- WHAT IS WRITTEN AS CBOR IS READ AS IT WAS. -/
theorem back_allK (D : Nat) (l : List Ev) (hc : checkE l = 0) (hg : ∀ e ∈ l, GoodK e) (hd : DeepW D [] l) : allCi D (writeAllK [] l) = (l, 0) := by
  obtain ⟨ps, h1, h2⟩ := back_runK D l [] (check_zero hc) hg hd
  unfold allCi
  rw [show ci0 = jC [] from rfl, h1, h2]
  rfl
theorem back_endK (D : Nat) (l : List Ev) (hc : checkE l = 0) (hg : ∀ e ∈ l, GoodK e) (hd : DeepW D [] l) : runCi D ci0 (writeAllK [] l) = (.item [] true, l) := by
  obtain ⟨ps, h1, h2⟩ := back_runK D l [] (check_zero hc) hg hd
  rw [show ci0 = jC [] from rfl, h1, h2]
  rfl
/-- Behind the end nothing more may come. -/
theorem shut_run (D : Nat) (s : List Bx) (b : UInt8) (l : List UInt8) : runCi D (.item s true) (b :: l) = (.bad 2, []) := by
  have h : stepCi D (.item s true) b = (.bad 2, []) := by
    simp only [stepCi, firstC]
    rw [if_pos (.inl trivial)]
  rw [runCi, h]
  simp only [runCi_bad, List.append_nil]
theorem more_allK (D : Nat) (l : List Ev) (hc : checkE l = 0) (hg : ∀ e ∈ l, GoodK e) (hd : DeepW D [] l) (b : UInt8) (t : List UInt8) : allCi D (writeAllK [] l ++ b :: t) = (l, 2) := by
  unfold allCi
  rw [runCi_append, back_endK D l hc hg hd]
  simp only
  rw [shut_run, List.append_nil]
  rfl
/-- A document that is cut anywhere is not at its end. -/
theorem cut_allK (D : Nat) (l : List Ev) (hc : checkE l = 0) (hg : ∀ e ∈ l, GoodK e) (hd : DeepW D [] l) (i : Nat) (hi : i < (writeAllK [] l).length) : (allCi D ((writeAllK [] l).take i)).2 = 3 := by
  have h := back_endK D l hc hg hd
  rw [← List.take_append_drop i (writeAllK [] l), runCi_append, List.drop_eq_getElem_cons hi] at h
  unfold allCi
  simp only
  generalize (runCi D ci0 ((writeAllK [] l).take i)).1 = j at h
  cases j with
  | bad e =>
    rw [runCi_bad] at h
    cases h
  | item s dn =>
    cases dn with
    | true =>
      rw [shut_run] at h
      cases h
    | false => rfl
  | head _ _ => rfl
  | text _ _ _ _ _ => rfl
  | open_ _ _ _ => rfl
  | chead _ _ _ _ => rfl
  | ctext _ _ _ _ _ => rfl
theorem write_someK (D : Nat) (l : List Ev) (hc : checkE l = 0) (hg : ∀ e ∈ l, GoodK e) (hd : DeepW D [] l) : writeAllK [] l ≠ [] := by
  intro hn
  have h := back_endK D l hc hg hd
  rw [hn] at h
  cases h
/-! ### As far as it is written -/
theorem writeK_snoc : ∀ (l : List Ev) (s s' : List Bx) (e : Ev), runC (.live s) l = .live s' → writeAllK s (l ++ [e]) = writeAllK s l ++ writeK s' e
  | [], s, s', e, h => by
    have : Ck.live s = Ck.live s' := h
    obtain rfl : s = s' := by cases this; rfl
    simp only [List.nil_append, writeAllK]
    cases stepC (.live s) e <;> simp
  | x :: l, s, s', e, h => by
    rw [runC_cons] at h
    simp only [List.cons_append, writeAllK]
    cases hx : stepC (.live s) x with
    | bad f => rw [hx, runC_bad] at h; cases h
    | done =>
      rw [hx] at h
      cases l with
      | nil => cases h
      | cons y l => rw [runC_cons] at h; simp only [stepC] at h; rw [runC_bad] at h; cases h
    | live s1 =>
      rw [hx] at h
      simp only [writeK_snoc l s1 s' e h, List.append_assoc]
theorem writeK_take {l : List Ev} {j : Nat} (hj : j < l.length) {s : List Bx} (h : runC (.live []) (l.take j) = .live s) : writeAllK [] (l.take (j + 1)) = writeAllK [] (l.take j) ++ writeK s l[j] := by
  rw [List.take_add_one, List.getElem?_eq_getElem hj]
  exact writeK_snoc _ _ _ _ h
end Go.Proofs.Ytockeedbceopiaa
/-
  NO PROGRAM NEEDED: CBOR written part by part, whether a part may be or not: the bytes of each (writeK of CinBack), the error, whether the document is at its end.
-/
namespace Go.Proofs.Ytockeedbceopiaa
open Go.Lib
/-- What is written: the open containers, whether all is at its end. -/
structure Kq where
  s : List Bx
  dn : Bool
/-- No further part may come within it: all that its count says are there. -/
def fulT : List Bx → Bool
  | [] => false
  | b :: _ => decide (0 ≤ b.c ∧ (if b.map = true then 2 * b.c else b.c) ≤ (b.have_ : Int))
def stepQ (o : Kq) (e : Ev) : (List UInt8 × Nat) × Kq :=
  if ¬ mayE e ∨ o.dn = true then (([], 14), o)
  else if e.k = 7 then
    match o.s with
    | [] => (([], 14), o)
    | b :: r => if shutB b then (([], 14), o) else ((writeK (b :: r) e, 0), ⟨r, r.isEmpty⟩)
  else if fulT o.s = true then (([], 14), o)
  else if keyB o.s = true ∧ e.k ≠ 3 then (([], 8), o)
  else if e.k = 5 ∨ e.k = 6 then ((writeK o.s e, 0), ⟨⟨decide (e.k = 6), e.c, 0⟩ :: incB o.s, false⟩)
  else ((writeK o.s e, 0), ⟨incB o.s, o.s.isEmpty⟩)
theorem stepQ_bad (o : Kq) (e : Ev) (h : ¬ mayE e ∨ o.dn = true) : stepQ o e = (([], 14), o) := if_pos h
theorem stepQ_end {b : Bx} {r : List Bx} {e : Ev} (hm : mayE e) (h7 : e.k = 7) (h : ¬ shutB b) : stepQ ⟨b :: r, false⟩ e = ((writeK (b :: r) e, 0), ⟨r, r.isEmpty⟩) := by
  unfold stepQ
  rw [if_neg (by simp [hm]), if_pos h7]
  simp only
  rw [if_neg h]
theorem stepQ_shut {b : Bx} {r : List Bx} {e : Ev} (hm : mayE e) (h7 : e.k = 7) (h : shutB b) : stepQ ⟨b :: r, false⟩ e = (([], 14), ⟨b :: r, false⟩) := by
  unfold stepQ
  rw [if_neg (by simp [hm]), if_pos h7]
  simp only
  rw [if_pos h]
theorem stepQ_none {e : Ev} (hm : mayE e) (h7 : e.k = 7) : stepQ ⟨[], false⟩ e = (([], 14), ⟨[], false⟩) := by
  unfold stepQ
  rw [if_neg (by simp [hm]), if_pos h7]
theorem stepQ_full {s : List Bx} {e : Ev} (hm : mayE e) (h7 : e.k ≠ 7) (hf : fulT s = true) : stepQ ⟨s, false⟩ e = (([], 14), ⟨s, false⟩) := by
  unfold stepQ
  rw [if_neg (by simp [hm]), if_neg h7, if_pos hf]
theorem stepQ_key {s : List Bx} {e : Ev} (hm : mayE e) (h7 : e.k ≠ 7) (hf : fulT s = false) (hk : keyB s = true) (h3 : e.k ≠ 3) : stepQ ⟨s, false⟩ e = (([], 8), ⟨s, false⟩) := by
  unfold stepQ
  rw [if_neg (by simp [hm]), if_neg h7, if_neg (by simp [hf]), if_pos ⟨hk, h3⟩]
theorem stepQ_open {s : List Bx} {e : Ev} (hm : mayE e) (h56 : e.k = 5 ∨ e.k = 6) (hf : fulT s = false) (hk : keyB s = false) : stepQ ⟨s, false⟩ e = ((writeK s e, 0), ⟨⟨decide (e.k = 6), e.c, 0⟩ :: incB s, false⟩) := by
  unfold stepQ
  rw [if_neg (by simp [hm]), if_neg (by omega), if_neg (by simp [hf]), if_neg (by simp [hk]), if_pos h56]
theorem stepQ_val {s : List Bx} {e : Ev} (hm : mayE e) (h7 : e.k ≠ 7) (h56 : ¬ (e.k = 5 ∨ e.k = 6)) (hf : fulT s = false) (hk : ¬ (keyB s = true ∧ e.k ≠ 3)) : stepQ ⟨s, false⟩ e = ((writeK s e, 0), ⟨incB s, s.isEmpty⟩) := by
  unfold stepQ
  rw [if_neg (by simp [hm]), if_neg h7, if_neg (by simp [hf]), if_neg hk, if_neg h56]
/-- All parts, one by one: the bytes ahead of the first error; the error; ErrArg of what is no part. -/
def allQ : Kq → List Ev → List UInt8 × Nat
  | o, [] => ([], if o.dn = true then 0 else 3)
  | o, e :: l => if ¬ mayE e then ([], 1) else if (stepQ o e).1.2 ≠ 0 then ([], (stepQ o e).1.2) else ((stepQ o e).1.1 ++ (allQ (stepQ o e).2 l).1, (allQ (stepQ o e).2 l).2)
theorem allQ_cons_bad {o : Kq} {e : Ev} {l : List Ev} (h : ¬ mayE e) : allQ o (e :: l) = ([], 1) := by simp only [allQ]; rw [if_pos h]
theorem allQ_cons_err {o : Kq} {e : Ev} {l : List Ev} (hm : mayE e) (h : (stepQ o e).1.2 ≠ 0) : allQ o (e :: l) = ([], (stepQ o e).1.2) := by simp only [allQ]; rw [if_neg (by simpa using hm), if_pos h]
theorem allQ_cons_ok {o : Kq} {e : Ev} {l : List Ev} (hm : mayE e) (h : (stepQ o e).1.2 = 0) : allQ o (e :: l) = ((stepQ o e).1.1 ++ (allQ (stepQ o e).2 l).1, (allQ (stepQ o e).2 l).2) := by
  simp only [allQ]
  rw [if_neg (by simpa using hm), if_neg (by simp [h])]
/-- The writer's state by Check's. -/
def ckQ : Ck → Kq
  | .live s => ⟨s, false⟩
  | _ => ⟨[], true⟩
/-- A part of a document that is one: nothing is full ahead of it. -/
theorem full_not {s : List Bx} {e : Ev} {l : List Ev} (h : runC (.live s) (e :: l) = .done) (h7 : e.k ≠ 7) : fulT s = false := by
  cases s with
  | nil => rfl
  | cons b r =>
    unfold fulT
    rw [decide_eq_false_iff_not]
    rintro ⟨hc, hw⟩
    by_cases h2 : (b.have_ : Int) = if b.map = true then 2 * b.c else b.c
    · have hf : fullB b = true := by
        unfold fullB
        rw [decide_eq_true_eq]
        exact ⟨hc, h2⟩
      exact absurd (full_end hf h) h7
    · exact absurd h (over_bad _ _ ⟨b, List.mem_cons_self, hc, by omega⟩)
/-- A part of a document that is one is written. -/
theorem step_ckQ {s : List Bx} {e : Ev} {l : List Ev} (h : runC (.live s) (e :: l) = .done) : mayE e ∧ stepQ ⟨s, false⟩ e = ((writeK s e, 0), ckQ (stepC (.live s) e)) := by
  have hb : ∀ f, stepC (.live s) e ≠ .bad f := fun f hf => by
    rw [runC_cons, hf, runC_bad] at h
    cases h
  have hm : mayE e := by
    by_cases hm : mayE e
    · exact hm
    · exact absurd (by simp only [stepC]; rw [if_pos hm]) (hb 2)
  refine ⟨hm, ?_⟩
  by_cases h7 : e.k = 7
  · cases s with
    | nil => exact absurd (by simp only [stepC]; rw [if_neg (by simpa using hm), if_pos h7]) (hb 2)
    | cons b r =>
      have hs : stepC (.live (b :: r)) e = if shutB b then .bad 2 else if r = [] then .done else .live r := by simp only [stepC]; rw [if_neg (by simpa using hm), if_pos h7]
      have hns : ¬ shutB b := fun hh => hb 2 (by rw [hs, if_pos hh])
      rw [hs, if_neg hns, stepQ_end hm h7 hns]
      cases r with
      | nil => rfl
      | cons x q => rw [if_neg (by simp)]; rfl
  · have hf := full_not h h7
    have hk : ¬ (keyB s = true ∧ e.k ≠ 3) := fun hh => hb 8 (by simp only [stepC]; rw [if_neg (by simpa using hm), if_neg h7, if_pos hh])
    by_cases h56 : e.k = 5 ∨ e.k = 6
    · have hkf : keyB s = false := by
        cases hq : keyB s with
        | false => rfl
        | true => exact absurd ⟨hq, by omega⟩ hk
      have hs : stepC (.live s) e = if 16 ≤ s.length then .bad 4 else .live (⟨decide (e.k = 6), e.c, 0⟩ :: incB s) := by simp only [stepC]; rw [if_neg (by simpa using hm), if_neg h7, if_neg hk, if_pos h56]
      have hd : ¬ 16 ≤ s.length := fun hh => hb 4 (by rw [hs, if_pos hh])
      rw [hs, if_neg hd, stepQ_open hm h56 hf hkf]
      rfl
    · have hs : stepC (.live s) e = if s = [] then .done else .live (incB s) := by simp only [stepC]; rw [if_neg (by simpa using hm), if_neg h7, if_neg hk, if_neg h56]
      rw [hs, stepQ_val hm h7 h56 hf hk]
      cases s with
      | nil => rfl
      | cons x q => rw [if_neg (by simp)]; rfl
theorem run_endedQ {l : List Ev} (h : runC .done l = .done) : l = [] := by
  cases l with
  | nil => rfl
  | cons e l =>
    have : runC .done (e :: l) = runC (.bad 2) l := rfl
    rw [this, runC_bad] at h
    cases h
/-- A DOCUMENT IS WRITTEN WHOLE. -/
theorem all_ckQ : ∀ (l : List Ev) (s : List Bx), runC (.live s) l = .done → allQ ⟨s, false⟩ l = (writeAllK s l, 0)
  | [], s, h => by cases h
  | e :: l, s, h => by
    obtain ⟨hm, h1⟩ := step_ckQ h
    rw [allQ_cons_ok hm (by rw [h1]), h1]
    rw [runC_cons] at h
    simp only [writeAllK]
    cases hc : stepC (.live s) e with
    | bad f => rw [hc, runC_bad] at h; cases h
    | live s' =>
      rw [hc] at h
      simp only [ckQ]
      rw [all_ckQ l s' h]
    | done =>
      rw [hc] at h
      rw [run_endedQ h]
      simp [ckQ, allQ]
/-- A container of a count: what it takes (CboroutCounts), by so many texts. -/
theorem counts_text {m : Bool} {N i : Nat} {e : Ev} (he : mayE e) (h3 : e.k = 3) : stepQ ⟨[⟨m, N, i⟩], false⟩ e = if i < (if m = true then 2 * N else N) then ((writeK [⟨m, N, i⟩] e, 0), ⟨[⟨m, N, i + 1⟩], false⟩) else (([], 14), ⟨[⟨m, N, i⟩], false⟩) := by
  by_cases h : i < (if m = true then 2 * N else N)
  · rw [if_pos h, stepQ_val he (by omega) (by omega) (by cases m <;> simp [fulT] at h ⊢ <;> omega) (fun hh => hh.2 h3)]
    rfl
  · rw [if_neg h, stepQ_full he (by omega) (by cases m <;> simp [fulT] at h ⊢ <;> omega)]
theorem counts_end {m : Bool} {N i : Nat} (hi : i ≤ (if m = true then 2 * N else N)) : stepQ ⟨[⟨m, N, i⟩], false⟩ evEnd = if i = (if m = true then 2 * N else N) then (([], 0), ⟨[], true⟩) else (([], 14), ⟨[⟨m, N, i⟩], false⟩) := by
  have he : mayE evEnd := by decide
  by_cases h : i = (if m = true then 2 * N else N)
  · rw [if_pos h, stepQ_end he rfl]
    · have : writeK [⟨m, (N : Int), i⟩] evEnd = [] := by simp only [writeK, evEnd]; simp
      rw [this]; rfl
    · rintro (⟨_, h2⟩ | ⟨h1, h2⟩)
      · apply h2; cases m <;> simp at h ⊢ <;> omega
      · simp only at h1 h2; subst h1; simp at h; omega
  · rw [if_neg h, stepQ_shut he rfl]
    refine .inl ⟨by simp, ?_⟩
    cases m <;> simp at h ⊢ <;> omega
end Go.Proofs.Ytockeedbceopiaa
/-
  GENERAL (NO PROGRAM NEEDED): a block and all that it holds; frames by steps; append under a guard.
-/
namespace Go.Proofs.Ytockeedbceopiaa
open Go.RowKit
open Go.Lib
theorem up_alloc {a w : World} (h : Below a.heap.size a w) (o : Obj) : Below a.heap.size a (w.alloc o) := h.alloc h.size o
theorem up_trans {a w w' : World} (h : Below a.heap.size a w) (k : Below w.heap.size w w') : Below a.heap.size a w' := h.trans (k.mono h.size)
theorem up_set {a w : World} {b : Nat} (h : Below a.heap.size a w) (hb : a.heap.size ≤ b) (o : Nat) (u : Value) : Below a.heap.size a (w.setCell ⟨b, o, none⟩ u) := h.setCell hb u
theorem up_set5 {a w : World} (h : Below a.heap.size a w) (u0 u1 u2 u3 u4 : Value) :
    Below a.heap.size a (((((w.setCell ⟨a.heap.size, 0, none⟩ u0).setCell ⟨a.heap.size, 1, none⟩ u1).setCell ⟨a.heap.size, 2, none⟩ u2).setCell ⟨a.heap.size, 3, none⟩ u3).setCell ⟨a.heap.size, 4, none⟩ u4) :=
  up_set (up_set (up_set (up_set (up_set h (Nat.le_refl _) _ _) (Nat.le_refl _) _ _) (Nat.le_refl _) _ _) (Nat.le_refl _) _ _) (Nat.le_refl _) _ _
/-- A block, and all that it holds. -/
def Blk (w : World) (b : Nat) (cs : Array Value) (t : TypeId) : Prop := w.heap[b]? = some (.cells cs t (0, 0))
theorem Blk.cell {w : World} {b : Nat} {cs : Array Value} {t : TypeId} (h : Blk w b cs t) (j : Nat) : w.cell? ⟨b, j, none⟩ = cs[j]? := by
  unfold Blk at h
  simp [World.cell?, h]
theorem Blk.froz {w : World} {b : Nat} {cs : Array Value} {t : TypeId} (h : Blk w b cs t) (j : Nat) : w.frozen? ⟨b, j, none⟩ = false := by
  unfold Blk at h
  simp [World.frozen?, h]
theorem Blk.lt {w : World} {b : Nat} {cs : Array Value} {t : TypeId} (h : Blk w b cs t) : b < w.heap.size := (Array.getElem?_eq_some_iff.1 h).1
theorem Blk.below {w w' : World} {b B : Nat} {cs : Array Value} {t : TypeId} (h : Blk w b cs t) (k : Below B w w') (hB : b < B) : Blk w' b cs t := (k.block b hB).trans h
theorem Blk.go {w w' : World} {b : Nat} {cs : Array Value} {t : TypeId} (h : Blk w b cs t) (k : Below w.heap.size w w') : Blk w' b cs t := h.below k h.lt
theorem Blk.alloc {w : World} {b : Nat} {cs : Array Value} {t : TypeId} (h : Blk w b cs t) (x : Obj) : Blk (w.alloc x) b cs t := (Below.heap_alloc w x b h.lt).trans h
theorem blk_new (w : World) (cs : Array Value) (t : TypeId) : Blk (w.alloc (.cells cs t)) w.heap.size cs t := heap_alloc_new w _
/-- A kind is one of eight, or none. -/
theorem kinds (k : Int) : (k = 0 ∨ k = 1 ∨ k = 2 ∨ k = 3 ∨ k = 4 ∨ k = 5 ∨ k = 6 ∨ k = 7) ∨ ¬ (0 ≤ k ∧ k ≤ 7) := by omega
theorem Blk.set {w : World} {b : Nat} {cs : Array Value} {t : TypeId} (h : Blk w b cs t) (j : Nat) (u : Value) : Blk (w.setCell ⟨b, j, none⟩ u) b (cs.setIfInBounds j u) t := by
  unfold Blk at h ⊢
  unfold World.setCell
  simp [Array.getElem?_modify, h]
theorem Blk.far {w : World} {b : Nat} {cs : Array Value} {t : TypeId} (h : Blk w b cs t) {p : Addr} (hp : b ≠ p.block) (u : Value) : Blk (w.setCell p u) b cs t := (Below.heap_setCell w p u b hp).trans h
/-- What a new slice of m elements yields, as what is appended. -/
theorem src_new {P : Program} {tx e' : TypeId} (W : World) (hk : P.underlying tx = some (.slice e')) (sz m : Nat) (xs : List Value) (e : TypeId) (g : Nat) (hl : xs.length = m * sz) (h1 : ∀ u ∈ xs, u.oneCell' = true) (hh : W.heap[g]? = some (.cells xs.toArray e (0, 0))) :
    Src P sz tx (.slice (some ⟨g, 0, none⟩) m m) m xs W := by
  refine Src.ofSlice _ hk _ m m xs hl (fun j u hu => ?_) h1
  rw [add_flat]
  simp only [World.cell?, Nat.zero_add]
  rw [hh]
  simpa using hu
theorem Blk.lift {w w2 : World} {b : Nat} {cs : Array Value} {t : TypeId} (h : Blk w b cs t) {row : Option Nat} (k : w.grownBy w2 row) (hr : row ≠ some b) : Blk w2 b cs t :=
  (k.block b h.lt (fun e => hr e.symm)).trans h
theorem Blk.drew {w : World} {b : Nat} {cs : Array Value} {t : TypeId} (h : Blk w b cs t) : Blk w.drew b cs t := h
theorem below_drw {B : Nat} {w w' : World} (h : Below B w w') : Below B w w'.drew := ⟨h.os, h.tape, h.output, h.size, h.block⟩

theorem below_drN {B : Nat} {w w' : World} (h : Below B w w') (q : Nat) : Below B w (w'.drewN q) := ⟨h.os, h.tape, h.output, h.size, h.block⟩
/-- append, at an operation that a guard lets by. -/
theorem wpList_append_win_g {P : Program} {w : World} {e t : TypeId} {sz : Nat} {v : Value} {n : Nat} {xs : List Value} {ops : Array Oper} {rest : List Oper} {o : Oper} {a : Act} {Q : Exit → Act → World → Prop} (hwt : Region.wanted o (yielded ops a.tmps) = true) (sl x : Operand) (tx : TypeId)
    (ho : o.op = .call { callee := .builtin .append, args := #[sl, x], argTypes := #[t, tx] }) {z : Value} {bytes : Nat}
    (ht : P.underlying t = some (.slice e)) (hi : (P.info? e).map (fun i => (i.zero, i.size, i.bytes)) = some (some z, sz, bytes)) (hzs : z.cells.size = sz)
    (hs : a.eval sl = v) (h : Win w e sz v n xs) (X : Value) (hx : a.eval x = X) (m : Nat) (news : List Value) (hsrc : Src P sz tx X m news w) (h63 : n + m ≤ maxLen) (hbytes : (n + m) * bytes ≤ 140737488355328)
    (hk : ∀ v' w', Hid (Win w' e sz v' (n + m) (xs ++ news)) → Hid (w.grownBy w' v.ownBlock) → Hid (v'.ownBlock = v.ownBlock ∨ v'.ownBlock = some w.heap.size ∧ w.heap.size < w'.heap.size) → wpList P ops Q rest (a.put o.dst v') w') : wpList P ops Q (o :: rest) a w := by
  refine wpList_step fun K hK => ?_
  rw [if_pos hwt]
  cases hq : P.info? e with
  | none => simp [hq] at hi
  | some i =>
    simp only [hq, Option.map_some, Option.some.injEq, Prod.mk.injEq] at hi
    obtain ⟨v', w', hr, h2, h3, h4⟩ := h.append (ty := o.type) ht hq hi.1 hi.2.1 hi.2.2 hzs X m news hsrc h63 hbytes
    unfold Oper.wp execOp
    simp only [ho, resolve, invoke, builtin, Sem.run_bind, Sem.run_pure, Result.andThen_ok, List.map_toArray, List.map_cons, List.map_nil, hs, hx, hr]
    exact hK _ _ (hk v' w' h2 h3 h4)
end Go.Proofs.Ytockeedbceopiaa
/-
  GENERAL, NO PROGRAM NEEDED: A STRUCTURE WITHIN A BLOCK: its cells from an offset on; a step that turns those cells alone.
-/
namespace Go.Proofs.Ytockeedbceopiaa
open Go.RowKit
open Go.Lib
/-- The cells of block b from o on hold vs, none is frozen. -/
def At (w : World) (b o : Nat) (vs : List Value) : Prop := ∀ j u, vs[j]? = some u → w.cell? ⟨b, o + j, none⟩ = some u ∧ w.frozen? ⟨b, o + j, none⟩ = false
/-- Of the blocks that there are b alone may have turned, and of it the n cells from o on. -/
structure Sub (b o n : Nat) (w w' : World) : Prop where
  step : Step [b] [b] w w'
  shape : ∀ (c : Array Value) (t : TypeId) (fr : Nat × Nat), w.heap[b]? = some (.cells c t fr) → ∃ c' : Array Value, w'.heap[b]? = some (.cells c' t fr) ∧ c'.size = c.size
  cell : ∀ k, (k < o ∨ o + n ≤ k) → w'.cell? ⟨b, k, none⟩ = w.cell? ⟨b, k, none⟩
theorem Sub.refl (b o n : Nat) (w : World) : Sub b o n w w := ⟨Step.refl _ _, fun c _ _ h => ⟨c, h, rfl⟩, fun _ _ => rfl⟩
theorem Sub.trans {b o n : Nat} {w w1 w2 : World} (h : Sub b o n w w1) (k : Sub b o n w1 w2) : Sub b o n w w2 :=
  ⟨h.step.trans k.step, fun c t fr hc => by
    obtain ⟨c1, h1, s1⟩ := h.shape c t fr hc
    obtain ⟨c2, h2, s2⟩ := k.shape c1 t fr h1
    exact ⟨c2, h2, s2.trans s1⟩, fun i hi => (k.cell i hi).trans (h.cell i hi)⟩
theorem Sub.widen {b o n o' n' : Nat} {w w' : World} (h : Sub b o n w w') (h1 : o' ≤ o) (h2 : o + n ≤ o' + n') : Sub b o' n' w w' :=
  ⟨h.step, h.shape, fun k hk => h.cell k (by omega)⟩
theorem Sub.drewN {b o n : Nat} {w w' : World} (h : Sub b o n w w') (q : Nat) : Sub b o n w (w'.drewN q) := ⟨h.step.drewN q, h.shape, h.cell⟩
theorem Sub.drew {b o n : Nat} {w w' : World} (h : Sub b o n w w') : Sub b o n w w'.drew := h.drewN 1
theorem sub_alloc (b o n : Nat) (w : World) (x : Obj) (hb : b < w.heap.size) : Sub b o n w (w.alloc x) := by
  have he : ∀ k, k < w.heap.size → (w.alloc x).heap[k]? = w.heap[k]? := fun k hk => Below.heap_alloc w x k hk
  refine ⟨⟨rfl, rfl, rfl, by simp, fun k hk _ => he k hk, fun _ h => .inl h⟩, fun c t fr hc => ⟨c, (he b hb).trans hc, rfl⟩, fun k _ => World.cell?_of_block (w := w) (he b hb)⟩
theorem Sub.alloc {b o n : Nat} {w w' : World} (h : Sub b o n w w') (x : Obj) (hb : b < w.heap.size) : Sub b o n w (w'.alloc x) :=
  h.trans (sub_alloc b o n w' x (Nat.lt_of_lt_of_le hb h.step.size))
theorem heap_setCell_at (w : World) (p : Addr) (v : Value) (c : Array Value) (t : TypeId) (fr : Nat × Nat) (hp : p.spot = none) (h : w.heap[p.block]? = some (.cells c t fr)) :
    (w.setCell p v).heap[p.block]? = some (.cells (c.setIfInBounds p.off v) t fr) := by
  unfold World.setCell
  simp [Array.getElem?_modify, h, hp]
theorem cell_setCell_ne (w : World) (b k j : Nat) (v : Value) (h : k ≠ j) : (w.setCell ⟨b, j, none⟩ v).cell? ⟨b, k, none⟩ = w.cell? ⟨b, k, none⟩ := by
  unfold World.cell?
  cases hb : w.heap[b]? with
  | none =>
    have : (w.setCell ⟨b, j, none⟩ v).heap[b]? = none := by
      unfold World.setCell
      simp [Array.getElem?_modify, hb]
    simp [this]
  | some x =>
    cases x with
    | cells c t fr =>
      have := heap_setCell_at w ⟨b, j, none⟩ v c t fr rfl hb
      simp only [] at this
      rw [this]
      simp [show j ≠ k from fun e => h e.symm]
    | _ =>
      unfold World.setCell
      simp [Array.getElem?_modify, hb]
theorem sub_setCell {b o n : Nat} (w : World) (k : Nat) (v : Value) (h : o ≤ k ∧ k < o + n) : Sub b o n w (w.setCell ⟨b, k, none⟩ v) :=
  ⟨step_setCell [b] w ⟨b, k, none⟩ v (by simp), fun c t fr hc => ⟨_, heap_setCell_at w ⟨b, k, none⟩ v c t fr rfl hc, by simp⟩, fun i hi => cell_setCell_ne w b i k v (by omega)⟩
theorem Sub.setCell {b o n : Nat} {w w' : World} (h : Sub b o n w w') (k : Nat) (v : Value) (hk : o ≤ k ∧ k < o + n) : Sub b o n w (w'.setCell ⟨b, k, none⟩ v) := h.trans (sub_setCell w' k v hk)
theorem Sub.frozen {b o n : Nat} {w w' : World} (h : Sub b o n w w') (c : Array Value) (t : TypeId) (fr : Nat × Nat) (hc : w.heap[b]? = some (.cells c t fr)) (k : Nat) : w'.frozen? ⟨b, k, none⟩ = w.frozen? ⟨b, k, none⟩ := by
  obtain ⟨c', h', _⟩ := h.shape c t fr hc
  unfold World.frozen?
  simp only [hc, h']
theorem Sub.below {b o n B : Nat} {w w' : World} (h : Sub b o n w w') (hB : B ≤ b) (hw : B ≤ w.heap.size) : Below B w w' := h.step.below (by simpa using hB) hw
theorem cell_block {w : World} {b k : Nat} {u : Value} (h : w.cell? ⟨b, k, none⟩ = some u) : ∃ c t fr, w.heap[b]? = some (.cells c t fr) ∧ c[k]? = some u := by
  unfold World.cell? at h
  cases hb : w.heap[b]? with
  | none => simp [hb] at h
  | some x =>
    cases x with
    | cells c t fr => exact ⟨c, t, fr, rfl, by simpa [hb] using h⟩
    | _ => simp [hb] at h
theorem At.block {w : World} {b o : Nat} {vs : List Value} (h : At w b o vs) (hv : vs ≠ []) : ∃ c t fr, w.heap[b]? = some (.cells c t fr) := by
  match vs, hv with
  | v :: _, _ =>
    obtain ⟨c, t, fr, hc, _⟩ := cell_block (h 0 v rfl).1
    exact ⟨c, t, fr, hc⟩
theorem At.lt {w : World} {b o : Nat} {vs : List Value} (h : At w b o vs) (hv : vs ≠ []) : b < w.heap.size := by
  obtain ⟨c, t, fr, hc⟩ := h.block hv
  exact (Array.getElem?_eq_some_iff.1 hc).1
theorem At.nil_ (w : World) (b o : Nat) : At w b o [] := fun j u h => by simp at h
/-- What lies beside the turned cells, in the same block. -/
theorem At.sub {w w' : World} {b o n o' : Nat} {vs : List Value} (h : At w b o' vs) (k : Sub b o n w w') (hd : o' + vs.length ≤ o ∨ o + n ≤ o') : At w' b o' vs := fun j u hj => by
  have hlt : j < vs.length := (List.getElem?_eq_some_iff.1 hj).1
  obtain ⟨h1, h2⟩ := h j u hj
  obtain ⟨c, t, fr, hc, _⟩ := cell_block h1
  exact ⟨(k.cell _ (by omega)).trans h1, (k.frozen c t fr hc _).trans h2⟩
theorem At.keep {w w' : World} {b o : Nat} {vs : List Value} (h : At w b o vs) (hk : w'.heap[b]? = w.heap[b]?) : At w' b o vs := fun j u hj => by
  obtain ⟨h1, h2⟩ := h j u hj
  exact ⟨(World.cell?_of_block (w := w) (a := ⟨b, o + j, none⟩) hk).trans h1, (World.frozen?_of_block (w := w) (a := ⟨b, o + j, none⟩) hk).trans h2⟩
theorem At.other {w w' : World} {b b' o n o' : Nat} {vs : List Value} (h : At w b' o' vs) (k : Sub b o n w w') (hne : b' ≠ b) (hv : vs ≠ []) : At w' b' o' vs :=
  h.keep (k.step.block b' (h.lt hv) (by simpa using hne))
theorem At.below {w w' : World} {b o B : Nat} {vs : List Value} (h : At w b o vs) (k : Below B w w') (hB : b < B) : At w' b o vs := h.keep (k.block b hB)
theorem At.alloc {w : World} {b o : Nat} {vs : List Value} (h : At w b o vs) (hv : vs ≠ []) (x : Obj) : At (w.alloc x) b o vs := h.keep (Below.heap_alloc w x b (h.lt hv))
theorem At.set {w : World} {b o : Nat} {vs : List Value} (h : At w b o vs) (k : Nat) (hk : k < vs.length) (v : Value) : At (w.setCell ⟨b, o + k, none⟩ v) b o (vs.set k v) := fun j u hj => by
  have hs := sub_setCell (b := b) (o := o + k) (n := 1) w (o + k) v (by omega)
  obtain ⟨h1, h2⟩ := h k vs[k] (List.getElem?_eq_getElem hk)
  obtain ⟨c, t, fr, hc, hcu⟩ := cell_block h1
  by_cases e : j = k
  · subst e
    have : u = v := by simpa [hk] using hj.symm
    subst this
    refine ⟨?_, (hs.frozen c t fr hc _).trans h2⟩
    have hh := heap_setCell_at w ⟨b, o + j, none⟩ u c t fr rfl hc
    have hlt : o + j < c.size := (Array.getElem?_eq_some_iff.1 hcu).1
    unfold World.cell?
    simp only [] at hh
    rw [hh]
    simp [hlt]
  · rw [List.getElem?_set_ne (fun h => e h.symm)] at hj
    obtain ⟨g1, g2⟩ := h j u hj
    exact ⟨(hs.cell _ (by omega)).trans g1, (hs.frozen c t fr hc _).trans g2⟩
theorem At.cons {w : World} {b o : Nat} {v : Value} {vs : List Value} (h : At w b o (v :: vs)) : (w.cell? ⟨b, o, none⟩ = some v ∧ w.frozen? ⟨b, o, none⟩ = false) ∧ At w b (o + 1) vs :=
  ⟨h 0 v rfl, fun j u hj => by
    have := h (j + 1) u (by simpa using hj)
    rw [show o + 1 + j = o + (j + 1) by omega]
    exact this⟩
theorem at_cons {w : World} {b o : Nat} {v : Value} {vs : List Value} (h : w.cell? ⟨b, o, none⟩ = some v ∧ w.frozen? ⟨b, o, none⟩ = false) (ht : At w b (o + 1) vs) : At w b o (v :: vs) := fun j u hj => by
  cases j with
  | zero =>
    have : u = v := by simpa using hj.symm
    subst this
    exact h
  | succ j =>
    have := ht j u (by simpa using hj)
    rw [show o + (j + 1) = o + 1 + j by omega]
    exact this
theorem At.left {w : World} {b o : Nat} {vs us : List Value} (h : At w b o (vs ++ us)) : At w b o vs := fun j u hj => h j u (by
  have := (List.getElem?_eq_some_iff.1 hj).1
  rw [List.getElem?_append_left this]
  exact hj)
theorem At.right {w : World} {b o : Nat} {vs us : List Value} (h : At w b o (vs ++ us)) : At w b (o + vs.length) us := fun j u hj => by
  have := h (vs.length + j) u (by
    rw [List.getElem?_append_right (by omega)]
    simpa using hj)
  rw [show o + vs.length + j = o + (vs.length + j) by omega]
  exact this
theorem At.append {w : World} {b o : Nat} {vs us : List Value} (h : At w b o vs) (k : At w b (o + vs.length) us) : At w b o (vs ++ us) := fun j u hj => by
  by_cases hlt : j < vs.length
  · rw [List.getElem?_append_left hlt] at hj
    exact h j u hj
  · rw [List.getElem?_append_right (by omega)] at hj
    have := k (j - vs.length) u hj
    rw [show o + vs.length + (j - vs.length) = o + j by omega] at this
    exact this
/-- A block of cells that is none of bytes stands where only bytes' rows and another block turned. -/
theorem At.kept {w w' : World} {e : TypeId} {a : Option Nat} {b o : Nat} {vs : List Value} (h : At w b o vs) (k : OthersKept e a w w') (ha : a ≠ some b) (ht : ∀ c t fr, w.heap[b]? = some (.cells c t fr) → t ≠ e) (hv : vs ≠ []) : At w' b o vs := by
  obtain ⟨c, t, fr, hc⟩ := h.block hv
  have := k b _ hc (fun e => ha e.symm) (fun c' fz he => ht c t fr hc (by injection he))
  exact h.keep (this.trans hc.symm)
end Go.Proofs.Ytockeedbceopiaa
/-
  GENERAL LEMMAS for the walks of byte slices, strings, copies, regions that draw, slices that came in. Nothing of one package's code.
-/
namespace Go.Proofs.Ytockeedbceopiaa
open Go.RowKit
open Go.Lib
theorem run_make_rowN {P : Program} (t e : TypeId) (i : TypeInfo) (z : Value) (ht : P.underlying t = some (.slice e)) (hi : P.info? e = some i) (hz : i.zero = some z)
    (kl kc : IntKind) (n c : Nat) (hnc : n ≤ c) (hbytes : i.bytes * c ≤ 281474976710656) (h63 : c ≤ 9223372036854775807) (w : World) :
    (Instr.makeSlice t (.int kl (n : Int)) (.int kc (c : Int))).run P w = .ok (.slice (some ⟨w.heap.size, 0, none⟩) n c) (w.alloc (.cells (madeCells z.cells (c * i.size)) e)) := by
  have hb : (i.bytes : Int) * (c : Int) ≤ 281474976710656 := by
    have h : ((i.bytes * c : Nat) : Int) ≤ 281474976710656 := by omega
    rwa [Int.natCast_mul] at h
  have hr := run_make (P := P) w t e i z ht hi hz kl kc n c (by omega) (by omega) hb (by omega)
  simp only [Int.toNat_natCast] at hr
  exact hr
theorem info5 : (Try.prog.info? 5).map (fun i => (i.zero, i.size, i.bytes)) = some (some (.int .u8 0), 1, 1) := by kernel_rfl
theorem made_bytes (n : Nat) : madeCells (Value.cells (.int .u8 0)) (n * 1) = (Lib.byteCells (List.replicate n 0)).toArray := by
  apply Array.toList_inj.1
  simp [madeCells, Lib.byteCells]
  apply List.ext_getElem
  · simp
  · intro i h1 h2
    simp [Value.cells, Nat.mod_one]
open Go in
theorem wp_region_tail {P : Program} {id : Nat} {Q : Exit → Act → World → Prop} {a : Act} {w : World} {l : List Oper} (n : Nat) (hm : P.follows .mixedOrders = true) (hB : Region.lexTailB .any l.toArray n = true)
    (h : wpStill P l.toArray w.drew (fun a' => wpList P l.toArray Q (l.drop n) a' w.drew) (l.take n) a) : (Code.region id l.toArray true).wp P Q a w :=
  wp_region_still_tail n hm hB h
theorem run_slice_hi (W : World) (t e : TypeId) (ht : Try.prog.underlying t = some (.slice e)) (hz : ∀ w, (Go.sizeOf e).run Try.prog w = .ok 1 w) (b len cap h : Nat) (hh : h ≤ cap) :
    (Instr.slice t (.slice (some ⟨b, 0, none⟩) len cap) none (some (.int .i64 (h : Int))) none).run Try.prog W = .ok (.slice (some ⟨b, 0, none⟩) h cap) W := by
  go_simp
theorem size5 (w : World) : (Go.sizeOf 5).run Try.prog w = .ok 1 w := by kernel_rfl
theorem bytes_row {w : World} {g : Nat} {l : List UInt8} (hg : w.heap[g]? = some (.cells (Lib.byteCells l).toArray 5 (0, 0))) : Lib.Bytes w g 0 ⟨l.toArray⟩ := by
  intro i hi
  have hi' : i < l.length := by simpa [ByteArray.size] using hi
  simp only [World.cell?, hg]
  simp [Lib.byteCells, hi']
  rfl
set_option maxRecDepth 100000 in
theorem conv_row {w : World} {g : Nat} {l : List UInt8} (hg : w.heap[g]? = some (.cells (Lib.byteCells l).toArray 5 (0, 0))) (f a cap : Nat) (h : f + a ≤ l.length) :
    (convert 70 9 (.slice (some ⟨g, f, none⟩) a cap)).run Try.prog w = .ok (.string ⟨((l.drop f).take a).toArray⟩) w := by
  have := run_convert_window (P := Try.prog) w 70 5 9 Try.underlying70 Try.underlying5 Try.underlying9 g 0 ⟨l.toArray⟩ (bytes_row hg) f a cap (by simpa [ByteArray.size] using h)
  rw [Nat.zero_add] at this
  rw [this]
  congr 2
  apply ByteArray.ext
  apply Array.toList_inj.1
  rw [extract_data]
  simp
theorem ba_append (x y : List UInt8) : ((⟨x.toArray⟩ : ByteArray) ++ (⟨y.toArray⟩ : ByteArray)) = ⟨(x ++ y).toArray⟩ := by
  apply ByteArray.ext
  apply Array.toList_inj.1
  simp
/-- 'copy(dst, s)' from a string: as many bytes as the shorter of the two has, laid over the row from place o on. -/
theorem run_copy_str {P : Program} (w : World) (dT sT ty elem : TypeId) (g o dLen dCap : Nat) (s : ByteArray) (l : List UInt8) (t : TypeId)
    (hu : P.underlying dT = some (.slice elem)) (hs : (P.info? elem).map (·.size) = some 1) (hg : w.heap[g]? = some (.cells (Lib.byteCells l).toArray t (0, 0))) (hfit : o + min s.size dLen ≤ l.length) :
    (Builtin.copy_ #[dT, sT] ty #[.slice (some ⟨g, o, none⟩) dLen dCap, .string s]).run P w =
      .ok (goInt (min s.size dLen : Nat)) (w.setRow g (Lib.byteCells (splice l o (s.data.toList.take dLen))).toArray) := by
  have hlen : (Lib.byteCells (s.data.toList.take (min s.size dLen))).length = min s.size dLen := by rw [Lib.byteCells_length]; simp
  have htk : s.data.toList.take (min s.size dLen) = s.data.toList.take dLen := by
    rw [Nat.min_comm, ← List.take_take, List.take_of_length_le (i := s.size) (by simp)]
  have hst := run_storeCells_at P g o t (Lib.byteCells (s.data.toList.take (min s.size dLen))) 0 (Lib.byteCells l).toArray w hg (by rw [hlen]; simpa [Lib.byteCells_length] using hfit) (Lib.byteCells_one _)
  rw [hlen] at hst
  simp only [Nat.add_zero] at hst
  have hrow : (List.take o (Lib.byteCells l).toArray.toList ++ Lib.byteCells (s.data.toList.take (min s.size dLen)) ++ List.drop (o + min s.size dLen) (Lib.byteCells l).toArray.toList) = Lib.byteCells (splice l o (s.data.toList.take dLen)) := by
    rw [← htk]
    simp [splice, Lib.byteCells, List.map_drop]
  rw [hrow] at hst
  have e2 : List.take (min s.size dLen) (List.map (fun b : UInt8 => Value.int IntKind.u8 ↑b.toNat) s.data.toList) = Lib.byteCells (List.take (min s.size dLen) s.data.toList) := by
    simp [Lib.byteCells, List.map_take]
  have hmin : Nat.min s.size dLen = min s.size dLen := rfl
  cases hq : P.info? elem with
  | none => simp [hq] at hs
  | some i =>
    simp [Builtin.copy_, run_underlying hu, Builtin.lenOf, Builtin.firstCells, sizeOf, typeInfo, hq, hmin]
    rw [e2, hst]
    simp [Result.andThen]
/-- The world is as it was but for block g. -/
structure But (g : Nat) (w w' : World) : Prop where
  os : w'.os = w.os
  tape : w'.tape = w.tape
  output : w'.output = w.output
  size : w'.heap.size = w.heap.size
  block : ∀ k, k ≠ g → w'.heap[k]? = w.heap[k]?
theorem but_setRow (g : Nat) (w : World) (cs : Array Value) : But g w (w.setRow g cs) := ⟨rfl, rfl, rfl, by simp, fun k hk => setRow_other w g k cs hk⟩
theorem But.below {g B : Nat} {a w w' : World} (h : Below B a w) (hb : But g w w') (hg : B ≤ g) : Below B a w' :=
  h.trans ⟨hb.os, hb.tape, hb.output, by rw [hb.size]; exact Nat.le_refl _, fun k hk => hb.block k (by omega)⟩
theorem wpList_copy_str {P : Program} {w : World} {ops : Array Oper} {rest : List Oper} {o : Oper} {a : Act} {Q : Exit → Act → World → Prop} (hgd : o.guard = none) (d s : Operand) (dT sT : TypeId)
    (ho : o.op = .call { callee := .builtin .copy, args := #[d, s], argTypes := #[dT, sT] }) (elem : TypeId) (hu : P.underlying dT = some (.slice elem)) (hsz : (P.info? elem).map (·.size) = some 1)
    (g off dLen dCap : Nat) (x : ByteArray) (hd : a.eval d = .slice (some ⟨g, off, none⟩) dLen dCap) (hs : a.eval s = .string x)
    (l : List UInt8) (t : TypeId) (hg : w.heap[g]? = some (.cells (Lib.byteCells l).toArray t (0, 0))) (hfit : off + min x.size dLen ≤ l.length)
    (h : ∀ w', Hid (w'.heap[g]? = some (.cells (Lib.byteCells (splice l off (x.data.toList.take dLen))).toArray t (0, 0))) → Hid (But g w w') → wpList P ops Q rest (a.put o.dst (goInt (min x.size dLen : Nat))) w') :
    wpList P ops Q (o :: rest) a w :=
  Lib.wpList_copy_run w hgd d s dT sT ho _ _ hd hs (run_copy_str w dT sT o.type elem g off dLen dCap x l t hu hsz hg hfit)
    (h _ (setRow_heap w g _ _ t _ hg) (but_setRow _ _ _))
theorem size_one5 : (Try.prog.info? 5).map (·.size) = some 1 := by kernel_rfl
theorem run_slice_lo (W : World) (t e : TypeId) (ht : Try.prog.underlying t = some (.slice e)) (hz : ∀ w, (Go.sizeOf e).run Try.prog w = .ok 1 w) (b cap u : Nat) (hu : u < cap) :
    (Instr.slice t (.slice (some ⟨b, 0, none⟩) cap cap) (some (.int .i64 (u : Int))) none none).run Try.prog W = .ok (.slice (some ⟨b, u, none⟩) (cap - u) (cap - u)) W := by
  have ht' : Try.prog.underlying t = some (.slice (Try.prog.elem t)) := by simp [Program.elem, ht]
  have he : Try.prog.elem t = e := by simp [Program.elem, ht]
  rw [run_slice_l W t _ _ _ ht' .i64 _ (by omega) (by omega), he, hz]
  have hne : ¬ cap = u := by omega
  by_cases h0 : u = 0
  · subst h0
    simp [Result.andThen, sliced, Addr.add, hne]
  · simp [Result.andThen, sliced, Addr.add, hne, h0]
theorem slice_str_hi (x : ByteArray) (k : Nat) (hk : k ≤ x.size) (W : World) : (Instr.slice 9 (.string x) none (some (.int .i64 (k : Int))) none).run Try.prog W = .ok (.string (x.extract 0 k)) W := by
  rw [run_slice_string_h W 9 x Try.underlying9 .i64 _ (by omega) (by omega)]
  simp
theorem slice_str_lh (x : ByteArray) (a k : Nat) (ha : a ≤ k) (hk : k ≤ x.size) (W : World) : (Instr.slice 9 (.string x) (some (.int .i64 (a : Int))) (some (.int .i64 (k : Int))) none).run Try.prog W = .ok (.string (x.extract a k)) W := by
  rw [run_slice_string W 9 x .i64 .i64 _ _ Try.underlying9 (by omega) (by omega) (by omega)]
  simp

theorem but_cell {g : Nat} {w w' : World} (h : But g w w') {p : Addr} (hp : p.block ≠ g) : w'.cell? p = w.cell? p := World.cell?_of_block (w := w) (h.block p.block hp)
theorem but_frozen {g : Nat} {w w' : World} (h : But g w w') {p : Addr} (hp : p.block ≠ g) : w'.frozen? p = w.frozen? p := World.frozen?_of_block (w := w) (h.block p.block hp)
theorem ext_list (x : ByteArray) (a k : Nat) : (x.extract a k).data.toList = (x.data.toList.take k).drop a := by
  rw [extract_data, List.drop_take]
theorem drews3 (w : World) (q nq : Nat) : ((w.drewN q).drewN nq).drew = w.drewN (q + nq + 1) := by
  simp only [World.drewN, World.drew, Nat.add_assoc]
theorem below_drewN {B : Nat} {a w : World} (h : Below B a w) (n : Nat) : Below B a (w.drewN n) := ⟨h.os, h.tape, h.output, h.size, h.block⟩
/-- Only blocks from B to L may have turned. -/
structure Keep (B L : Nat) (w w' : World) : Prop where
  below : Below B w w'
  above : ∀ k, L ≤ k → w'.heap[k]? = w.heap[k]?
theorem Keep.refl (B L : Nat) (w : World) : Keep B L w w := ⟨Below.refl _ _, fun _ _ => rfl⟩
theorem Keep.trans {B L : Nat} {a b c : World} (h : Keep B L a b) (k : Keep B L b c) : Keep B L a c := ⟨h.below.trans k.below, fun i hi => (k.above i hi).trans (h.above i hi)⟩
theorem Keep.drewN {B L : Nat} {a w : World} (h : Keep B L a w) (n : Nat) : Keep B L a (w.drewN n) := ⟨⟨h.below.os, h.below.tape, h.below.output, h.below.size, h.below.block⟩, h.above⟩
theorem Keep.cell {B L : Nat} {w w' : World} (h : Keep B L w w') {p : Addr} (hp : L ≤ p.block) : w'.cell? p = w.cell? p := World.cell?_of_block (w := w) (h.above p.block hp)
theorem Keep.frozen {B L : Nat} {w w' : World} (h : Keep B L w w') {p : Addr} (hp : L ≤ p.block) : w'.frozen? p = w.frozen? p := World.frozen?_of_block (w := w) (h.above p.block hp)
/-- 'make([]byte, m)', then 'string(..)' of it. -/
theorem make_zero (m : Nat) (hm : m ≤ 100000) (v : Int) (hv : v = m) : ∀ W : World, (Instr.makeSlice 70 (.int .i64 v) (.int .i64 v)).run Try.prog W = .ok (.slice (some ⟨W.heap.size, 0, none⟩) m m) (W.alloc (.cells (Lib.byteCells (List.replicate m 0)).toArray 5)) := by
  subst hv
  obtain ⟨i0, hi, hz0, hz1, hz2⟩ := info_parts info5
  intro W
  have := run_make_rowN (P := Try.prog) 70 5 i0 (.int .u8 0) Try.underlying70 hi hz0 .i64 .i64 m m (Nat.le_refl _) (by rw [hz2]; omega) (by omega) W
  rw [hz1, made_bytes] at this
  exact this
theorem conv_zero (m : Nat) : ∃ s : ByteArray, s.size = m ∧ ∀ (W : World) (q : Nat), (convert 70 9 (.slice (some ⟨W.heap.size, 0, none⟩) m m)).run Try.prog ((W.drewN q).alloc (.cells (Lib.byteCells (List.replicate m 0)).toArray 5)) = .ok (.string s) ((W.drewN q).alloc (.cells (Lib.byteCells (List.replicate m 0)).toArray 5)) := by
  refine ⟨⟨((((List.replicate m (0 : UInt8)).drop 0).take m)).toArray⟩, by simp [ByteArray.size], fun W q => ?_⟩
  exact conv_row (l := List.replicate m 0) (by
    show (W.heap.push _)[_]? = _
    rw [Array.getElem?_push, if_pos rfl]) 0 m m (by simp)
theorem list_bytes (x : ByteArray) : (⟨x.data.toList.toArray⟩ : ByteArray) = x := by
  apply ByteArray.ext
  simp
theorem mod_two {a n : Nat} (h : a < 2 * n) : a % n = if a < n then a else a - n := by
  split
  · exact Nat.mod_eq_of_lt ‹_›
  · rw [Nat.mod_eq_sub_mod (by omega), Nat.mod_eq_of_lt (by omega)]
theorem mod_parts {a n : Nat} (h : a < 2 * n) : ∃ p, a % n = p ∧ (a < n ∧ p = a ∨ n ≤ a ∧ p = a - n) := by
  rw [mod_two h]
  by_cases h : a < n
  · exact ⟨a, if_pos h, Or.inl ⟨h, rfl⟩⟩
  · exact ⟨a - n, if_neg h, Or.inr ⟨by omega, rfl⟩⟩
theorem splice_get (L : List UInt8) (off : Nat) (cs : List UInt8) (h : off + cs.length ≤ L.length) (j : Nat) :
    (splice L off cs)[j]? = if j < off then L[j]? else if j < off + cs.length then cs[j - off]? else L[j]? := by
  unfold splice
  have h1 : (L.take off).length = off := by simp; omega
  by_cases a : j < off
  · rw [if_pos a, List.getElem?_append_left (by omega), List.getElem?_take_of_lt a]
  · rw [if_neg a, List.getElem?_append_right (by omega), h1]
    by_cases b : j < off + cs.length
    · rw [if_pos b, List.getElem?_append_left (by omega)]
    · rw [if_neg b, List.getElem?_append_right (by omega), List.getElem?_drop]
      congr 1
      omega
theorem block_of_add (a : Addr) (n : Nat) : (a.add n).block = a.block := by unfold Addr.add; split <;> rfl
theorem add_of_add (a : Addr) (i j : Nat) : (a.add i).add j = a.add (i + j) := by
  unfold Addr.add
  by_cases hi : i = 0 <;> by_cases hj : j = 0 <;> simp [hi, hj, Nat.add_assoc]

def Reads (w : World) (B size : Nat) (A : Option Addr) (n : Nat) (xs : List Value) : Prop :=
  xs.length = n * size ∧ (0 < n → ∃ ad, A = some ad ∧ ad.block < B ∧ ∀ j u, xs[j]? = some u → w.cell? (ad.add j) = some u)

section
variable {w w' : World} {B B' size n : Nat} {A : Option Addr} {xs : List Value}
theorem Reads.none_ : Reads w B size A 0 [] := ⟨by simp, fun h => absurd h (by omega)⟩
theorem Reads.at_ {k : Nat} (h : Reads w B 1 A n xs) (hk : k < n) : ∃ ad u, A = some ad ∧ ad.block < B ∧ xs[k]? = some u ∧ w.cell? (ad.add k) = some u := by
  obtain ⟨ad, e, hb, hc⟩ := h.2 (by omega)
  have hl : k < xs.length := by have := h.1; omega
  exact ⟨ad, xs[k], e, hb, List.getElem?_eq_getElem hl, hc k _ (List.getElem?_eq_getElem hl)⟩
theorem Reads.keep (h : Reads w B size A n xs) (hk : ∀ p : Addr, p.block < B → w'.cell? p = w.cell? p) : Reads w' B size A n xs :=
  ⟨h.1, fun hn => by
    obtain ⟨ad, e, hb, hc⟩ := h.2 hn
    exact ⟨ad, e, hb, fun j u hu => (hk _ (by rw [block_of_add]; exact hb)).trans (hc j u hu)⟩⟩
theorem Reads.more (h : Reads w B size A n xs) (hB : B ≤ B') : Reads w B' size A n xs :=
  ⟨h.1, fun hn => by
    obtain ⟨ad, e, hb, hc⟩ := h.2 hn
    exact ⟨ad, e, by omega, hc⟩⟩
theorem Reads.below (h : Reads w B size A n xs) (hb : Below B w w') : Reads w' B size A n xs := h.keep fun _ hp => hb.cell hp
theorem Reads.drew (h : Reads w B size A n xs) : Reads w.drew B size A n xs := h
theorem Reads.drewN (h : Reads w B size A n xs) (k : Nat) : Reads (w.drewN k) B size A n xs := h
theorem Reads.alloc (h : Reads w B size A n xs) (hB : B ≤ w.heap.size) (o : Obj) : Reads (w.alloc o) B size A n xs := h.keep fun p hp => World.cell?_alloc_lt w o p (by omega)
theorem Reads.setCell (h : Reads w B size A n xs) {p : Addr} (hB : B ≤ p.block) (u : Value) : Reads (w.setCell p u) B size A n xs :=
  h.keep fun q hq => World.cell?_setCell_other w p q u (fun e => by subst e; omega)
theorem Reads.grown (h : Reads w B size A n xs) {row : Option Nat} (hg : w.grownBy w' row) (hB : B ≤ w.heap.size) (hr : ∀ g, row = some g → B ≤ g) : Reads w' B size A n xs :=
  h.keep fun p hp => World.cell?_of_block (hg.block p.block (by omega) (fun e => by have := hr _ e.symm; omega))
theorem Reads.cut (h : Reads w B size A n xs) {k cap : Nat} (hk : k ≤ n) (hc : n ≤ cap) :
    Reads w B size (if cap = k then A else A.map (·.add (k * size))) (n - k) (xs.drop (k * size)) := by
  refine ⟨by rw [List.length_drop, h.1, Nat.sub_mul], fun hn => ?_⟩
  obtain ⟨ad, rfl, hb, hcell⟩ := h.2 (by omega)
  rw [if_neg (by omega)]
  refine ⟨ad.add (k * size), rfl, by rw [block_of_add]; exact hb, fun j u hu => ?_⟩
  rw [add_of_add]
  exact hcell _ u (by rw [← hu, List.getElem?_drop])
theorem Reads.of_own {base : Nat} {e : TypeId} {c : Nat} (h : w.ownsRow base e size (.slice A n c) n xs) : Reads w w.heap.size size A n xs := by
  refine ⟨h.1, fun hn => ?_⟩
  obtain ⟨g, cap, hv, _, hlt⟩ := h.form hn
  have hA : A = some ⟨g, 0, none⟩ := by injection hv
  subst hA
  exact ⟨_, rfl, hlt, h.cells (g := g) rfl⟩
end
theorem size_nil {l : ByteArray} (h : l.toList = []) : l.size = 0 := by
  rw [ByteArray.toList_eq] at h
  have := congrArg List.length h
  rw [Array.length_toList] at this
  exact this
theorem toList_nil {l : ByteArray} (h : l.size = 0) : l.toList = [] := by
  rw [ByteArray.toList_eq]
  exact List.eq_nil_of_length_eq_zero (by rw [Array.length_toList]; exact h)
theorem and_low (n : Int) (m : Nat) (hm : m = 15 ∨ m = 7) : ∃ a : Nat, a ≤ m ∧ bits .and .i64 n (m : Int) = (a : Int) := by
  rcases hm with rfl | rfl
  · refine ⟨(n % 16).toNat, by omega, ?_⟩
    have h127 : (BitVec.ofInt 64 15).toNat = 2 ^ 4 - 1 := by decide
    have key : (BitVec.ofInt 64 n &&& BitVec.ofInt 64 15).toNat = (n % ((2 ^ 64 : Nat) : Int)).toNat % 2 ^ 4 := by
      rw [BitVec.toNat_and, BitVec.toNat_ofInt, h127, Nat.and_two_pow_sub_one_eq_mod]
    show IntKind.i64.wrap ((BitVec.ofInt 64 n &&& BitVec.ofInt 64 15).toNat : Nat) = _
    rw [key, IntKind.wrap_i64]
    omega
  · refine ⟨(n % 8).toNat, by omega, ?_⟩
    have h127 : (BitVec.ofInt 64 7).toNat = 2 ^ 3 - 1 := by decide
    have key : (BitVec.ofInt 64 n &&& BitVec.ofInt 64 7).toNat = (n % ((2 ^ 64 : Nat) : Int)).toNat % 2 ^ 3 := by
      rw [BitVec.toNat_and, BitVec.toNat_ofInt, h127, Nat.and_two_pow_sub_one_eq_mod]
    show IntKind.i64.wrap ((BitVec.ofInt 64 n &&& BitVec.ofInt 64 7).toNat : Nat) = _
    rw [key, IntKind.wrap_i64]
    omega
/-- Element k % n of a slice of ints, as the walk wants it. -/
theorem at_mod {w wr : World} {B n k : Nat} {A : Option Addr} {zs : List Int} (h : Reads w B 1 A n (zs.map (Value.int .i64))) (hw : Below B w wr) (hn : 0 < n) :
    ∃ ad q j, A = some ad ∧ j < n ∧ wr.cell? (ad.add j) = some (.int .i64 q) ∧ (k : Int) % (n : Int) = ((j : Nat) : Int) := by
  obtain ⟨ad, z, hA, hb1, hz, hcell⟩ := h.at_ (k := k % n) (Nat.mod_lt _ hn)
  have hcell' : wr.cell? (ad.add (k % n)) = some z := (hw.cell (by rw [block_of_add]; exact hb1)).trans hcell
  rw [List.getElem?_map] at hz
  cases hy : zs[k % n]? with
  | none => simp [hy] at hz
  | some q =>
    simp [hy] at hz
    subst hz
    exact ⟨ad, q, k % n, hA, Nat.mod_lt _ hn, hcell', rfl⟩
theorem size_list (x : ByteArray) : x.data.toList.length = x.size := by simp
set_option maxRecDepth 100000 in
theorem conv_win {w : World} {v : Value} {n : Nat} {bs : List UInt8} (h : Win w 5 1 v n (bCells bs)) : (convert 70 9 v).run Try.prog w = .ok (.string ⟨bs.toArray⟩) w := by
  rcases h.2 with ⟨rfl, rfl⟩ | ⟨g, off, cap, cur, rfl, hg, hnc, hs, hm, hx⟩
  · have : bs = [] := by
      have := h.1
      simp [bCells] at this
      exact this
    subst this
    have ht : (Try.prog.underlying 70, Try.prog.underlying 5, Try.prog.underlying 9) = (some (.slice 5), some (.int .u8), some .string) := by kernel_rfl
    simp only [Prod.mk.injEq] at ht
    simp [convert, run_underlying ht.1, run_underlying ht.2.1, run_underlying ht.2.2, Conv.bytesToString]
    rfl
  · have hl : bs.length = n := by have := h.1; simpa [bCells] using this
    have hby : Lib.Bytes w g off ⟨bs.toArray⟩ := by
      intro i hi
      have hi' : i < bs.length := by simpa [ByteArray.size] using hi
      have hu : (bCells bs)[i]? = some (.int .u8 bs[i].toNat) := by simp [bCells, hi']
      rw [← hx, List.getElem?_take_of_lt (by omega), List.getElem?_drop] at hu
      simp only [World.cell?, hg]
      have hb : (⟨bs.toArray⟩ : ByteArray)[i] = bs[i] := rfl
      rw [hb]
      simpa using hu
    have := run_convert_window (P := Try.prog) w 70 5 9 Try.underlying70 Try.underlying5 Try.underlying9 g off ⟨bs.toArray⟩ hby 0 n cap (by simp [ByteArray.size]; omega)
    rw [Nat.add_zero] at this
    rw [this]
    congr 2
    apply ByteArray.ext
    apply Array.toList_inj.1
    rw [extract_data]
    show List.take _ bs = bs
    exact List.take_of_length_le (by omega)
/-- Element k of a slice of ints that came in. -/
theorem at_k {w wr : World} {B n k : Nat} {A : Option Addr} {zs : List Int} (h : Reads w B 1 A n (zs.map (Value.int .i64))) (hw : Below B w wr) (hn : k < n) :
    ∃ ad q, A = some ad ∧ wr.cell? (ad.add k) = some (.int .i64 q) := by
  obtain ⟨ad, z, hA, hb1, hz, hcell⟩ := h.at_ (k := k) hn
  have hcell' : wr.cell? (ad.add k) = some z := (hw.cell (by rw [block_of_add]; exact hb1)).trans hcell
  rw [List.getElem?_map] at hz
  cases hy : zs[k]? with
  | none => simp [hy] at hz
  | some q =>
    simp [hy] at hz
    subst hz
    exact ⟨ad, q, hA, hcell'⟩
theorem bits_range (n m : Int) (k : Nat) (hk : k < 2 ^ 63) (hm : m = k) : ∃ a : Nat, a ≤ k ∧ bits .and .i64 n m = (a : Int) := by
  subst hm
  have e1 : (BitVec.ofInt 64 (k : Int)).toNat = k := by rw [BitVec.toNat_ofInt]; omega
  refine ⟨(BitVec.ofInt 64 n &&& BitVec.ofInt 64 k).toNat, ?_, ?_⟩
  · rw [BitVec.toNat_and, e1]
    exact Nat.and_le_right
  · show IntKind.i64.wrap ((BitVec.ofInt 64 n &&& BitVec.ofInt 64 k).toNat : Nat) = _
    have : (BitVec.ofInt 64 n &&& BitVec.ofInt 64 k).toNat ≤ k := by
      rw [BitVec.toNat_and, e1]
      exact Nat.and_le_right
    rw [IntKind.wrap_i64]
    omega
theorem slice_str_lo (x : ByteArray) (a : Nat) (ha : a ≤ x.size) (W : World) : (Instr.slice 9 (.string x) (some (.int .i64 (a : Int))) none none).run Try.prog W = .ok (.string (x.extract a x.size)) W := by
  rw [run_slice_string_l W 9 x Try.underlying9 .i64 _ (by omega) (by omega)]
  simp
theorem size_of (l : List UInt8) : (⟨l.toArray⟩ : ByteArray).size = l.length := by simp [ByteArray.size]
theorem cat_of (l k : List UInt8) : (⟨l.toArray⟩ : ByteArray) ++ ⟨k.toArray⟩ = ⟨(l ++ k).toArray⟩ := by
  apply ByteArray.ext
  simp
theorem conv_new (W : World) (l : List UInt8) (cs : Array Value) (k : Nat) (hk : l.length = k) (hc : cs = (Lib.byteCells l).toArray) (x : ByteArray) (hx : x = ⟨l.toArray⟩) :
    (convert 70 9 (.slice (some ⟨W.heap.size, 0, none⟩) k k)).run Try.prog (W.alloc (.cells cs 5)) = .ok (.string x) (W.alloc (.cells cs 5)) := by
  subst hc hk hx
  have := conv_row (w := W.alloc (.cells (Lib.byteCells l).toArray 5)) (g := W.heap.size) (l := l) (heap_alloc_new W _) 0 l.length l.length (by omega)
  rw [this]
  simp
theorem wrap_u64_of (n : Int) (h0 : 0 ≤ n) (h1 : n < 18446744073709551616) : IntKind.u64.wrap n = n := by
  simp [IntKind.wrap, IntKind.bits, IntKind.signed]
  omega
theorem wrap_u8_of (n : Int) (h0 : 0 ≤ n) (h1 : n < 256) : IntKind.u8.wrap n = n := by
  simp [IntKind.wrap, IntKind.bits, IntKind.signed]
  omega
theorem wrap32 (n : Int) (h : 0 ≤ n) (h1 : n ≤ 1114111) : IntKind.i32.wrap n = n := by rw [IntKind.wrap_i32]; omega
end Go.Proofs.Ytockeedbceopiaa
/-
  GENERAL: cells that are there, whatever they hold; cells that are all written anew.
-/
namespace Go.Proofs.Ytockeedbceopiaa
open Go.RowKit
open Go.Lib
/-! ### Cells that are there, whatever they hold -/
/-- The n cells of block b from o on are there, none is frozen. -/
def Room (w : World) (b o n : Nat) : Prop := ∃ c t fr, w.heap[b]? = some (.cells c t fr) ∧ o + n ≤ c.size ∧ ∀ k, o ≤ k → k < o + n → w.frozen? ⟨b, k, none⟩ = false
theorem Room.cell {w : World} {b o n : Nat} (h : Room w b o n) (k : Nat) (h1 : o ≤ k) (h2 : k < o + n) : ∃ v, w.cell? ⟨b, k, none⟩ = some v ∧ w.frozen? ⟨b, k, none⟩ = false := by
  obtain ⟨c, t, fr, hc, hs, hf⟩ := h
  refine ⟨c[k]'(by omega), ?_, hf k h1 h2⟩
  unfold World.cell?
  simp only [hc]
  simp [show k < c.size by omega]
theorem Room.lt {w : World} {b o n : Nat} (h : Room w b o n) : b < w.heap.size := by
  obtain ⟨c, t, fr, hc, _⟩ := h
  exact (Array.getElem?_eq_some_iff.1 hc).1
theorem Room.sub {w w' : World} {b o n o' n' : Nat} (h : Room w b o n) (k : Sub b o' n' w w') : Room w' b o n := by
  obtain ⟨c, t, fr, hc, hs, hf⟩ := h
  obtain ⟨c', hc', hs'⟩ := k.shape c t fr hc
  exact ⟨c', t, fr, hc', by omega, fun i h1 h2 => (k.frozen c t fr hc i).trans (hf i h1 h2)⟩
theorem Room.keep {w w' : World} {b o n : Nat} (h : Room w b o n) (hk : w'.heap[b]? = w.heap[b]?) : Room w' b o n := by
  obtain ⟨c, t, fr, hc, hs, hf⟩ := h
  exact ⟨c, t, fr, hk.trans hc, hs, fun i h1 h2 => (World.frozen?_of_block (w := w) (a := ⟨b, i, none⟩) hk).trans (hf i h1 h2)⟩
theorem Room.part {w : World} {b o n o' n' : Nat} (h : Room w b o n) (h1 : o ≤ o') (h2 : o' + n' ≤ o + n) : Room w b o' n' := by
  obtain ⟨c, t, fr, hc, hs, hf⟩ := h
  exact ⟨c, t, fr, hc, by omega, fun i h3 h4 => hf i (by omega) (by omega)⟩
theorem Room.there {w : World} {b o n : Nat} (h : Room w b o n) : w.there b o n := fun j hj => by
  obtain ⟨v, hv, hf⟩ := h.cell (o + j) (by omega) (by omega)
  exact ⟨by rw [hv]; rfl, hf⟩
theorem At.room {w : World} {b o : Nat} {vs : List Value} (h : At w b o vs) (hv : vs ≠ []) : Room w b o vs.length := by
  obtain ⟨c, t, fr, hc⟩ := h.block hv
  have hl : 0 < vs.length := List.length_pos_iff.2 hv
  refine ⟨c, t, fr, hc, ?_, fun k h1 h2 => ?_⟩
  · have h1 := (h (vs.length - 1) _ (List.getElem?_eq_getElem (by omega))).1
    unfold World.cell? at h1
    simp only [hc] at h1
    have := (Array.getElem?_eq_some_iff.1 (by simpa using h1)).1
    omega
  · have h3 := (h (k - o) _ (List.getElem?_eq_getElem (by omega))).2
    rwa [show o + (k - o) = k by omega] at h3
theorem setAll_sub (b : Nat) : ∀ (vs : List Value) (w : World) (o : Nat), Sub b o vs.length w (w.setCells b o vs) := by
  intro vs
  induction vs with
  | nil => intro w o; exact Sub.refl _ _ _ _
  | cons v r ih =>
    intro w o
    exact (sub_setCell w o v (by simp only [List.length_cons]; omega)).trans ((ih _ (o + 1)).widen (by omega) (by simp only [List.length_cons]; omega))
theorem setAll_at (b : Nat) : ∀ (vs : List Value) (w : World) (o : Nat), Room w b o vs.length → At (w.setCells b o vs) b o vs := by
  intro vs
  induction vs with
  | nil => intro w o _; exact At.nil_ _ _ _
  | cons v r ih =>
    intro w o hR
    have h1 := sub_setCell (b := b) (o := o) (n := 1) w o v (by omega)
    refine at_cons ?_ (ih _ _ ((hR.sub h1).part (by omega) (by simp only [List.length_cons]; omega)))
    have hs := setAll_sub b r (w.setCell ⟨b, o, none⟩ v) (o + 1)
    obtain ⟨u, hu, hf⟩ := hR.cell o (Nat.le_refl _) (by simp only [List.length_cons]; omega)
    have hA : At w b o [u] := fun j x hx => by
      cases j with
      | zero => have : x = u := by simpa using hx.symm
                subst this; exact ⟨hu, hf⟩
      | succ j => simp at hx
    have hB : At (w.setCell ⟨b, o, none⟩ v) b o [v] := hA.set 0 (by simp) v
    exact (hB.sub hs (.inl (by simp))) 0 v rfl
/-- All cells of a variable written at once, as the walk meets it. -/
theorem wpList_store_room {P : Program} {ops : Array Oper} {rest : List Oper} {op : Oper} {a : Act} {w : World} {Q : Exit → Act → World → Prop} (hgd : op.guard = none) (ty : TypeId) (x y : Operand) (ho : op.op = .store ty x y)
    (b o : Nat) (cs : List Value) (hx : a.eval x = .pointer (some ⟨b, o, none⟩)) (hy : a.eval y = .agg cs.toArray) (hr : Room w b o cs.length) (hi : (P.info? ty).map (·.size) = some cs.length) (h1 : cs.toArray.all (·.oneCell') = true)
    (h : ∀ w', Hid (At w' b o cs ∧ Sub b o cs.length w w') → wpList P ops Q rest (a.put op.dst undef) w') : wpList P ops Q (op :: rest) a w :=
  wpList_store_mid hgd ty x y ho b o cs.toArray hx hy (by simpa using hr.there) (by simpa using hi) h1 (h _ (Lib.hid ⟨setAll_at b _ w o hr, setAll_sub b _ w o⟩))
theorem Room.alloc {w : World} {b o n : Nat} (h : Room w b o n) (x : Obj) : Room (w.alloc x) b o n := h.keep (Below.heap_alloc w x b h.lt)
theorem sub_of_below {w w' : World} {b : Nat} (h : Below w.heap.size w w') (hb : b < w.heap.size) (o n : Nat) : Sub b o n w w' :=
  ⟨⟨h.os, h.tape, h.output, h.size, fun k hk _ => h.block k hk, fun _ h => .inl h⟩, fun c _ _ hc => ⟨c, (h.block b hb).trans hc, rfl⟩, fun _ _ => World.cell?_of_block (w := w) (h.block b hb)⟩
end Go.Proofs.Ytockeedbceopiaa
/-
  A SLICE OF api.Ev: its elements as parts of EvPure. (What comes in is opened by XEvs.lean.part, in the rows.)
-/
namespace Go.Proofs.Ytockeedbceopiaa
open Go.RowKit
open Go.Lib
/-- The five cells of a part. -/
def evCells (e : Ev) : List Value := [.int .i64 e.k, .bool e.y, .int .u64 e.m, .string e.t, .int .i64 e.c]
/-- What a part's numbers may be. -/
def EvOk (e : Ev) : Prop := (-9223372036854775808 ≤ e.k ∧ e.k ≤ 9223372036854775807) ∧ e.m < 18446744073709551616 ∧ (-9223372036854775808 ≤ e.c ∧ e.c ≤ 9223372036854775807) ∧ e.t.size ≤ 9223372036854775807
/-- The elements of a slice that came in. -/
def EvsAt (w : World) (B : Nat) (A : Option Addr) (n : Nat) (E : Nat → Ev) : Prop :=
  0 < n → ∃ b off, A = some ⟨b, off, none⟩ ∧ b < B ∧ ∀ i, i < n → ∀ j u, (evCells (E i))[j]? = some u → w.cell? ⟨b, off + i * 5 + j, none⟩ = some u
theorem EvsAt.keep {w w' : World} {B n : Nat} {A : Option Addr} {E : Nat → Ev} (h : EvsAt w B A n E) (hk : ∀ p : Addr, p.block < B → w'.cell? p = w.cell? p) : EvsAt w' B A n E := fun hn => by
  obtain ⟨b, off, hA, hb, hc⟩ := h hn
  exact ⟨b, off, hA, hb, fun i hi j u hu => (hk _ hb).trans (hc i hi j u hu)⟩
theorem EvsAt.below {w w' : World} {B n : Nat} {A : Option Addr} {E : Nat → Ev} (h : EvsAt w B A n E) (hb : Below B w w') : EvsAt w' B A n E := h.keep fun _ hp => hb.cell hp
end Go.Proofs.Ytockeedbceopiaa
/-
  GENERAL (of the program the type api.Ev alone): a part as a plain one; a block and all that it holds; frames by steps.
-/
namespace Go.Proofs.Ytockeedbceopiaa
open Go.RowKit
open Go.Lib
/-- A part, as a plain one. -/
def evV (e : Ev) : Value := .agg #[.int .i64 e.k, .bool e.y, .int .u64 e.m, .string e.t, .int .i64 e.c]
/-- The cells of a plain part's block. -/
theorem Blk.ev {w : World} {b : Nat} {k : Int} {y : Bool} {m : Int} {t : ByteArray} {c : Int} {T : TypeId} (h : Blk w b #[.int .i64 k, .bool y, .int .u64 m, .string t, .int .i64 c] T) :
    (w.cell? ⟨b, 0, none⟩ = some (.int .i64 k) ∧ w.cell? ⟨b, 1, none⟩ = some (.bool y) ∧ w.cell? ⟨b, 2, none⟩ = some (.int .u64 m) ∧ w.cell? ⟨b, 3, none⟩ = some (.string t) ∧ w.cell? ⟨b, 4, none⟩ = some (.int .i64 c)) ∧
    (w.frozen? ⟨b, 0, none⟩ = false ∧ w.frozen? ⟨b, 1, none⟩ = false ∧ w.frozen? ⟨b, 2, none⟩ = false ∧ w.frozen? ⟨b, 3, none⟩ = false ∧ w.frozen? ⟨b, 4, none⟩ = false) :=
  ⟨⟨h.cell 0, h.cell 1, h.cell 2, h.cell 3, h.cell 4⟩, ⟨h.froz 0, h.froz 1, h.froz 2, h.froz 3, h.froz 4⟩⟩
/-- What a plain part's call makes of a value that is none. -/
def evZ : Ev := ⟨0, false, 0, ⟨#[]⟩, 0⟩
end Go.Proofs.Ytockeedbceopiaa
/-
  A FRAME: only two cells of a block have turned, and the blocks of its row.
-/
namespace Go.Proofs.Ytockeedbceopiaa
open Go.RowKit
open Go.Lib
/-- Only the Writer's cells have turned, and its row. -/
structure Jf (b o : Nat) (F F' : List Nat) (w w' : World) : Prop where
  step : Step (b :: F) (b :: F') w w'
  shape : ∀ (c : Array Value) (t : TypeId) (fr : Nat × Nat), w.heap[b]? = some (.cells c t fr) → ∃ c' : Array Value, w'.heap[b]? = some (.cells c' t fr) ∧ c'.size = c.size
  cell : ∀ k, (k < o ∨ o + 2 ≤ k) → w'.cell? ⟨b, k, none⟩ = w.cell? ⟨b, k, none⟩
theorem Jf.refl (b o : Nat) (F : List Nat) (w : World) : Jf b o F F w w := ⟨Step.refl _ _, fun c _ _ h => ⟨c, h, rfl⟩, fun _ _ => rfl⟩
theorem Jf.trans {b o : Nat} {F F' F'' : List Nat} {w w1 w2 : World} (h : Jf b o F F' w w1) (k : Jf b o F' F'' w1 w2) : Jf b o F F'' w w2 :=
  ⟨h.step.trans k.step, fun c t fr hc => by
    obtain ⟨c1, h1, s1⟩ := h.shape c t fr hc
    obtain ⟨c2, h2, s2⟩ := k.shape c1 t fr h1
    exact ⟨c2, h2, s2.trans s1⟩, fun i hi => (k.cell i hi).trans (h.cell i hi)⟩
theorem Jf.of {b o : Nat} {F : List Nat} {w w' : World} (k : Below w.heap.size w w') (hb : b < w.heap.size) : Jf b o F F w w' :=
  ⟨⟨k.os, k.tape, k.output, k.size, fun i hi _ => k.block i hi, fun _ h => .inl h⟩, fun c _ _ hc => ⟨c, (k.block b hb).trans hc, rfl⟩, fun _ _ => World.cell?_of_block (w := w) (k.block b hb)⟩
theorem Jf.drewN {b o : Nat} {F F' : List Nat} {w w' : World} (h : Jf b o F F' w w') (n : Nat) : Jf b o F F' w (w'.drewN n) := ⟨h.step.drewN n, h.shape, h.cell⟩
theorem jf_set {b o : Nat} {F : List Nat} (w : World) (k : Nat) (v : Value) (hk : o ≤ k ∧ k < o + 2) : Jf b o F F w (w.setCell ⟨b, k, none⟩ v) :=
  ⟨step_setCell _ _ _ _ (by simp), (sub_setCell (b := b) (o := o) (n := 2) w k v hk).shape, (sub_setCell (b := b) (o := o) (n := 2) w k v hk).cell⟩
theorem Jf.set {b o : Nat} {F F' : List Nat} {w w' : World} (h : Jf b o F F' w w') (k : Nat) (v : Value) (hk : o ≤ k ∧ k < o + 2) : Jf b o F F' w (w'.setCell ⟨b, k, none⟩ v) := h.trans (jf_set w' k v hk)
theorem Jf.up {b o : Nat} {F F' : List Nat} {w w1 w2 : World} (h : Jf b o F F' w w1) (hb : b < w.heap.size) (k : Below w1.heap.size w1 w2) : Jf b o F F' w w2 :=
  h.trans (Jf.of k (Nat.lt_of_lt_of_le hb h.step.size))
theorem Jf.below {b o B : Nat} {F F' : List Nat} {w w' : World} (h : Jf b o F F' w w') (hb : B ≤ b) (hF : ∀ k ∈ F, B ≤ k) (hw : B ≤ w.heap.size) : Below B w w' :=
  h.step.below (fun k hk => (List.mem_cons.1 hk).elim (fun e => e ▸ hb) (fun hk => hF k hk)) hw
theorem oat_two {w : World} {b o : Nat} {v0 v1 : Value} (h : At w b o [v0, v1]) : (w.cell? ⟨b, o, none⟩ = some v0 ∧ w.frozen? ⟨b, o, none⟩ = false) ∧ (w.cell? ⟨b, o + 1, none⟩ = some v1 ∧ w.frozen? ⟨b, o + 1, none⟩ = false) :=
  ⟨h 0 v0 rfl, h 1 v1 rfl⟩
theorem jat_block {w : World} {b : Nat} {c : Array Value} {t : TypeId} (h : w.heap[b]? = some (.cells c t (0, 0))) : At w b 0 c.toList := fun j u hj => by
  refine ⟨?_, ?_⟩
  · unfold World.cell?
    simp only [h]
    simpa using hj
  · unfold World.frozen?
    simp only [h]
    simp
end Go.Proofs.Ytockeedbceopiaa
/-
  CONTRACTS of package cborout, part A: the open containers (nest) as cells; lacksValue, hasAll, mayEnd; of the innermost one: isFull, atKey, mayEnd.
-/
namespace Go.Proofs.Ytockeedbceopiaa
open Go.RowKit
open Go.Lib
def kcB (b : Bx) : List Value := [.bool b.map, .int .i64 b.c, .int .i64 (b.have_ : Int)]
/-- Of each open container its cells, the outermost first. -/
def kcL : List Bx → List Value
  | [] => []
  | b :: r => kcL r ++ kcB b
theorem kcL_length : ∀ s : List Bx, (kcL s).length = s.length * 3
  | [] => rfl
  | b :: r => by rw [kcL, List.length_append, kcL_length r]; simp [kcB]; omega
theorem kcL_one : ∀ (s : List Bx) (u : Value), u ∈ kcL s → u.oneCell' = true
  | [], u, h => by simp [kcL] at h
  | b :: r, u, h => by
    rw [kcL, List.mem_append] at h
    rcases h with h | h
    · exact kcL_one r u h
    · simp [kcB] at h
      rcases h with rfl | rfl | rfl <;> rfl
/-- What open containers may be: none has more than its count says. -/
def WfQ (s : List Bx) : Prop := ∀ b ∈ s, -1 ≤ b.c ∧ b.c ≤ 9223372036854775807 ∧ (0 ≤ b.c → (b.have_ : Int) ≤ if b.map = true then 2 * b.c else b.c)
theorem WfQ.tail {x : Bx} {r : List Bx} (h : WfQ (x :: r)) : WfQ r := fun b hb => h b (List.mem_cons_of_mem _ hb)
theorem WfQ.inc {s : List Bx} (h : WfQ s) (hf : fulT s = false) : WfQ (incB s) := by
  cases s with
  | nil => exact h
  | cons x r =>
    intro b hb
    simp only [incB, List.mem_cons] at hb
    rcases hb with rfl | hb
    · obtain ⟨h1, h2, _⟩ := h x (by simp)
      simp only [fulT, decide_eq_false_iff_not] at hf
      refine ⟨h1, h2, fun h0 => ?_⟩
      have h0 : 0 ≤ x.c := h0
      have : ¬ (if x.map = true then 2 * x.c else x.c) ≤ (x.have_ : Int) := fun hh => hf ⟨h0, hh⟩
      show ((x.have_ + 1 : Nat) : Int) ≤ if x.map = true then 2 * x.c else x.c
      omega
    · exact h b (List.mem_cons_of_mem _ hb)
theorem WfQ.open_ {s : List Bx} (h : WfQ s) (hf : fulT s = false) (m : Bool) (c : Int) (hc : -1 ≤ c ∧ c ≤ 9223372036854775807) : WfQ (⟨m, c, 0⟩ :: incB s) := by
  intro b hb
  simp only [List.mem_cons] at hb
  rcases hb with rfl | hb
  · refine ⟨hc.1, hc.2, fun h0 => ?_⟩
    have h0 : 0 ≤ c := h0
    show ((0 : Nat) : Int) ≤ if m = true then 2 * c else c
    split <;> omega
  · exact h.inc hf b hb
/-- How deep it is, and how many parts the fullest one has. -/
def dpQ (s : List Bx) : Nat := max s.length (s.foldr (fun b m => max b.have_ m) 0)
theorem dp_len (s : List Bx) : s.length ≤ dpQ s := Nat.le_max_left _ _
theorem dp_fold : ∀ (s : List Bx) (b : Bx), b ∈ s → b.have_ ≤ s.foldr (fun b m => max b.have_ m) 0
  | x :: r, b, h => by
    rw [List.foldr_cons]
    rcases List.mem_cons.1 h with rfl | h
    · exact Nat.le_max_left _ _
    · exact Nat.le_trans (dp_fold r b h) (Nat.le_max_right _ _)
theorem dp_have {s : List Bx} {b : Bx} (h : b ∈ s) : b.have_ ≤ dpQ s := Nat.le_trans (dp_fold s b h) (Nat.le_max_right _ _)
theorem dp_tail (x : Bx) (r : List Bx) : dpQ r ≤ dpQ (x :: r) := by
  unfold dpQ
  simp only [List.length_cons, List.foldr_cons]
  omega
theorem dp_inc (s : List Bx) : dpQ (incB s) ≤ dpQ s + 1 := by
  cases s with
  | nil => exact Nat.le_succ _
  | cons x r =>
    unfold dpQ
    simp only [incB, List.length_cons, List.foldr_cons]
    omega
theorem dp_open (s : List Bx) (m : Bool) (c : Int) : dpQ (⟨m, c, 0⟩ :: incB s) ≤ dpQ s + 1 := by
  cases s with
  | nil => simp [dpQ, incB]
  | cons x r =>
    unfold dpQ
    simp only [incB, List.length_cons, List.foldr_cons]
    omega
theorem qstep_dp (q : Kq) (e : Ev) : dpQ (stepQ q e).2.s ≤ dpQ q.s + 1 := by
  unfold stepQ
  split
  · exact Nat.le_succ _
  · split
    · split
      · exact Nat.le_succ _
      · rename_i b r hs
        split
        · exact Nat.le_succ _
        · rw [hs]
          exact Nat.le_trans (dp_tail b r) (Nat.le_succ _)
    · split
      · exact Nat.le_succ _
      · split
        · exact Nat.le_succ _
        · split
          · exact dp_open _ _ _
          · exact dp_inc _
theorem info_kc : (Try.prog.info? 99).map (fun i => (i.zero, i.size, i.bytes)) = some (some (.agg #[.bool false, .int .i64 0, .int .i64 0]), 3, 24) := by kernel_rfl
def hasK (m : Bool) (c : Int) (h : Nat) : Bool := decide (((if m = true then h / 2 else h : Nat) : Int) = c)
theorem has_ful {b : Bx} (h1 : -1 ≤ b.c) (h2 : 0 ≤ b.c → (b.have_ : Int) ≤ if b.map = true then 2 * b.c else b.c) : hasK b.map b.c b.have_ = decide (0 ≤ b.c ∧ (if b.map = true then 2 * b.c else b.c) ≤ (b.have_ : Int)) := by
  obtain ⟨m, c, h⟩ := b
  simp only at h1 h2
  unfold hasK
  simp only
  rw [Bool.eq_iff_iff, decide_eq_true_eq, decide_eq_true_eq]
  cases m <;> simp at h2 ⊢ <;> omega
theorem end_shut_k {b : Bx} (h1 : -1 ≤ b.c) (h2 : 0 ≤ b.c → (b.have_ : Int) ≤ if b.map = true then 2 * b.c else b.c) : (if b.c = -1 then !(b.map && decide (b.have_ % 2 = 1)) else hasK b.map b.c b.have_) = decide (¬ shutB b) := by
  obtain ⟨m, c, h⟩ := b
  simp only at h1 h2
  unfold hasK shutB
  simp only
  rw [Bool.eq_iff_iff, decide_eq_true_eq]
  by_cases hc : c = -1
  · subst hc
    rw [if_pos rfl]
    cases m <;> simp
  · rw [if_neg hc, decide_eq_true_eq]
    cases m <;> simp at h2 ⊢ <;> omega
set_option maxHeartbeats 1000000 in
theorem klacks_any (m : Bool) (c : Int) (h : Nat) (w : World) :
    Calls Try.prog 53 #[.agg #[.bool m, .int .i64 c, .int .i64 (h : Int)]] w fun r w' => r = .returned (.bool (m && decide (h % 2 = 1))) ∧ Below w.heap.size w w' := by
  have hz : ((h : Int) % 2 != 0) = decide (h % 2 = 1) := by
    rw [Bool.eq_iff_iff, bne_iff_ne, decide_eq_true_eq]
    omega
  go_enter Try.func53, Try.ntmps53
  cases m with
  | false =>
    go_wp2
    go_ret
    exact ⟨rfl, up_alloc (Below.refl _ _) _⟩
  | true =>
    go_wp2
    go_ret
    exact ⟨rfl, up_alloc (Below.refl _ _) _⟩
set_option maxHeartbeats 1000000 in
theorem khas_any (m : Bool) (c : Int) (h : Nat) (hh : h ≤ 1000000) (w : World) :
    Calls Try.prog 52 #[.agg #[.bool m, .int .i64 c, .int .i64 (h : Int)]] w fun r w' => r = .returned (.bool (hasK m c h)) ∧ Below w.heap.size w w' := by
  unfold hasK
  cases m with
  | false =>
    have hz : ((h : Int) == c) = decide ((h : Int) = c) := by
      rw [Bool.eq_iff_iff, beq_iff_eq, decide_eq_true_eq]
    simp only [Bool.false_eq_true, if_false]
    rw [← hz]
    clear hz
    go_enter Try.func52, Try.ntmps52
    go_wp2
    go_ret
    exact ⟨rfl, up_alloc (Below.refl _ _) _⟩
  | true =>
    simp only [if_true]
    have hz : ((h : Int) / 2 == c) = decide (((h / 2 : Nat) : Int) = c) := by
      rw [Bool.eq_iff_iff, beq_iff_eq, decide_eq_true_eq, Int.natCast_ediv]
      rfl
    have hw : IntKind.i64.wrap ((h : Int) / 2) = (h : Int) / 2 := by simp only [IntKind.wrap_i64]; omega
    rw [← hz]
    clear hz
    go_enter Try.func52, Try.ntmps52
    go_wp2
    go_ret
    exact ⟨rfl, up_alloc (Below.refl _ _) _⟩
end Go.Proofs.Ytockeedbceopiaa
/-
  CONTRACTS of package cborout, part B: of the innermost container: isFull, atKey, mayEnd; count.
-/
namespace Go.Proofs.Ytockeedbceopiaa
open Go.RowKit
open Go.Lib
set_option maxHeartbeats 1000000 in
theorem kend_any (m : Bool) (c : Int) (h : Nat) (hh : h ≤ 1000000) (w : World) :
    Calls Try.prog 63 #[.agg #[.bool m, .int .i64 c, .int .i64 (h : Int)]] w fun r w' => r = .returned (.bool (if c = -1 then !(m && decide (h % 2 = 1)) else hasK m c h)) ∧ Below w.heap.size w w' := by
  have HL := Lib.hid (fun (W : World) => klacks_any m c h W)
  have HH := Lib.hid (fun (W : World) => khas_any m c h hh W)
  by_cases hc : c = -1
  · subst hc
    rw [if_pos rfl]
    generalize (m && decide (h % 2 = 1)) = K at *
    go_enter Try.func63, Try.ntmps63
    go_wp2_with fail
    refine (HL.out _).mono ?_
    rintro r w1 ⟨rfl, b1⟩
    have B1 := Lib.hid (up_trans (up_alloc (Below.refl _ _) _) b1)
    clear b1
    go_wp2
    go_ret
    exact ⟨rfl, B1.out⟩
  · rw [if_neg hc]
    have hz : (c == -1) = false := by rw [beq_eq_false_iff_ne]; exact hc
    generalize hasK m c h = K at *
    clear hc
    go_enter Try.func63, Try.ntmps63
    go_wp2_with fail
    refine (HH.out _).mono ?_
    rintro r w1 ⟨rfl, b1⟩
    have B1 := Lib.hid (up_trans (up_alloc (Below.refl _ _) _) b1)
    clear b1
    go_wp2
    go_ret
    exact ⟨rfl, B1.out⟩
/-- The innermost one, as the walks meet it. -/
theorem kst_last {w : World} {v : Value} {b : Bx} {r : List Bx} (h : Win w 99 3 v (r.length + 1) (kcL r ++ kcB b)) :
    ∃ g off cap, v = .slice (some ⟨g, off, none⟩) (r.length + 1) cap ∧
      (w.cell? ⟨g, off + r.length * 3, none⟩ = some (.bool b.map) ∧ w.cell? ⟨g, off + r.length * 3 + 1, none⟩ = some (.int .i64 b.c) ∧ w.cell? ⟨g, off + r.length * 3 + 2, none⟩ = some (.int .i64 (b.have_ : Int))) ∧
      (w.frozen? ⟨g, off + r.length * 3, none⟩ = false ∧ w.frozen? ⟨g, off + r.length * 3 + 1, none⟩ = false ∧ w.frozen? ⟨g, off + r.length * 3 + 2, none⟩ = false) := by
  obtain ⟨g, off, cap, rfl, h1, h2, _, _, h3⟩ := h.form (by simp)
  have hl := kcL_length r
  have hx : ∀ j u, (kcB b)[j]? = some u → w.cell? ⟨g, off + (r.length * 3 + j), none⟩ = some u ∧ w.frozen? ⟨g, off + (r.length * 3 + j), none⟩ = false := fun j u hu => by
    refine h3 _ u ?_
    rw [← hl, List.getElem?_append_right (by omega), Nat.add_sub_cancel_left]
    exact hu
  have x0 := hx 0 _ rfl
  have x1 := hx 1 _ rfl
  have x2 := hx 2 _ rfl
  simp only [← Nat.add_assoc, Nat.add_zero] at x0 x1 x2
  exact ⟨g, off, cap, rfl, ⟨x0.1, x1.1, x2.1⟩, ⟨x0.2, x1.2, x2.2⟩⟩
theorem key_eq_k (x : Bx) (r : List Bx) : keyB (x :: r) = (x.map && !decide (x.have_ % 2 = 1)) := by
  simp only [keyB]
  rw [Bool.eq_iff_iff]
  simp
set_option maxRecDepth 100000 in
set_option maxHeartbeats 1000000 in
theorem kkey_any {w : World} {v : Value} {s : List Bx} (h : Win w 99 3 v s.length (kcL s)) (hd : s.length ≤ 1000) :
    Calls Try.prog 39 #[v] w fun r w' => r = .returned (.bool (keyB s)) ∧ Below w.heap.size w w' := by
  cases s with
  | nil =>
    obtain ⟨a, cp, rfl, _, _⟩ := h.slice_form
    clear h
    go_enter Try.func39, Try.ntmps39
    go_wp2
    go_ret
    exact ⟨rfl, Below.refl _ _⟩
  | cons x r =>
    obtain ⟨g, off, cap, rfl, ⟨c0, c1, c2⟩, ⟨f0, f1, f2⟩⟩ := kst_last h
    rw [key_eq_k]
    obtain ⟨m, c, k⟩ := x
    simp only [List.length_cons] at *
    have HL := Lib.hid (fun (W : World) => klacks_any m c k W)
    clear h
    generalize r.length = n at *
    have hwn : wrap64 (n : Int) = (n : Int) := by unfold wrap64; omega
    have hwn2 : IntKind.i64.wrap (n : Int) = (n : Int) := by simp only [IntKind.wrap_i64]; omega
    have hz : ((n : Int) ≥ 0) = True := by simp
    generalize decide (k % 2 = 1) = K at *
    cases m with
    | false =>
      go_enter Try.func39, Try.ntmps39
      go_wp2
      go_ret
      exact ⟨rfl, Below.refl _ _⟩
    | true =>
      go_enter Try.func39, Try.ntmps39
      go_wp2_with fail
      refine (HL.out _).mono ?_
      rintro r w1 ⟨rfl, b1⟩
      have B1 := Lib.hid b1
      clear b1
      go_wp2
      go_ret
      exact ⟨by simp, B1.out⟩
set_option maxRecDepth 100000 in
set_option maxHeartbeats 1000000 in
theorem kfull_any {w : World} {v : Value} {s : List Bx} (h : Win w 99 3 v s.length (kcL s)) (hd : dpQ s ≤ 1000) (hw : WfQ s) :
    Calls Try.prog 38 #[v] w fun r w' => r = .returned (.bool (fulT s)) ∧ Below w.heap.size w w' := by
  have hl := dp_len s
  cases s with
  | nil =>
    obtain ⟨a, cp, rfl, _, _⟩ := h.slice_form
    clear h
    go_enter Try.func38, Try.ntmps38
    go_wp2
    go_ret
    exact ⟨rfl, Below.refl _ _⟩
  | cons x r =>
    obtain ⟨g, off, cap, rfl, ⟨c0, c1, c2⟩, ⟨f0, f1, f2⟩⟩ := kst_last h
    have hwx := hw x (by simp)
    have hdx := dp_have (s := x :: r) (b := x) (by simp)
    have he : fulT (x :: r) = hasK x.map x.c x.have_ := (has_ful hwx.1 hwx.2.2).symm
    rw [he]
    have HL := Lib.hid (fun (W : World) => khas_any x.map x.c x.have_ (by omega) W)
    obtain ⟨m, c, k⟩ := x
    simp only [List.length_cons] at *
    generalize hasK m c k = K at *
    have HD := Lib.hid hd
    clear h hw hwx hdx he hd
    generalize r.length = n at *
    have hln : n + 1 ≤ 1000 := Nat.le_trans hl HD.out
    clear hl
    have hwn : wrap64 (n : Int) = (n : Int) := by unfold wrap64; omega
    have hwn2 : IntKind.i64.wrap (n : Int) = (n : Int) := by simp only [IntKind.wrap_i64]; omega
    have hz : ((n : Int) ≥ 0) = True := by simp
    go_enter Try.func38, Try.ntmps38
    go_wp2_with fail
    refine (HL.out _).mono ?_
    rintro r w1 ⟨rfl, b1⟩
    have B1 := Lib.hid b1
    clear b1
    go_wp2
    go_ret
    exact ⟨by simp, B1.out⟩
/-- May the innermost one end? -/
def mayQ : List Bx → Bool
  | [] => false
  | b :: _ => decide (¬ shutB b)
set_option maxRecDepth 100000 in
set_option maxHeartbeats 1000000 in
theorem kmay_any {w : World} {v : Value} {s : List Bx} (h : Win w 99 3 v s.length (kcL s)) (hd : dpQ s ≤ 1000) (hw : WfQ s) :
    Calls Try.prog 51 #[v] w fun r w' => r = .returned (.bool (mayQ s)) ∧ Below w.heap.size w w' := by
  have hl := dp_len s
  cases s with
  | nil =>
    obtain ⟨a, cp, rfl, _, _⟩ := h.slice_form
    clear h
    go_enter Try.func51, Try.ntmps51
    go_wp2
    go_ret
    exact ⟨rfl, Below.refl _ _⟩
  | cons x r =>
    obtain ⟨g, off, cap, rfl, ⟨c0, c1, c2⟩, ⟨f0, f1, f2⟩⟩ := kst_last h
    have hwx := hw x (by simp)
    have hdx := dp_have (s := x :: r) (b := x) (by simp)
    have he : mayQ (x :: r) = (if x.c = -1 then !(x.map && decide (x.have_ % 2 = 1)) else hasK x.map x.c x.have_) := (end_shut_k hwx.1 hwx.2.2).symm
    rw [he]
    have HL := Lib.hid (fun (W : World) => kend_any x.map x.c x.have_ (by omega) W)
    generalize (if x.c = -1 then !(x.map && decide (x.have_ % 2 = 1)) else hasK x.map x.c x.have_) = K at *
    obtain ⟨m, c, k⟩ := x
    simp only [List.length_cons] at *
    have HD := Lib.hid hd
    clear h hw hwx hdx he hd
    generalize r.length = n at *
    have hln : n + 1 ≤ 1000 := Nat.le_trans hl HD.out
    clear hl
    have hwn : wrap64 (n : Int) = (n : Int) := by unfold wrap64; omega
    have hwn2 : IntKind.i64.wrap (n : Int) = (n : Int) := by simp only [IntKind.wrap_i64]; omega
    have hz : ((n : Int) ≥ 0) = True := by simp
    go_enter Try.func51, Try.ntmps51
    go_wp2_with fail
    refine (HL.out _).mono ?_
    rintro r w1 ⟨rfl, b1⟩
    have B1 := Lib.hid b1
    clear b1
    go_wp2
    go_ret
    exact ⟨by simp, B1.out⟩
theorem kst_store {w : World} {m : Bool} {c : Int} {k k' : Nat} {r : List Bx} {g off cap n : Nat} (_ : n = r.length + 1) (h : Win w 99 3 (.slice (some ⟨g, off, none⟩) n cap) n (kcL r ++ kcB ⟨m, c, k⟩)) :
    Win (w.setCell ⟨g, off + r.length * 3 + 2, none⟩ (.int .i64 (k' : Int))) 99 3 (.slice (some ⟨g, off, none⟩) n cap) n (kcL r ++ kcB ⟨m, c, k'⟩) := by
  have hw := h.store (r.length * 3 + 2) (by rw [List.length_append, kcL_length]; simp [kcB]) (.int .i64 (k' : Int))
  have hx : (kcL r ++ kcB ⟨m, c, k⟩).set (r.length * 3 + 2) (.int .i64 (k' : Int)) = kcL r ++ kcB ⟨m, c, k'⟩ := by
    rw [← kcL_length, List.set_append, if_neg (by omega), Nat.add_sub_cancel_left]
    rfl
  rw [hx, ← Nat.add_assoc] at hw
  exact hw
set_option maxRecDepth 100000 in
set_option maxHeartbeats 1000000 in
/-- COUNT: the innermost one has a part more. -/
theorem kcount_any {w : World} {v : Value} {s : List Bx} (h : Win w 99 3 v s.length (kcL s)) (hd : dpQ s ≤ 1000) :
    Calls Try.prog 41 #[v] w fun r w' => r = .returned (.tuple #[]) ∧ Win w' 99 3 v s.length (kcL (incB s)) ∧ Step (Value.owner v) (Value.owner v) w w' := by
  have hl := dp_len s
  cases s with
  | nil =>
    have HH := Lib.hid h
    obtain ⟨a, cp, rfl, _, _⟩ := h.slice_form
    clear h
    go_enter Try.func41, Try.ntmps41
    go_wp2
    go_end0
    exact ⟨rfl, HH.out, Step.refl _ _⟩
  | cons x r =>
    obtain ⟨g, off, cap, rfl, ⟨c0, c1, c2⟩, ⟨f0, f1, f2⟩⟩ := kst_last h
    have hdx := dp_have (s := x :: r) (b := x) (by simp)
    obtain ⟨m, c, k⟩ := x
    simp only [List.length_cons, incB] at *
    have HS := Lib.hid (kst_store (k' := k + 1) rfl h)
    have hk : k ≤ 1000 := Nat.le_trans hdx hd
    have hln : r.length + 1 ≤ 1000 := Nat.le_trans hl hd
    clear h hdx hd hl
    simp only [kcL]
    generalize kcL r ++ kcB ⟨m, c, k + 1⟩ = XS at *
    generalize r.length = n at *
    have hw : IntKind.i64.wrap ((k : Int) + 1) = (k : Int) + 1 := by simp only [IntKind.wrap_i64]; omega
    have hwn : wrap64 (n : Int) = (n : Int) := by unfold wrap64; omega
    have hwn2 : IntKind.i64.wrap (n : Int) = (n : Int) := by simp only [IntKind.wrap_i64]; omega
    have hz : ((n : Int) ≥ 0) = True := by simp
    go_enter Try.func41, Try.ntmps41
    go_wp2
    go_end0
    exact ⟨rfl, HS.out, step_setCell _ _ _ _ (by simp [Value.owner])⟩
end Go.Proofs.Ytockeedbceopiaa
/-
  CONTRACTS of cborout.Writer, part C: where it stands in memory; leave, enter, Done, end.
-/
namespace Go.Proofs.Ytockeedbceopiaa
open Go.RowKit
open Go.Lib
/-- A Writer at offset o of block b; its own row is one of the blocks F. -/
structure QAt (w : World) (b o : Nat) (F : List Nat) (q : Kq) : Prop where
  cells : ∃ a cp, At w b o [.slice a q.s.length cp, .bool q.dn] ∧ Win w 99 3 (.slice a q.s.length cp) q.s.length (kcL q.s) ∧ Value.owner (.slice a q.s.length cp) = F
  blk : ∃ cs t fr, w.heap[b]? = some (.cells cs t fr) ∧ t ≠ 99
  fin : q.dn = true → q.s = []
  wf : WfQ q.s
theorem QAt.lt {w : World} {b o : Nat} {F : List Nat} {q : Kq} (h : QAt w b o F q) : b < w.heap.size := by
  obtain ⟨cs, t, fr, hc, _⟩ := h.blk
  exact (Array.getElem?_eq_some_iff.1 hc).1
theorem QAt.row {w : World} {b o : Nat} {F : List Nat} {q : Kq} (h : QAt w b o F q) : ∀ k ∈ F, k < w.heap.size ∧ k ≠ b ∧ ∃ cur, w.heap[k]? = some (.cells cur 99 (0, 0)) := by
  obtain ⟨a, cp, _, hW, hF⟩ := h.cells
  obtain ⟨cs, t, fr, hc, ht⟩ := h.blk
  subst hF
  exact fun k hk => ⟨hW.lt k hk, fun e => hW.apart hc (fun e' => ht e'.symm) (e ▸ hk), hW.typed k hk⟩
theorem QAt.keep {w w' : World} {b o : Nat} {F : List Nat} {q : Kq} (h : QAt w b o F q) (hk : ∀ k, k = b ∨ k ∈ F → w'.heap[k]? = w.heap[k]?) : QAt w' b o F q := by
  obtain ⟨a, cp, hA, hW, hF⟩ := h.cells
  obtain ⟨cs, t, fr, hc, ht⟩ := h.blk
  exact ⟨⟨a, cp, hA.keep (hk b (.inl rfl)), hW.keep (fun k ho => hk k (.inr (hF ▸ ho))), hF⟩, ⟨cs, t, fr, (hk b (.inl rfl)).trans hc, ht⟩, h.fin, h.wf⟩
theorem QAt.go {w w' : World} {b o : Nat} {F : List Nat} {q : Kq} (h : QAt w b o F q) (k : Below w.heap.size w w') : QAt w' b o F q :=
  h.keep fun i hi => k.block i (hi.elim (fun e => e ▸ h.lt) (fun hi => (h.row i hi).1))
theorem QAt.drewN {w : World} {b o : Nat} {F : List Nat} {q : Kq} (h : QAt w b o F q) (n : Nat) : QAt (w.drewN n) b o F q := h.keep fun _ _ => rfl
theorem QAt.alloc {w : World} {b o : Nat} {F : List Nat} {q : Kq} (h : QAt w b o F q) (x : Obj) : QAt (w.alloc x) b o F q := h.go (up_alloc (Below.refl _ _) x)
set_option maxRecDepth 100000 in
set_option maxHeartbeats 2000000 in
theorem doneQ {w : World} {b o : Nat} {F : List Nat} {q : Kq} (h : QAt w b o F q) :
    Calls Try.prog 15 #[.pointer (some ⟨b, o, none⟩)] w fun r w' => r = .returned (.bool q.dn) ∧ w = w' := by
  obtain ⟨a, cp, hA, hW, hF⟩ := h.cells
  obtain ⟨⟨c0, _⟩, ⟨c1, _⟩⟩ := oat_two hA
  obtain ⟨s, dn⟩ := q
  simp only at *
  clear h hA hW hF
  go_enter Try.func15, Try.ntmps15
  go_wp2
  all_goals go_ret
  all_goals exact ⟨by simp, rfl⟩
theorem qdone_nil (w : World) : Calls Try.prog 15 #[.pointer none] w fun r w' => r = .returned (.bool false) ∧ w = w' := by
  go_enter Try.func15, Try.ntmps15
  go_wp2
  all_goals go_ret
  all_goals exact ⟨rfl, rfl⟩
theorem qstep_nil (v : Value) (w : World) : Calls Try.prog 12 #[.pointer none, v] w fun r w' => r = .returned (.tuple #[.string ⟨#[]⟩, .int .i64 14]) ∧ w = w' := by
  go_enter Try.func12, Try.ntmps12
  go_wp2
  all_goals go_ret2
  all_goals exact ⟨rfl, rfl⟩
/-- Behind the store of a shorter row. -/
theorem qleave_at {w : World} {b o : Nat} {F : List Nat} {x : Bx} {r : List Bx} {a' : Option Addr} {c' : Nat} (h : QAt w b o F ⟨x :: r, false⟩) (hW : Win w 99 3 (.slice a' r.length c') r.length (kcL r)) (hO : Value.owner (.slice a' r.length c') = F) :
    QAt (w.setCell ⟨b, o, none⟩ (.slice a' r.length c')) b o F ⟨r, false⟩ ∧ Jf b o F F w (w.setCell ⟨b, o, none⟩ (.slice a' r.length c')) := by
  obtain ⟨a, cp, hA, _, _⟩ := h.cells
  obtain ⟨cs, t, fr, hc, ht⟩ := h.blk
  have hap : b ∉ Value.owner (.slice a' r.length c') := hW.apart hc (fun e => ht e.symm)
  have hset := hA.set 0 (by simp) (.slice a' r.length c')
  refine ⟨⟨⟨a', c', by simpa using hset, hW.setCell_far hap _, hO⟩, ⟨_, t, fr, heap_setCell_at w ⟨b, o, none⟩ _ _ _ _ rfl hc, ht⟩, fun e => (by cases e), h.wf.tail⟩, (Jf.refl b o F w).set o _ (by omega)⟩
set_option maxRecDepth 100000 in
set_option maxHeartbeats 4000000 in
theorem leaveQ {w : World} {b o : Nat} {F : List Nat} {x : Bx} {r : List Bx} (h : QAt w b o F ⟨x :: r, false⟩) (hs : r.length ≤ 999) :
    Calls Try.prog 54 #[.pointer (some ⟨b, o, none⟩)] w fun q w' => q = .returned (.bool (x.c != -1)) ∧ QAt w' b o F ⟨r, false⟩ ∧ Jf b o F F w w' := by
  have hfin : ∃ a cp, (w.cell? ⟨b, o, none⟩ = some (.slice a (r.length + 1) cp) ∧ w.frozen? ⟨b, o, none⟩ = false) ∧ (∃ g off, a = some ⟨g, off, none⟩ ∧ w.cell? ⟨g, off + r.length * 3 + 1, none⟩ = some (.int .i64 x.c)) ∧
      ∃ a' c', (∀ W, (Instr.slice 26 (.slice a (r.length + 1) cp) none (some (.int .i64 (r.length : Int))) none).run Try.prog W = .ok (.slice a' r.length c') W) ∧
        QAt (w.setCell ⟨b, o, none⟩ (.slice a' r.length c')) b o F ⟨r, false⟩ ∧ Jf b o F F w (w.setCell ⟨b, o, none⟩ (.slice a' r.length c')) := by
    obtain ⟨a, cp, hA, hW, hF⟩ := h.cells
    obtain ⟨⟨c0, f0⟩, ⟨c1, f1⟩⟩ := oat_two hA
    obtain ⟨v', hsl, hw', ho'⟩ := hW.hi (P := Try.prog) (t := 26) Try.underlying26 (fun w => by kernel_rfl) r.length (by simp)
    simp only at hw' hsl
    simp only [kcL] at hw'
    rw [← kcL_length, List.take_left] at hw'
    obtain ⟨a', c', rfl, _, _⟩ := hw'.slice_form
    obtain ⟨g, off, cap, hv, ⟨_, x1, _⟩, _⟩ := kst_last (r := r) (b := x) hW
    cases hv
    refine ⟨_, cp, ⟨c0, f0⟩, ⟨g, off, rfl, x1⟩, a', c', hsl, ?_⟩
    exact qleave_at h hw' (ho'.trans hF)
  have hl : IntKind.i64.wrap (r.length : Int) = (r.length : Int) := by simp only [IntKind.wrap_i64]; omega
  have hl2 : wrap64 (r.length : Int) = (r.length : Int) := by unfold wrap64; omega
  obtain ⟨xm, xc, xh⟩ := x
  simp only at *
  have HFI := Lib.hid hfin
  generalize r.length = n' at *
  clear h hfin
  obtain ⟨a, cp, ⟨y1, y2⟩, ⟨g, off, rfl, y3⟩, a', c', hsl, hE⟩ := HFI.out
  have HE := Lib.hid hE
  clear hE HFI
  go_enter Try.func54, Try.ntmps54
  go_wp2
  go_ret
  exact ⟨rfl, HE.out⟩
/-- Behind append, and behind the store of what it yields. -/
theorem qenter_end {w W w3 : World} {b o n cp c3 : Nat} {a a3 : Option Addr} {F : List Nat} {s : List Bx} {m : Bool} {c : Int} {ob : Obj} (h : QAt w b o F ⟨s, false⟩) (hn : s.length = n) (hA : At w b o [.slice a n cp, .bool false]) (hF : Value.owner (.slice a n cp) = F) (k : Below w.heap.size w W) (hc : -1 ≤ c ∧ c ≤ 9223372036854775807)
    (hW : Win w3 99 3 (.slice a3 (n + 1) c3) (n + 1) (kcL s ++ [.bool m, .int .i64 c, .int .i64 0])) (hG : (W.alloc ob).drew.grownBy w3 (Value.slice a n cp).ownBlock) (hO : (Value.slice a3 (n + 1) c3).ownBlock = (Value.slice a n cp).ownBlock ∨ (Value.slice a3 (n + 1) c3).ownBlock = some (W.alloc ob).drew.heap.size ∧ (W.alloc ob).drew.heap.size < w3.heap.size) :
    (w3.cell? ⟨b, o, none⟩ = some (.slice a n cp) ∧ w3.frozen? ⟨b, o, none⟩ = false) ∧ ∃ F', QAt (w3.setCell ⟨b, o, none⟩ (.slice a3 (n + 1) c3)) b o F' ⟨⟨m, c, 0⟩ :: s, false⟩ ∧ Jf b o F F' w (w3.setCell ⟨b, o, none⟩ (.slice a3 (n + 1) c3)) := by
  have hb := h.lt
  obtain ⟨cs, t, fr, hcb, ht⟩ := h.blk
  have hbF : b ∉ F := fun hk => (h.row b hk).2.1 rfl
  have hnb : (Value.slice a n cp).ownBlock ≠ some b := fun e => hbF (hF ▸ (ob_iff _ _).1 e)
  have hsz : w.heap.size ≤ W.heap.size := k.size
  have hold : ∀ i, i < w.heap.size → i ∉ F → w3.heap[i]? = w.heap[i]? := by
    intro i hi hiF
    refine (hG.block i (by show i < (W.alloc ob).heap.size; simp; omega) (fun e => hiF (hF ▸ (ob_iff _ _).1 e.symm))).trans ?_
    exact (Below.heap_alloc W ob i (by omega)).trans (k.block i hi)
  have hblk := hold b hb hbF
  have A3 := hA.keep hblk
  have hw3 : w3.heap[b]? = some (.cells cs t fr) := hblk.trans hcb
  have hap3 : b ∉ Value.owner (.slice a3 (n + 1) c3) := hW.apart hw3 (fun e => ht e.symm)
  have hset := A3.set 0 (by simp) (.slice a3 (n + 1) c3)
  refine ⟨A3 0 _ rfl, Value.owner (.slice a3 (n + 1) c3), ⟨⟨a3, c3, ?_, ?_, ?_⟩, ⟨_, t, fr, heap_setCell_at w3 ⟨b, o, none⟩ _ _ _ _ rfl hw3, ht⟩, fun e => (by cases e), fun x hx => ?_⟩, ?_⟩
  · simp only [List.length_cons, hn]
    simpa using hset
  · simp only [List.length_cons, hn]
    exact hW.setCell_far hap3 _
  · simp only [List.length_cons, hn]
  · simp only [List.mem_cons] at hx
    rcases hx with rfl | hx
    · refine ⟨hc.1, hc.2, fun h0 => ?_⟩
      have h0 : 0 ≤ c := h0
      show ((0 : Nat) : Int) ≤ if m = true then 2 * c else c
      split <;> omega
    · exact h.wf x hx
  · have hstep : Step (b :: F) (b :: Value.owner (.slice a3 (n + 1) c3)) w w3 := by
      refine ⟨hG.os.trans k.os, hG.tape.trans ?_, hG.output.trans k.output, Nat.le_trans ?_ hG.size, fun i hi hiF => hold i hi (fun e => hiF (List.mem_cons_of_mem _ e)), fun i hi => ?_⟩
      · exact k.tape
      · show w.heap.size ≤ (W.alloc ob).heap.size
        simp; omega
      · rcases List.mem_cons.1 hi with rfl | hi
        · exact .inl (by simp)
        · rcases hO with e | ⟨e, _⟩
          · left
            refine List.mem_cons_of_mem _ ?_
            rw [← hF]
            exact (ob_iff _ _).1 (e ▸ (ob_iff _ _).2 hi)
          · right
            have h2 := (ob_iff _ _).2 hi
            rw [e] at h2
            cases h2
            show w.heap.size ≤ (W.alloc ob).heap.size
            simp; omega
    have hj : Jf b o F (Value.owner (.slice a3 (n + 1) c3)) w w3 := ⟨hstep, fun c1 t1 fr1 h1 => ⟨c1, hblk.trans h1, rfl⟩, fun i _ => World.cell?_of_block (w := w) hblk⟩
    exact hj.set o _ (by omega)
set_option maxRecDepth 100000 in
set_option maxHeartbeats 4000000 in
/-- ENTER. -/
theorem enterQ {w : World} {b o : Nat} {F : List Nat} {s : List Bx} (h : QAt w b o F ⟨s, false⟩) (hs : s.length ≤ 1000) (m : Bool) (c : Int) (hc : -1 ≤ c ∧ c ≤ 9223372036854775807) :
    Calls Try.prog 42 #[.pointer (some ⟨b, o, none⟩), .agg #[.bool m, .int .i64 c]] w fun e w' => e = .returned (.tuple #[]) ∧ ∃ F', QAt w' b o F' ⟨⟨m, c, 0⟩ :: s, false⟩ ∧ Jf b o F F' w w' := by
  have hb := h.lt
  obtain ⟨n, hn⟩ : ∃ n, s.length = n := ⟨_, rfl⟩
  have hbel : Below w.heap.size w (w.alloc (.cells #[.bool m, .int .i64 c] 58)) := up_alloc (Below.refl _ _) _
  have E2 : Hid (Blk (w.alloc (.cells #[.bool m, .int .i64 c] 58)) w.heap.size #[.bool m, .int .i64 c] 58) := Lib.hid (blk_new w #[.bool m, .int .i64 c] 58)
  obtain ⟨a, cp, hA, hWin, hF⟩ := h.cells
  simp only [hn] at hA hWin hF
  have hA2 := hA.keep (w' := (w.alloc (.cells #[.bool m, .int .i64 c] 58))) (hbel.block b hb)
  have WD : ∀ x, Hid (Win (((w.alloc (.cells #[.bool m, .int .i64 c] 58))).alloc x).drew 99 3 (.slice a n cp) n (kcL s)) := fun x => Lib.hid ((hWin.alloc _).alloc x)
  have h5 : (w.alloc (.cells #[.bool m, .int .i64 c] 58)).cell? ⟨b, o, none⟩ = some (.slice a n cp) := (hA2 0 _ rfl).1
  have f5 : ∀ x, ((w.alloc (.cells #[.bool m, .int .i64 c] 58)).alloc x).cell? ⟨b, o, none⟩ = some (.slice a n cp) := fun x => ((hA2.alloc (by simp) x) 0 _ rfl).1
  have h0 : (w.alloc (.cells #[.bool m, .int .i64 c] 58)).cell? ⟨w.heap.size, 0, none⟩ = some (.bool m) := E2.out.cell 0
  have h1 : (w.alloc (.cells #[.bool m, .int .i64 c] 58)).cell? ⟨w.heap.size, 1, none⟩ = some (.int .i64 c) := E2.out.cell 1
  have e0 : ∀ x, ((w.alloc (.cells #[.bool m, .int .i64 c] 58)).alloc x).cell? ⟨w.heap.size, 0, none⟩ = some (.bool m) := fun x => (E2.out.alloc x).cell 0
  have e1 : ∀ x, ((w.alloc (.cells #[.bool m, .int .i64 c] 58)).alloc x).cell? ⟨w.heap.size, 1, none⟩ = some (.int .i64 c) := fun x => (E2.out.alloc x).cell 1
  have HE := Lib.hid (fun (w3 : World) (a3 : Option Addr) (c3 : Nat) ob hW hG hO => qenter_end (w := w) (W := (w.alloc (.cells #[.bool m, .int .i64 c] 58))) (w3 := w3) (a3 := a3) (c3 := c3) (m := m) (c := c) (ob := ob) h hn hA hF hbel hc hW hG hO)
  clear h hbel hA hA2 hb E2 hWin hF
  go_enter Try.func42, Try.ntmps42
  go_wp2
  generalize (w.alloc (.cells #[.bool m, .int .i64 c] 58)) = W at *
  go_region_law (first
    | (refine step_append_win rfl _ _ _ rfl Try.underlying26 info_kc rfl rfl (WD _).out _ rfl 1 _ (src_new _ Try.underlying26 3 1 [.bool m, .int .i64 c, .int .i64 0] 99 _ rfl (by simp [Value.oneCell']) (heap_alloc_new _ _)) (by unfold maxLen; omega) (by omega) ?_; intro v3 w3 hW3 hG3 hO3; obtain ⟨a3, c3, rfl, _, _⟩ := Win.slice_form hW3.out; have HP := Lib.hid (HE.out w3 a3 c3 _ hW3.out hG3.out hO3.out); have g0 := HP.out.1.1; have g1 := HP.out.1.2; clear hW3 hG3 hO3))
  all_goals
    go_wp2
    go_end0
    exact ⟨rfl, HP.out.2⟩
end Go.Proofs.Ytockeedbceopiaa
/-
  A part as a value.
-/
namespace Go.Proofs.Ytockeedbceopiaa
open Go.RowKit
open Go.Lib
/-- A part, as a value. -/
def valE (e : Ev) : Value :=
  if e.k = 1 then .iface 4 (.bool e.y) else if e.k = 2 then .iface 54 (.agg #[.bool e.y, .int .u64 e.m]) else if e.k = 3 then .iface 59 (.string e.t)
  else if e.k = 4 then .iface 64 (.string e.t) else if e.k = 5 then .iface 58 (.agg #[.bool false, .int .i64 e.c]) else if e.k = 6 then .iface 58 (.agg #[.bool true, .int .i64 e.c])
  else if e.k = 7 then .iface 61 (.agg #[]) else .nilIface
end Go.Proofs.Ytockeedbceopiaa
/-
  CONTRACT of event.Of; type assertions.
-/
namespace Go.Proofs.Ytockeedbceopiaa
open Go.RowKit
open Go.Lib
theorem assert_yes (T u : TypeId) (h : (Try.prog.underlying T).map (fun x => match x with | .interface _ => false | _ => true) = some true) (v : Value) (W : World) : (Instr.typeAssert (.iface T v) u T true).run Try.prog W = .ok (.tuple #[v, .bool true]) W := by
  cases hu : Try.prog.underlying T with
  | none => simp [hu] at h
  | some x => cases x <;> simp [hu] at h <;> simp [Instr.typeAssert, run_underlying hu]
theorem assert_no (T u d : TypeId) (z : Value) (h : (Try.prog.underlying T).map (fun x => match x with | .interface _ => false | _ => true) = some true) (hd : d ≠ T) (hz : (Try.prog.info? T).map (·.zero) = some (some z)) (v : Value) (W : World) :
    (Instr.typeAssert (.iface d v) u T true).run Try.prog W = .ok (.tuple #[z, .bool false]) W := by
  obtain ⟨j, hj, hz'⟩ := Option.map_eq_some_iff.1 hz
  cases hu : Try.prog.underlying T with
  | none => simp [hu] at h
  | some x => cases x <;> simp [hu] at h <;> simp [Instr.typeAssert, run_underlying hu, hd, zeroValue, typeInfo, hj, hz']
theorem not_bool (d : TypeId) (hd : d ≠ 4) (v : Value) (W : World) : (Instr.typeAssert (.iface d v) 20 4 true).run Try.prog W = .ok (.tuple #[.bool false, .bool false]) W := assert_no _ _ d _ (by kernel_rfl) hd (by kernel_rfl) v W
theorem not_whole (d : TypeId) (hd : d ≠ 54) (v : Value) (W : World) : (Instr.typeAssert (.iface d v) 20 54 true).run Try.prog W = .ok (.tuple #[.agg #[.bool false, .int .u64 0], .bool false]) W := assert_no _ _ d _ (by kernel_rfl) hd (by kernel_rfl) v W
theorem not_word (d : TypeId) (hd : d ≠ 59) (v : Value) (W : World) : (Instr.typeAssert (.iface d v) 20 59 true).run Try.prog W = .ok (.tuple #[.string ⟨#[]⟩, .bool false]) W := assert_no _ _ d _ (by kernel_rfl) hd (by kernel_rfl) v W
theorem not_blob (d : TypeId) (hd : d ≠ 64) (v : Value) (W : World) : (Instr.typeAssert (.iface d v) 20 64 true).run Try.prog W = .ok (.tuple #[.string ⟨#[]⟩, .bool false]) W := assert_no _ _ d _ (by kernel_rfl) hd (by kernel_rfl) v W
theorem not_begin (d : TypeId) (hd : d ≠ 58) (v : Value) (W : World) : (Instr.typeAssert (.iface d v) 20 58 true).run Try.prog W = .ok (.tuple #[.agg #[.bool false, .int .i64 0], .bool false]) W := assert_no _ _ d _ (by kernel_rfl) hd (by kernel_rfl) v W
theorem not_close (d : TypeId) (hd : d ≠ 61) (v : Value) (W : World) : (Instr.typeAssert (.iface d v) 20 61 true).run Try.prog W = .ok (.tuple #[.agg #[], .bool false]) W := assert_no _ _ d _ (by kernel_rfl) hd (by kernel_rfl) v W
theorem is_bool (v : Value) (W : World) : (Instr.typeAssert (.iface 4 v) 20 4 true).run Try.prog W = .ok (.tuple #[v, .bool true]) W := assert_yes _ _ (by kernel_rfl) v W
theorem is_whole (v : Value) (W : World) : (Instr.typeAssert (.iface 54 v) 20 54 true).run Try.prog W = .ok (.tuple #[v, .bool true]) W := assert_yes _ _ (by kernel_rfl) v W
theorem is_word (v : Value) (W : World) : (Instr.typeAssert (.iface 59 v) 20 59 true).run Try.prog W = .ok (.tuple #[v, .bool true]) W := assert_yes _ _ (by kernel_rfl) v W
theorem is_blob (v : Value) (W : World) : (Instr.typeAssert (.iface 64 v) 20 64 true).run Try.prog W = .ok (.tuple #[v, .bool true]) W := assert_yes _ _ (by kernel_rfl) v W
theorem is_begin (v : Value) (W : World) : (Instr.typeAssert (.iface 58 v) 20 58 true).run Try.prog W = .ok (.tuple #[v, .bool true]) W := assert_yes _ _ (by kernel_rfl) v W
theorem is_close (v : Value) (W : World) : (Instr.typeAssert (.iface 61 v) 20 61 true).run Try.prog W = .ok (.tuple #[v, .bool true]) W := assert_yes _ _ (by kernel_rfl) v W
theorem nil_not (d : TypeId) (v : Value) (W : World) : (binOp .eql 20 (.iface d v) .nilIface).run Try.prog W = .ok (.bool false) W := by kernel_rfl
theorem nil_is (W : World) : (binOp .eql 20 .nilIface .nilIface).run Try.prog W = .ok (.bool true) W := by kernel_rfl
theorem may_count (n : Int) (w : World) : Calls Try.prog 23 #[.int .i64 n] w fun e w' => e = .returned (.bool (decide (-1 ≤ n))) ∧ w' = w := by
  go_enter Try.func23, Try.ntmps23
  go_wp2
  go_ret
  exact ⟨rfl, rfl⟩
set_option maxHeartbeats 1000000 in
theorem of_any (e : Ev) (w : World) : Calls Try.prog 11 #[evV e] w fun r w' => r = .returned (.tuple #[if mayE e then valE e else .nilIface, .bool (decide (mayE e))]) ∧ Below w.heap.size w w' := by
  obtain ⟨k, y, m, t, c⟩ := e
  have hb := Lib.hid ((Below.refl w.heap.size w).alloc (Nat.le_refl _) (.cells #[.int .i64 k, .bool y, .int .u64 m, .string t, .int .i64 c] 35))
  have q : ∀ n : Int, k ≠ n → (k == n) = false := fun n h => by simpa using h
  rcases kinds k with (rfl | rfl | rfl | rfl | rfl | rfl | rfl | rfl) | h
  all_goals simp only [evV, valE, mayE]
  case inr =>
    have q0 := q 0 (by omega)
    have q1 := q 1 (by omega)
    have q2 := q 2 (by omega)
    have q3 := q 3 (by omega)
    have q4 := q 4 (by omega)
    have q5 := q 5 (by omega)
    have q6 := q 6 (by omega)
    have q7 := q 7 (by omega)
    have hn : ¬ (0 ≤ k ∧ k ≤ 7 ∧ (k = 5 ∨ k = 6 → -1 ≤ c)) := fun hh => h ⟨hh.1, hh.2.1⟩
    have HN := Lib.hid hn
    clear h q hn
    go_enter Try.func11, Try.ntmps11
    go_wp2
    go_ret2
    first
    | exact ⟨rfl, hb.out⟩
    | exact ⟨by rw [if_neg HN.out, decide_eq_false HN.out]; rfl, hb.out⟩
  all_goals clear q
  all_goals
    go_enter Try.func11, Try.ntmps11
    go_wp2
    all_goals go_ret2
    all_goals first
    | exact ⟨rfl, hb.out⟩
    | exact ⟨by simp, hb.out⟩
    | exact ⟨by simp; omega, hb.out⟩
end Go.Proofs.Ytockeedbceopiaa
/-
  Whole numbers that lie within their kind; x & 31; x | y of bits beside each other.
-/
namespace Go.Proofs.Ytockeedbceopiaa
open Go.RowKit
open Go.Lib
theorem wrapI_u64 (n : Int) (h0 : 0 ≤ n) (h1 : n < 18446744073709551616) : IntKind.u64.wrap n = n := by
  simp [IntKind.wrap, IntKind.bits, IntKind.signed]
  omega
theorem wrapI_u8 (n : Int) (h0 : 0 ≤ n) (h1 : n < 256) : IntKind.u8.wrap n = n := by
  simp [IntKind.wrap, IntKind.bits, IntKind.signed]
  omega
theorem wrapI_i64 (n : Int) (h0 : 0 ≤ n) (h1 : n < 9223372036854775808) : IntKind.i64.wrap n = n := by
  rw [IntKind.wrap_i64]
  omega
theorem and31 (x : Nat) (h : x < 256) : bits .and .u8 (x : Int) 31 = ((x % 32 : Nat) : Int) := by
  have h1 : (BitVec.ofInt 8 (x : Int)).toNat = x := by
    rw [BitVec.ofInt_natCast, BitVec.toNat_ofNat]; exact Nat.mod_eq_of_lt (by omega)
  have h2 : (BitVec.ofInt 8 (31 : Int)).toNat = 31 := by decide
  show IntKind.u8.wrap ((BitVec.ofInt 8 (x : Int) &&& BitVec.ofInt 8 (31 : Int)).toNat : Int) = _
  rw [BitVec.toNat_and, h1, h2, show 31 = 2 ^ 5 - 1 by decide, Nat.and_two_pow_sub_one_eq_mod, wrapI_u8 _ (by omega) (by omega)]
theorem or_u64 (a c k : Nat) (ha : a * 2 ^ k + c < 18446744073709551616) (hc : c < 2 ^ k) : bits .or .u64 ((a * 2 ^ k : Nat) : Int) (c : Int) = ((a * 2 ^ k + c : Nat) : Int) := by
  have h1 : (BitVec.ofInt 64 ((a * 2 ^ k : Nat) : Int)).toNat = a * 2 ^ k := by
    rw [BitVec.ofInt_natCast, BitVec.toNat_ofNat]; exact Nat.mod_eq_of_lt (by omega)
  have h2 : (BitVec.ofInt 64 (c : Int)).toNat = c := by
    rw [BitVec.ofInt_natCast, BitVec.toNat_ofNat]; exact Nat.mod_eq_of_lt (by omega)
  show IntKind.u64.wrap ((BitVec.ofInt 64 ((a * 2 ^ k : Nat) : Int) ||| BitVec.ofInt 64 (c : Int)).toNat : Int) = _
  rw [BitVec.toNat_or, h1, h2, show a * 2 ^ k = 2 ^ k * a by rw [Nat.mul_comm], ← Nat.two_pow_add_eq_or_of_lt hc, wrapI_u64 _ (by omega) (by rw [Nat.mul_comm]; omega)]
end Go.Proofs.Ytockeedbceopiaa
/-
  CONTRACT of truchmanref1.Big: the bytes of a number; a []byte made, written cell by cell, turned into a string.
-/
namespace Go.Proofs.Ytockeedbceopiaa
open Go.RowKit
open Go.Lib
/-- The row of a number's bytes when k of them are laid, from the last on. -/
def rowB (n k v : Nat) : List UInt8 := List.replicate (n - k) 0 ++ bigB k v
theorem rowB_zero (n v : Nat) : rowB n 0 v = List.replicate n 0 := by simp [rowB, bigB]
theorem rowB_all (n v : Nat) : rowB n n v = bigB n v := by simp [rowB]
theorem rowB_len (n k v : Nat) (h : k ≤ n) : (rowB n k v).length = n := by simp [rowB, bigB_length]; omega
theorem rowB_set (n k v : Nat) (h : k < n) : (rowB n k v).set (n - 1 - k) (UInt8.ofNat (v / 256 ^ k % 256)) = rowB n (k + 1) v := by
  have e : List.replicate (n - k) (0 : UInt8) = List.replicate (n - 1 - k) 0 ++ [0] := by
    rw [show n - k = (n - 1 - k) + 1 by omega, List.replicate_succ']
  unfold rowB
  rw [e, List.append_assoc, List.set_append_right _ _ (by simp)]
  simp [bigB, show n - (k + 1) = n - 1 - k by omega]
theorem bCells_set (l : List UInt8) (k : Nat) (b : UInt8) : (bCells l).set k (.int .u8 (b.toNat : Int)) = bCells (l.set k b) := by
  simp [bCells, List.map_set]
theorem at_new (w : World) (l : List UInt8) : At (w.alloc (.cells (Lib.byteCells l).toArray 5)) w.heap.size 0 (bCells l) := fun j u hj => by
  have hb : (w.alloc (.cells (Lib.byteCells l).toArray 5)).heap[w.heap.size]? = some (.cells (Lib.byteCells l).toArray 5 (0, 0)) := by
    show (w.heap.push _)[_]? = _
    rw [Array.getElem?_push, if_pos rfl]
  have hu : (Lib.byteCells l)[j]? = some u := hj
  refine ⟨?_, ?_⟩
  · simp only [World.cell?, hb, Nat.zero_add]
    simpa using hu
  · unfold World.frozen?
    rw [hb]
    simp
theorem conv_at {w : World} {g : Nat} {l : List UInt8} (n cap : Nat) (hl : l.length = n) (h : At w g 0 (bCells l)) :
    (convert 70 9 (.slice (some ⟨g, 0, none⟩) n cap)).run Try.prog w = .ok (.string ⟨l.toArray⟩) w := by
  have hby : Lib.Bytes w g 0 ⟨l.toArray⟩ := by
    intro i hi
    have hi' : i < l.length := by simpa [ByteArray.size] using hi
    have := (h i (.int .u8 l[i].toNat) (by simp [bCells, hi'])).1
    exact this
  have := run_convert_window (P := Try.prog) w 70 5 9 Try.underlying70 Try.underlying5 Try.underlying9 g 0 ⟨l.toArray⟩ hby 0 n cap (by simp [ByteArray.size]; omega)
  rw [Nat.zero_add] at this
  have e : ByteArray.extract ⟨l.toArray⟩ 0 (0 + n) = ⟨l.toArray⟩ := by
    apply ByteArray.ext
    apply Array.toList_inj.1
    rw [extract_data]
    show List.take _ l = l
    exact List.take_of_length_le (by omega)
  rw [this, e]
theorem and255 (x : Nat) (h : x < 18446744073709551616) : bits .and .u64 (x : Int) 255 = ((x % 256 : Nat) : Int) := by
  have h1 : (BitVec.ofInt 64 (x : Int)).toNat = x := by
    rw [BitVec.ofInt_natCast, BitVec.toNat_ofNat]; exact Nat.mod_eq_of_lt (by omega)
  have h2 : (BitVec.ofInt 64 (255 : Int)).toNat = 255 := by decide
  show IntKind.u64.wrap ((BitVec.ofInt 64 (x : Int) &&& BitVec.ofInt 64 (255 : Int)).toNat : Int) = _
  rw [BitVec.toNat_and, h1, h2, show 255 = 2 ^ 8 - 1 by decide, Nat.and_two_pow_sub_one_eq_mod, wrapI_u64 _ (by omega) (by omega)]
set_option maxHeartbeats 1000000 in
theorem rbig_any (v n : Nat) (hv : v < 18446744073709551616) (h1 : 1 ≤ n) (h8 : n ≤ 8) (w : World) :
    Calls Try.prog 35 #[.int .u64 v, .int .i64 n] w fun e w' => e = .returned (.string ⟨(bigB n v).toArray⟩) ∧ Below w.heap.size w w' := by
  have hmk := make_zero n (by omega) n rfl
  have g1 : ((n : Int) < 1) = False := by simp only [eq_iff_iff, iff_false]; omega
  have g2 : ((8 : Int) < n) = False := by simp only [eq_iff_iff, iff_false]; omega
  have HN : Hid (At (w.alloc (.cells (Lib.byteCells (List.replicate n 0)).toArray 5)) w.heap.size 0 (bCells (rowB n 0 v))) := Lib.hid (by rw [rowB_zero]; exact at_new w _)
  go_enter Try.func35, Try.ntmps35
  go_wp2
  go_loopw [0, 6] (fun x i wr => ∃ k : Nat, k ≤ n ∧ i = .int .i64 ((n : Int) - 1 - k) ∧ x = .int .u64 ((v / 256 ^ k : Nat) : Int) ∧ Hid (At wr w.heap.size 0 (bCells (rowB n k v)) ∧ Below w.heap.size w wr)) (fun _ i _ => (RowKit.intOf i + 1).toNat)
  case atStart => exact ⟨0, Nat.zero_le _, by simp, by simp, Lib.hid ⟨HN.out, (Below.refl _ _).alloc (Nat.le_refl _) _⟩⟩
  case round =>
    obtain ⟨k, hk, rfl, rfl, HP⟩ := hrel
    have hx : v / 256 ^ k < 18446744073709551616 := Nat.lt_of_le_of_lt (Nat.div_le_self _ _) hv
    by_cases hlt : k < n
    · have hc : ∃ u, wr.cell? ⟨w.heap.size, n - 1 - k, none⟩ = some u ∧ wr.frozen? ⟨w.heap.size, n - 1 - k, none⟩ = false := by
        have hl : n - 1 - k < (bCells (rowB n k v)).length := by rw [bCells_length, rowB_len _ _ _ hk]; omega
        have := HP.out.1 (n - 1 - k) _ (List.getElem?_eq_getElem hl)
        rw [Nat.zero_add] at this
        exact ⟨_, this⟩
      obtain ⟨u, hcell, hfroz⟩ := hc
      obtain ⟨j, hj⟩ : ∃ j, n - 1 - k = j := ⟨_, rfl⟩
      rw [hj] at hcell hfroz
      rw [show (n : Int) - 1 - k = (j : Int) by omega]
      obtain ⟨y, hy⟩ : ∃ y, v / 256 ^ k = y := ⟨_, rfl⟩
      rw [hy] at hx ⊢
      have hand := and255 y hx
      have hw8 : IntKind.u8.wrap ((y % 256 : Nat) : Int) = ((y % 256 : Nat) : Int) := wrapI_u8 _ (by omega) (by omega)
      have hdiv : Hid (((y : Int) / 256) = ((v / 256 ^ (k + 1) : Nat) : Int)) := Lib.hid (by
        rw [Nat.pow_succ, ← Nat.div_div_eq_div_mul, hy]
        omega)
      have HQ : Hid (At (wr.setCell ⟨w.heap.size, j, none⟩ (.int .u8 ((y % 256 : Nat) : Int))) w.heap.size 0 (bCells (rowB n (k + 1) v)) ∧ Below w.heap.size w (wr.setCell ⟨w.heap.size, j, none⟩ (.int .u8 ((y % 256 : Nat) : Int)))) := Lib.hid (by
        refine ⟨?_, HP.out.2.setCell (by simp) _⟩
        have := HP.out.1.set (n - 1 - k) (by rw [bCells_length, rowB_len _ _ _ hk]; omega) (.int .u8 ((y % 256 : Nat) : Int))
        rw [← byte_of y, ← hy, bCells_set, rowB_set n k v hlt, byte_of, hy, hj, Nat.zero_add] at this
        exact this)
      obtain ⟨z, hz⟩ : ∃ z, y % 256 = z := ⟨_, rfl⟩
      rw [hz] at hand hw8 HQ
      clear hy HP HN
      go_wp2
      go_roundw
      case rel => exact ⟨k + 1, by omega, by rw [← hj]; go_num, by rw [hdiv.out], HQ⟩
      case measure => simp [RowKit.intOf]
    · have hkn : k = n := by omega
      subst hkn
      rw [show (k : Int) - 1 - k = -1 by omega]
      have hcv : (convert 70 9 (.slice (some ⟨w.heap.size, 0, none⟩) k k)).run Try.prog wr = .ok (.string ⟨(bigB k v).toArray⟩) wr := by
        have := HP.out.1
        rw [rowB_all] at this
        exact conv_at k k (bigB_length k v) this
      go_wp2
      go_ret
      exact ⟨rfl, HP.out.2⟩
theorem rbig_out (v : Nat) (n : Int) (h : n < 1 ∨ 8 < n) (w : World) :
    Calls Try.prog 35 #[.int .u64 v, .int .i64 n] w fun e w' => e = .returned (.string ⟨#[]⟩) ∧ Below w.heap.size w w' := by
  by_cases h1 : n < 1
  · clear h
    go_enter Try.func35, Try.ntmps35
    go_wp2
    go_ret
    exact ⟨rfl, Below.refl _ _⟩
  · have h8 : 8 < n := by omega
    have g1 : (n < 1) = False := by simp only [eq_iff_iff, iff_false]; omega
    clear h h1
    go_enter Try.func35, Try.ntmps35
    go_wp2
    go_ret
    exact ⟨rfl, Below.refl _ _⟩
end Go.Proofs.Ytockeedbceopiaa
/-
  CONTRACT of head.Big: the bytes of a number.
-/
namespace Go.Proofs.Ytockeedbceopiaa
open Go.RowKit
open Go.Lib
set_option maxHeartbeats 1000000 in
theorem big_any (v n : Nat) (h1 : 1 ≤ n) (h8 : n ≤ 8) (w : World) :
    Calls Try.prog 64 #[.int .u64 v, .int .i64 n] w fun e w' => e = .returned (.string ⟨(bigB n v).toArray⟩) ∧ Below w.heap.size w w' := by
  have hmk := make_zero n (by omega) n rfl
  have g1 : ((n : Int) < 1) = False := by simp only [eq_iff_iff, iff_false]; omega
  have g2 : ((8 : Int) < n) = False := by simp only [eq_iff_iff, iff_false]; omega
  have HN : Hid (At (w.alloc (.cells (Lib.byteCells (List.replicate n 0)).toArray 5)) w.heap.size 0 (bCells (rowB n 0 v))) := Lib.hid (by rw [rowB_zero]; exact at_new w _)
  go_enter Try.func64, Try.ntmps64
  go_wp2
  go_loopw [17] (fun i wr => ∃ k : Nat, k ≤ n ∧ i = .int .i64 k ∧ Hid (At wr w.heap.size 0 (bCells (rowB n k v)) ∧ Below w.heap.size w wr)) (fun i _ => n - (RowKit.intOf i).toNat)
  case atStart => exact ⟨0, Nat.zero_le _, rfl, Lib.hid ⟨HN.out, (Below.refl _ _).alloc (Nat.le_refl _) _⟩⟩
  case round =>
    obtain ⟨k, hk, rfl, HP⟩ := hrel
    by_cases hlt : k < n
    · have hc : ∃ u, wr.cell? ⟨w.heap.size, n - 1 - k, none⟩ = some u ∧ wr.frozen? ⟨w.heap.size, n - 1 - k, none⟩ = false := by
        have hl : n - 1 - k < (bCells (rowB n k v)).length := by rw [bCells_length, rowB_len _ _ _ hk]; omega
        have := HP.out.1 (n - 1 - k) _ (List.getElem?_eq_getElem hl)
        rw [Nat.zero_add] at this
        exact ⟨_, this⟩
      obtain ⟨u, hcell, hfroz⟩ := hc
      have e1 : (n : Int) - 1 - k = ((n - 1 - k : Nat) : Int) := by omega
      have hv2 : ((v : Int) / 2 ^ (k * 8) % 256) = (((UInt8.ofNat (v / 256 ^ k % 256)).toNat : Nat) : Int) := by
        rw [byte_of, show (256 : Nat) ^ k = 2 ^ (k * 8) by rw [show (256 : Nat) = 2 ^ 8 from rfl, ← Nat.pow_mul, Nat.mul_comm]]
        simp
      have HQ : Hid (At (wr.setCell ⟨w.heap.size, n - 1 - k, none⟩ (.int .u8 ((v : Int) / 2 ^ (k * 8) % 256))) w.heap.size 0 (bCells (rowB n (k + 1) v)) ∧ Below w.heap.size w (wr.setCell ⟨w.heap.size, n - 1 - k, none⟩ (.int .u8 ((v : Int) / 2 ^ (k * 8) % 256)))) := Lib.hid (by
        refine ⟨?_, HP.out.2.setCell (by simp) _⟩
        have := HP.out.1.set (n - 1 - k) (by rw [bCells_length, rowB_len _ _ _ hk]; omega) (.int .u8 ((v : Int) / 2 ^ (k * 8) % 256))
        rw [hv2, bCells_set, rowB_set n k v hlt, ← hv2, Nat.zero_add] at this
        exact this)
      clear hv2
      go_wp2
      go_roundw
      case rel => exact ⟨k + 1, by omega, by go_num, HQ⟩
      case measure => simp [RowKit.intOf]; omega
    · have hkn : k = n := by omega
      subst hkn
      have hcv : (convert 70 9 (.slice (some ⟨w.heap.size, 0, none⟩) k k)).run Try.prog wr = .ok (.string ⟨(bigB k v).toArray⟩) wr := by
        have := HP.out.1
        rw [rowB_all] at this
        exact conv_at k k (bigB_length k v) this
      go_wp2
      go_ret
      exact ⟨rfl, HP.out.2⟩
theorem big_out (v : Nat) (n : Int) (h : n < 1 ∨ 8 < n) (w : World) :
    Calls Try.prog 64 #[.int .u64 v, .int .i64 n] w fun e w' => e = .returned (.string ⟨#[]⟩) ∧ Below w.heap.size w w' := by
  by_cases h1 : n < 1
  · clear h
    go_enter Try.func64, Try.ntmps64
    go_wp2
    go_ret
    exact ⟨rfl, Below.refl _ _⟩
  · have h8 : 8 < n := by omega
    have g1 : (n < 1) = False := by simp only [eq_iff_iff, iff_false]; omega
    clear h h1
    go_enter Try.func64, Try.ntmps64
    go_wp2
    go_ret
    exact ⟨rfl, Below.refl _ _⟩
end Go.Proofs.Ytockeedbceopiaa
/-
  NO PROGRAM NEEDED: the order of numbers as digits.
-/
namespace Go.Proofs.Ytockeedbceopiaa
open Go.Lib
theorem lessb_cons (a b : UInt8) (x y : List UInt8) : Op.bytesLess (a :: x) (b :: y) = true ↔ a.toNat < b.toNat ∨ (a = b ∧ Op.bytesLess x y = true) := by
  rw [Op.bytesLess]
  simp only [Bool.or_eq_true, Bool.and_eq_true, beq_iff_eq, decide_eq_true_eq]
  rfl
theorem lessb_last (p q : UInt8) : ∀ x y : List UInt8, x.length = y.length → (Op.bytesLess (x ++ [p]) (y ++ [q]) = true ↔ Op.bytesLess x y = true ∨ (x = y ∧ p.toNat < q.toNat))
  | [], [], _ => by
    simp [Op.bytesLess]
    exact Iff.rfl
  | [], _ :: _, h => by simp at h
  | _ :: _, [], h => by simp at h
  | a :: x, b :: y, h => by
    have ih := lessb_last p q x y (by simpa using h)
    rw [List.cons_append, List.cons_append, lessb_cons, lessb_cons, ih]
    simp only [List.cons.injEq]
    constructor
    · rintro (h | ⟨h1, h2 | ⟨h2, h3⟩⟩)
      · exact .inl (.inl h)
      · exact .inl (.inr ⟨h1, h2⟩)
      · exact .inr ⟨⟨h1, h2⟩, h3⟩
    · rintro ((h | ⟨h1, h2⟩) | ⟨⟨h1, h2⟩, h3⟩)
      · exact .inl h
      · exact .inr ⟨h1, .inl h2⟩
      · exact .inr ⟨h1, .inr ⟨h2, h3⟩⟩
theorem lessb_irrefl (x : List UInt8) : ¬ Op.bytesLess x x = true := by
  induction x with
  | nil => simp [Op.bytesLess]
  | cons a t ih =>
    rw [lessb_cons]
    rintro (h | ⟨_, h⟩)
    · omega
    · exact ih h
theorem nDigits_mono : ∀ b a : Nat, b ≤ a → nDigits b ≤ nDigits a := by
  intro b
  induction b using Nat.strongRecOn with
  | _ b ih =>
    intro a h
    by_cases hb : b < 10
    · rw [nDigits_small hb]; exact nDigits_pos a
    · rw [nDigits_big hb, nDigits_big (show ¬ a < 10 by omega)]
      have := ih (b / 10) (by omega) (a / 10) (by omega)
      omega
theorem less_dec : ∀ a b : Nat, nDigits a = nDigits b → (Op.bytesLess (decDigits a) (decDigits b) = true ↔ a < b) := by
  intro a
  induction a using Nat.strongRecOn with
  | _ a ih =>
    intro b h
    by_cases ha : a < 10
    · have hb : b < 10 := by
        by_cases hb : b < 10
        · exact hb
        · rw [nDigits_small ha, nDigits_big hb] at h
          have := nDigits_pos (b / 10)
          omega
      rw [decDigits_one ha, decDigits_one hb, lessb_cons, dig_toNat a ha, dig_toNat b hb]
      simp [Op.bytesLess]
    · have hb : ¬ b < 10 := by
        intro hb
        rw [nDigits_small hb, nDigits_big ha] at h
        have := nDigits_pos (a / 10)
        omega
      rw [nDigits_big ha, nDigits_big hb] at h
      have i1 := ih (a / 10) (by omega) (b / 10) (by omega)
      rw [dec_big (by omega), dec_big (u := b) (by omega), lessb_last _ _ _ _ (by rw [decDigits_length, decDigits_length]; omega), i1, dig_toNat _ (by omega), dig_toNat _ (by omega)]
      constructor
      · rintro (h | ⟨h1, h2⟩)
        · omega
        · have n1 : ¬ a / 10 < b / 10 := by rw [← i1, h1]; exact lessb_irrefl _
          by_cases hlt : b / 10 < a / 10
          · have i2 := ih (b / 10) (by omega) (a / 10) (by omega)
            have := i2.2 hlt
            rw [h1] at this
            exact absurd this (lessb_irrefl _)
          · omega
      · intro h
        by_cases hlt : a / 10 < b / 10
        · exact .inl hlt
        · have he : a / 10 = b / 10 := by omega
          exact .inr ⟨by rw [he], by omega⟩
/-- The order that the law asks. -/
theorem order_dec (a b : Nat) : (nDigits a < nDigits b ∨ nDigits a = nDigits b ∧ Op.bytesLess (decDigits a) (decDigits b) = true) ↔ a < b := by
  constructor
  · rintro (h | ⟨h1, h2⟩)
    · by_cases hl : a < b
      · exact hl
      · have := nDigits_mono b a (by omega)
        omega
    · exact (less_dec a b h1).1 h2
  · intro h
    have := nDigits_mono a b (by omega)
    by_cases he : nDigits a = nDigits b
    · exact .inr ⟨he, (less_dec a b he).2 h⟩
    · exact .inl (by omega)
theorem nDigits_le (u : Nat) (h : u < 100000000000000000000) : nDigits u ≤ 20 := by
  have : nDigits u ≤ nDigits 99999999999999999999 := nDigits_mono _ _ (by omega)
  rw [show nDigits 99999999999999999999 = 20 from nDigits_unique 19 _ (by decide) (by decide)] at this
  exact this
theorem print_len (w : Bool × Nat) (h : w.2 < 18446744073709551616) : (printD w).length ≤ 21 := by
  obtain ⟨m, v⟩ := w
  unfold printD
  have h : v < 18446744073709551616 := h
  cases m with
  | true =>
    simp only [if_true, List.length_cons, decDigits_length]
    have := nDigits_le (v + 1) (by omega)
    omega
  | false =>
    simp only [Bool.false_eq_true, if_false, decDigits_length]
    have := nDigits_le v (by omega)
    omega
/-- The bytes of a number are digits, or a minus. -/
theorem dec_bytes : ∀ u : Nat, ∀ b ∈ decDigits u, 48 ≤ b.toNat ∧ b.toNat ≤ 57 := by
  intro u
  induction u using Nat.strongRecOn with
  | _ u ih =>
    intro b hb
    by_cases h : u < 10
    · rw [decDigits_one h] at hb
      simp only [List.mem_singleton] at hb
      subst hb
      rw [dig_toNat u h]
      omega
    · rw [dec_big (by omega)] at hb
      rcases List.mem_append.1 hb with hb | hb
      · exact ih (u / 10) (by omega) b hb
      · simp only [List.mem_singleton] at hb
        subst hb
        rw [dig_toNat _ (by omega)]
        omega
end Go.Proofs.Ytockeedbceopiaa
/-
  CONTRACTS of the documents own Digits and Print.
-/
namespace Go.Proofs.Ytockeedbceopiaa
open Go.RowKit
open Go.Lib
/-- An empty text counts one. -/
def emptyV : Value → Nat
  | .string s => if s.size = 0 then 1 else 0
  | _ => 0
/-- Of a number's digits the last ones are there. -/
def DigMid (v v' : Nat) (s : List UInt8) : Prop := (s = [] ∧ v' = v) ∨ (s ≠ [] ∧ decDigits v = (if v' = 0 then [] else decDigits v') ++ s)
theorem dig_next {v v' : Nat} {s : List UInt8} (h : DigMid v v' s) (hg : 0 < v' ∨ s = []) : DigMid v (v' / 10) (UInt8.ofNat (48 + v' % 10) :: s) := by
  right
  refine ⟨by simp, ?_⟩
  have one : ∀ u : Nat, decDigits u = (if u / 10 = 0 then [] else decDigits (u / 10)) ++ [UInt8.ofNat (48 + u % 10)] := by
    intro u
    by_cases hu : u < 10
    · rw [decDigits_one (i := u) hu, if_pos (by omega), show u % 10 = u by omega]
      rfl
    · rw [if_neg (by omega), ← dec_big (by omega)]
  rcases h with ⟨rfl, rfl⟩ | ⟨hs, he⟩
  · exact one _
  · have hv : v' ≠ 0 := by
      rcases hg with h | h
      · omega
      · exact absurd h hs
    rw [he, if_neg hv, one v', List.append_assoc]
    rfl
theorem dig_len {v v' : Nat} {s : List UInt8} (hv : v < 18446744073709551617) (h : DigMid v v' s) : s.length ≤ 20 := by
  have hl : (decDigits v).length ≤ 20 := by
    rw [decDigits_length]
    exact nDigits_le v (by omega)
  rcases h with ⟨rfl, _⟩ | ⟨_, he⟩
  · simp
  · rw [he, List.length_append] at hl
    omega
set_option maxHeartbeats 1000000 in
theorem rdigits_any (v : Nat) (hv : v < 18446744073709551616) (w : World) :
    Calls Try.prog 60 #[.int .u64 v] w fun e w' => e = .returned (.string ⟨(decDigits v).toArray⟩) ∧ Below w.heap.size w w' := by
  obtain ⟨R, hR⟩ : ∃ R : ByteArray, (⟨(decDigits v).toArray⟩ : ByteArray) = R := ⟨_, rfl⟩
  rw [hR]
  have HR := Lib.hid hR
  clear hR
  go_enter Try.func60, Try.ntmps60
  go_wp2
  go_loopw [0, 3] (fun x s wr => ∃ (v' : Nat) (l : List UInt8) (S : ByteArray), x = .int .u64 v' ∧ s = .string S ∧ v' ≤ v ∧ Hid (S = ⟨l.toArray⟩ ∧ DigMid v v' l ∧ Below w.heap.size w wr)) (fun x s _ => 2 * (RowKit.intOf x).toNat + emptyV s)
  case atStart => exact ⟨v, [], ⟨#[]⟩, rfl, rfl, Nat.le_refl _, Lib.hid ⟨rfl, .inl ⟨rfl, rfl⟩, Below.refl _ _⟩⟩
  case round =>
    obtain ⟨v', l, S, rfl, rfl, hle, HM⟩ := hrel
    have hSl : S.size = l.length := by rw [HM.out.1]; exact size_of l
    have h20 : S.size ≤ 20 := by rw [hSl]; exact dig_len (by omega) HM.out.2.1
    by_cases hgo : 0 < v' ∨ l = []
    · have hc := conv_new wr [UInt8.ofNat (48 + v' % 10)] #[.int .u8 (48 + (v' : Int) % 10)] 1 rfl (by
        simp only [Lib.byteCells, List.map_cons, List.map_nil, toNat_ofNat (48 + v' % 10) (by omega)]
        congr 2) ⟨#[UInt8.ofNat (48 + v' % 10)]⟩ rfl
      obtain ⟨Y, hY⟩ : ∃ Y : ByteArray, Y = ⟨#[UInt8.ofNat (48 + v' % 10)]⟩ := ⟨_, rfl⟩
      rw [← hY] at hc
      have hYs : Y.size = 1 := by rw [hY]; rfl
      have hZ : Y ++ S = ⟨(UInt8.ofNat (48 + v' % 10) :: l).toArray⟩ := by rw [hY, HM.out.1]; exact cat_of [_] l
      obtain ⟨Z, hZZ⟩ : ∃ Z, Y ++ S = Z := ⟨_, rfl⟩
      have hZs : Z.size ≠ 0 := by rw [← hZZ, hZ, size_of]; simp
      have HN : Hid (Z = ⟨(UInt8.ofNat (48 + v' % 10) :: l).toArray⟩ ∧ DigMid v (v' / 10) (UInt8.ofNat (48 + v' % 10) :: l) ∧ Below w.heap.size w (wr.alloc (.cells #[.int .u8 (48 + (v' : Int) % 10)] 5))) :=
        Lib.hid ⟨by rw [← hZZ]; exact hZ, dig_next HM.out.2.1 hgo, HM.out.2.2.alloc HM.out.2.2.size _⟩
      have hem : emptyV (.string Z) = 0 := by simp only [emptyV]; rw [if_neg hZs]
      have HE := Lib.hid hem
      have hHS : emptyV (.string S) = if S.size = 0 then 1 else 0 := rfl
      have HHS := Lib.hid (And.intro hHS (And.intro hSl hgo))
      clear hem hHS hZ hY hZs hSl
      by_cases h0 : 0 < v'
      · have h0' : ((0 : Int) < (v' : Int)) = True := by simp only [eq_iff_iff, iff_true]; omega
        clear hgo
        go_wp2
        go_roundw
        case rel => exact ⟨v' / 10, _, Z, by go_num, rfl, by omega, HN⟩
        case measure => rw [HE.out]; simp [RowKit.intOf]; omega
      · obtain rfl : v' = 0 := by omega
        have hl0 : l = [] := by rcases hgo with h | h; omega; exact h
        have hS0 : S.size = 0 := by rw [HHS.out.2.1, hl0]; rfl
        have e1 : (S.toList = []) = True := by
          simp only [eq_iff_iff, iff_true]
          rw [ByteArray.toList_eq, ← List.length_eq_zero_iff, size_list]
          exact hS0
        have e2 : S.toList.isEmpty = true := by rw [List.isEmpty_iff]; simpa using e1
        have HS0 := Lib.hid hS0
        have hc0 : (convert 70 9 (.slice (some ⟨wr.heap.size, 0, none⟩) 1 1)).run Try.prog (wr.alloc (.cells #[.int .u8 48] 5)) = .ok (.string Y) (wr.alloc (.cells #[.int .u8 48] 5)) := hc
        have HN0 : Hid (Z = ⟨(UInt8.ofNat (48 + 0 % 10) :: l).toArray⟩ ∧ DigMid v 0 (UInt8.ofNat (48 + 0 % 10) :: l) ∧ Below w.heap.size w (wr.alloc (.cells #[.int .u8 48] 5))) := HN
        clear hgo hl0 hS0 h0 hc
        go_wp2
        go_roundw
        case rel => exact ⟨0, _, Z, by go_num, rfl, by omega, HN0⟩
        case measure => rw [HE.out, HHS.out.1, if_pos HS0.out]; simp [RowKit.intOf]
    · have hv0 : v' = 0 := by omega
      have hl0 : l ≠ [] := fun h => hgo (.inr h)
      have hne : S.size ≠ 0 := by rw [hSl]; exact fun h => hl0 (List.length_eq_zero_iff.1 h)
      have e1 : (S.toList = []) = False := by
        simp only [eq_iff_iff, iff_false]
        rw [ByteArray.toList_eq, ← List.length_eq_zero_iff, size_list]
        exact hne
      have e2 : S.toList.isEmpty = false := by
        rw [Bool.eq_false_iff]
        intro h
        rw [List.isEmpty_iff] at h
        simp [h] at e1
      have hRS : S = R := by
        rw [← HR.out, HM.out.1]
        rcases HM.out.2.1 with ⟨h, _⟩ | ⟨_, h⟩
        · exact absurd h hl0
        · rw [h, if_pos hv0]
          rfl
      subst hv0
      have HB := Lib.hid (And.intro hRS HM.out.2.2)
      clear hgo hl0 hne hSl HM hRS
      go_wp2
      go_ret
      exact ⟨by rw [HB.out.1]; rfl, HB.out.2⟩
theorem dec_top : decDigits 18446744073709551616 = [49, 56, 52, 52, 54, 55, 52, 52, 48, 55, 51, 55, 48, 57, 53, 53, 49, 54, 49, 54] := by
  simp [decDigits]
set_option maxHeartbeats 1000000 in
theorem rprint_any (m : Bool) (v : Nat) (hv : v < 18446744073709551616) (w : World) :
    Calls Try.prog 45 #[.agg #[.bool m, .int .u64 v]] w fun e w' => e = .returned (.string ⟨(printD (m, v)).toArray⟩) ∧ Below w.heap.size w w' := by
  cases m with
  | false =>
    have HD : Hid (∀ W, Calls Try.prog 60 #[.int .u64 v] W fun e w' => e = .returned (.string ⟨(printD (false, v)).toArray⟩) ∧ Below W.heap.size W w') := Lib.hid (fun W => rdigits_any v hv W)
    have HB := Lib.hid (fun x => (Below.refl w.heap.size w).alloc (Nat.le_refl _) x)
    generalize (⟨(printD (false, v)).toArray⟩ : ByteArray) = Z at *
    go_enter Try.func45, Try.ntmps45
    go_wp2_with fail
    refine (HD.out _).mono ?_
    rintro e w1 ⟨rfl, hb⟩
    have HB1 := Lib.hid (up_trans (HB.out _) hb)
    clear hb
    go_wp2
    go_ret
    exact ⟨rfl, HB1.out⟩
  | true =>
    by_cases hm : v = 18446744073709551615
    · subst hm
      have hz : (⟨(printD (true, 18446744073709551615)).toArray⟩ : ByteArray) = ⟨#[45, 49, 56, 52, 52, 54, 55, 52, 52, 48, 55, 51, 55, 48, 57, 53, 53, 49, 54, 49, 54]⟩ := by
        show (⟨(45 :: decDigits 18446744073709551616).toArray⟩ : ByteArray) = _
        rw [dec_top]
      rw [hz]
      have HB := Lib.hid (fun x => (Below.refl w.heap.size w).alloc (Nat.le_refl _) x)
      clear hz
      go_enter Try.func45, Try.ntmps45
      go_wp2
      go_ret
      exact ⟨rfl, HB.out _⟩
    · have hz : ((v : Int) == 18446744073709551615) = false := by rw [beq_eq_false_iff_ne]; omega
      have hw : IntKind.u64.wrap ((v : Int) + 1) = ((v + 1 : Nat) : Int) := by rw [wrap_u64_of _ (by omega) (by omega)]; omega
      have HD := Lib.hid (fun W => rdigits_any (v + 1) (by omega) W)
      have hcat : (⟨#[45]⟩ : ByteArray) ++ ⟨(decDigits (v + 1)).toArray⟩ = ⟨(printD (true, v)).toArray⟩ := cat_of [45] _
      have hsz : (⟨(decDigits (v + 1)).toArray⟩ : ByteArray).size ≤ 20 := by rw [size_of, decDigits_length]; exact nDigits_le _ (by omega)
      have HB := Lib.hid (fun x => (Below.refl w.heap.size w).alloc (Nat.le_refl _) x)
      generalize (⟨(decDigits (v + 1)).toArray⟩ : ByteArray) = Y at *
      generalize (⟨(printD (true, v)).toArray⟩ : ByteArray) = Z at *
      generalize v + 1 = v1 at *
      have HC := Lib.hid hcat
      clear hcat
      go_enter Try.func45, Try.ntmps45
      go_wp2_with fail
      refine (HD.out _).mono ?_
      rintro e w1 ⟨rfl, hb⟩
      have HB1 := Lib.hid (up_trans (HB.out _) hb)
      clear hb
      have hcat := HC.out
      go_wp2
      go_ret
      exact ⟨rfl, HB1.out⟩
end Go.Proofs.Ytockeedbceopiaa
/-
  CONTRACT of the documents own Write: the inside of a text's string.
-/
namespace Go.Proofs.Ytockeedbceopiaa
open Go.RowKit
open Go.Lib
theorem slice_one (s : ByteArray) (k : Nat) (h : k < s.size) (x : UInt8) (hx : s[k]'h = x) (W : World) : (Instr.slice 9 (.string s) (some (.int .i64 (k : Int))) (some (.int .i64 ((k : Int) + 1))) none).run Try.prog W = .ok (.string ⟨#[x]⟩) W := by
  have h1 := slice_str_lh s k (k + 1) (by omega) (by omega) W
  rw [show (((k + 1 : Nat) : Int)) = (k : Int) + 1 by omega] at h1
  rw [h1]
  have : s.extract k (k + 1) = ⟨#[x]⟩ := by
    apply ByteArray.ext
    apply Array.ext'
    rw [ext_list, List.take_add_one, List.getElem?_eq_getElem (by rw [size_list]; exact h), List.drop_append_of_le_length (by rw [List.length_take, size_list]; omega)]
    have : s.data.toList[k]'(by rw [size_list]; exact h) = x := hx
    rw [this, List.drop_of_length_le (by rw [List.length_take, size_list]; omega)]
    rfl
  rw [this]
theorem lit_hex : ∀ (n : Fin 16) (h : n.val < (⟨#[48, 49, 50, 51, 52, 53, 54, 55, 56, 57, 97, 98, 99, 100, 101, 102]⟩ : ByteArray).size), (⟨#[48, 49, 50, 51, 52, 53, 54, 55, 56, 57, 97, 98, 99, 100, 101, 102]⟩ : ByteArray)[n.val]'h = hexD n.val := by decide +kernel
/-- Where the document's Write stands: the text so far. -/
def WrM (l : List UInt8) (q : Nat) (T : ByteArray) : Prop := T = ⟨(escW (l.take q)).toArray⟩
theorem wrm_size {l : List UInt8} {q : Nat} {T : ByteArray} (h : WrM l q T) : T.size ≤ 6 * q := by
  rw [h, size_of]
  have := escW_len (l.take q)
  rw [List.length_take] at this
  omega
theorem wrm_next {l : List UInt8} {q : Nat} {T : ByteArray} (h : WrM l q T) (hq : q < l.length) {x : UInt8} (hx : l[q] = x) : WrM l (q + 1) (T ++ ⟨(escB x).toArray⟩) := by
  unfold WrM at h ⊢
  rw [h, cat_of, List.take_add_one, List.getElem?_eq_getElem hq, hx, escW_append]
  simp [escW]
set_option maxRecDepth 100000 in
set_option maxHeartbeats 4000000 in
theorem rwrite_any (S : ByteArray) (hS : S.size ≤ 1000) (w : World) :
    Calls Try.prog 46 #[.string S] w fun e w' => e = .returned (.string ⟨(escW S.data.toList).toArray⟩) ∧ Below w.heap.size w w' := by
  obtain ⟨R, hR⟩ : ∃ R : ByteArray, (⟨(escW S.data.toList).toArray⟩ : ByteArray) = R := ⟨_, rfl⟩
  rw [hR]
  have HR := Lib.hid hR
  clear hR
  go_enter Try.func46, Try.ntmps46
  go_wp2
  go_loopw [3, 4, 5] (fun t i _ wr => ∃ (q : Nat) (T : ByteArray), t = .string T ∧ i = .int .i64 q ∧ q ≤ S.size ∧ Hid (WrM S.data.toList q T ∧ Below w.heap.size w wr)) (fun _ i _ _ => S.size - (RowKit.intOf i).toNat)
  case atStart => exact ⟨0, ⟨#[]⟩, rfl, rfl, by omega, Lib.hid ⟨rfl, Below.refl _ _⟩⟩
  case round =>
    obtain ⟨q, T, rfl, rfl, hq, HM⟩ := hrel
    have hT6 : T.size ≤ 6000 := by have := wrm_size HM.out.1; omega
    by_cases hlt : q < S.size
    · obtain ⟨x, hx⟩ : ∃ x, S[q]'hlt = x := ⟨_, rfl⟩
      have hql : q < S.data.toList.length := by rw [size_list]; exact hlt
      have hlq : S.data.toList[q] = x := hx
      have HN := Lib.hid (wrm_next HM.out.1 hql hlq)
      have HB := Lib.hid HM.out.2
      have hsl := slice_one S q hlt x hx
      clear HM hql hlq
      by_cases c1 : x.toNat = 34 ∨ x.toNat = 92
      · have he : escB x = [92, x] := by unfold escB; rw [if_pos c1]
        obtain ⟨X, hX⟩ : ∃ X : ByteArray, (⟨#[x]⟩ : ByteArray) = X := ⟨_, rfl⟩
        obtain ⟨U, hU⟩ : ∃ U : ByteArray, T ++ ⟨#[92]⟩ = U := ⟨_, rfl⟩
        obtain ⟨Z, hZ⟩ : ∃ Z : ByteArray, U ++ X = Z := ⟨_, rfl⟩
        have hXs : X.size = 1 := by rw [← hX]; rfl
        have hUs : U.size ≤ 6001 := by rw [← hU, ByteArray.size_append]; show T.size + 1 ≤ 6001; omega
        have HNZ : Hid (WrM S.data.toList (q + 1) Z) := Lib.hid (by
          have h := HN.out
          rw [he] at h
          rw [← hZ, ← hU, ← hX, ByteArray.append_assoc]
          exact h)
        simp only [hX] at hsl
        clear hX he HN
        rcases c1 with c1 | c1
        · have n34 : ((x.toNat : Int) == 34) = true := by rw [beq_iff_eq]; omega
          clear c1
          go_wp2
          go_roundw
          case rel => exact ⟨q + 1, Z, rfl, by go_num, by omega, Lib.hid ⟨HNZ.out, HB.out⟩⟩
          case measure => simp [RowKit.intOf]; omega
        · have n34 : ((x.toNat : Int) == 34) = false := by rw [beq_eq_false_iff_ne]; omega
          have n92 : ((x.toNat : Int) == 92) = true := by rw [beq_iff_eq]; omega
          clear c1
          go_wp2
          go_roundw
          case rel => exact ⟨q + 1, Z, rfl, by go_num, by omega, Lib.hid ⟨HNZ.out, HB.out⟩⟩
          case measure => simp [RowKit.intOf]; omega
      have n34 : ((x.toNat : Int) == 34) = false := by rw [beq_eq_false_iff_ne]; omega
      have n92 : ((x.toNat : Int) == 92) = false := by rw [beq_eq_false_iff_ne]; omega
      by_cases k8 : x.toNat = 8
      · have n8 : ((x.toNat : Int) == 8) = true := by rw [beq_iff_eq]; omega
        have he : escB x = [92, 98] := by unfold escB; rw [if_neg c1]; rw [if_pos k8]
        obtain ⟨Z, hZ⟩ : ∃ Z : ByteArray, T ++ ⟨#[92, 98]⟩ = Z := ⟨_, rfl⟩
        have HNZ : Hid (WrM S.data.toList (q + 1) Z) := Lib.hid (by
          have h := HN.out
          rw [he] at h
          rw [← hZ]
          exact h)
        clear hsl he HN c1 k8
        go_wp2
        go_roundw
        case rel => exact ⟨q + 1, Z, rfl, by go_num, by omega, Lib.hid ⟨HNZ.out, HB.out⟩⟩
        case measure => simp [RowKit.intOf]; omega
      have n8 : ((x.toNat : Int) == 8) = false := by rw [beq_eq_false_iff_ne]; omega
      by_cases k12 : x.toNat = 12
      · have n12 : ((x.toNat : Int) == 12) = true := by rw [beq_iff_eq]; omega
        have he : escB x = [92, 102] := by unfold escB; rw [if_neg c1]; rw [if_neg k8]; rw [if_pos k12]
        obtain ⟨Z, hZ⟩ : ∃ Z : ByteArray, T ++ ⟨#[92, 102]⟩ = Z := ⟨_, rfl⟩
        have HNZ : Hid (WrM S.data.toList (q + 1) Z) := Lib.hid (by
          have h := HN.out
          rw [he] at h
          rw [← hZ]
          exact h)
        clear hsl he HN c1 k8 k12
        go_wp2
        go_roundw
        case rel => exact ⟨q + 1, Z, rfl, by go_num, by omega, Lib.hid ⟨HNZ.out, HB.out⟩⟩
        case measure => simp [RowKit.intOf]; omega
      have n12 : ((x.toNat : Int) == 12) = false := by rw [beq_eq_false_iff_ne]; omega
      by_cases k10 : x.toNat = 10
      · have n10 : ((x.toNat : Int) == 10) = true := by rw [beq_iff_eq]; omega
        have he : escB x = [92, 110] := by unfold escB; rw [if_neg c1]; rw [if_neg k8]; rw [if_neg k12]; rw [if_pos k10]
        obtain ⟨Z, hZ⟩ : ∃ Z : ByteArray, T ++ ⟨#[92, 110]⟩ = Z := ⟨_, rfl⟩
        have HNZ : Hid (WrM S.data.toList (q + 1) Z) := Lib.hid (by
          have h := HN.out
          rw [he] at h
          rw [← hZ]
          exact h)
        clear hsl he HN c1 k8 k12 k10
        go_wp2
        go_roundw
        case rel => exact ⟨q + 1, Z, rfl, by go_num, by omega, Lib.hid ⟨HNZ.out, HB.out⟩⟩
        case measure => simp [RowKit.intOf]; omega
      have n10 : ((x.toNat : Int) == 10) = false := by rw [beq_eq_false_iff_ne]; omega
      by_cases k13 : x.toNat = 13
      · have n13 : ((x.toNat : Int) == 13) = true := by rw [beq_iff_eq]; omega
        have he : escB x = [92, 114] := by unfold escB; rw [if_neg c1]; rw [if_neg k8]; rw [if_neg k12]; rw [if_neg k10]; rw [if_pos k13]
        obtain ⟨Z, hZ⟩ : ∃ Z : ByteArray, T ++ ⟨#[92, 114]⟩ = Z := ⟨_, rfl⟩
        have HNZ : Hid (WrM S.data.toList (q + 1) Z) := Lib.hid (by
          have h := HN.out
          rw [he] at h
          rw [← hZ]
          exact h)
        clear hsl he HN c1 k8 k12 k10 k13
        go_wp2
        go_roundw
        case rel => exact ⟨q + 1, Z, rfl, by go_num, by omega, Lib.hid ⟨HNZ.out, HB.out⟩⟩
        case measure => simp [RowKit.intOf]; omega
      have n13 : ((x.toNat : Int) == 13) = false := by rw [beq_eq_false_iff_ne]; omega
      by_cases k9 : x.toNat = 9
      · have n9 : ((x.toNat : Int) == 9) = true := by rw [beq_iff_eq]; omega
        have he : escB x = [92, 116] := by unfold escB; rw [if_neg c1]; rw [if_neg k8]; rw [if_neg k12]; rw [if_neg k10]; rw [if_neg k13]; rw [if_pos k9]
        obtain ⟨Z, hZ⟩ : ∃ Z : ByteArray, T ++ ⟨#[92, 116]⟩ = Z := ⟨_, rfl⟩
        have HNZ : Hid (WrM S.data.toList (q + 1) Z) := Lib.hid (by
          have h := HN.out
          rw [he] at h
          rw [← hZ]
          exact h)
        clear hsl he HN c1 k8 k12 k10 k13 k9
        go_wp2
        go_roundw
        case rel => exact ⟨q + 1, Z, rfl, by go_num, by omega, Lib.hid ⟨HNZ.out, HB.out⟩⟩
        case measure => simp [RowKit.intOf]; omega
      have n9 : ((x.toNat : Int) == 9) = false := by rw [beq_eq_false_iff_ne]; omega
      by_cases k32 : x.toNat < 32
      · have n32 : (((x.toNat : Nat) : Int) < 32) = True := by simp only [eq_iff_iff, iff_true]; omega
        have he : escB x = [92, 117, 48, 48, hexD (x.toNat / 16), hexD (x.toNat % 16)] := by unfold escB; rw [if_neg c1]; rw [if_neg k8]; rw [if_neg k12]; rw [if_neg k10]; rw [if_neg k13]; rw [if_neg k9]; rw [if_pos k32]
        obtain ⟨U, hU⟩ : ∃ U : ByteArray, T ++ ⟨#[92, 117, 48, 48]⟩ = U := ⟨_, rfl⟩
        obtain ⟨H, hH⟩ : ∃ H : ByteArray, (⟨#[hexD (x.toNat / 16), hexD (x.toNat % 16)]⟩ : ByteArray) = H := ⟨_, rfl⟩
        obtain ⟨Z, hZ⟩ : ∃ Z : ByteArray, U ++ H = Z := ⟨_, rfl⟩
        have hHs : H.size = 2 := by rw [← hH]; rfl
        have hUs : U.size ≤ 6004 := by rw [← hU, ByteArray.size_append]; show T.size + 4 ≤ 6004; omega
        have HNZ : Hid (WrM S.data.toList (q + 1) Z) := Lib.hid (by
          have h := HN.out
          rw [he] at h
          rw [← hZ, ← hU, ← hH, ByteArray.append_assoc]
          exact h)
        have hcv : ∀ W : World, (convert 70 9 (.slice (some ⟨W.heap.size, 0, none⟩) 2 2)).run Try.prog (W.alloc (.cells #[.int .u8 (hexD (x.toNat / 16)).toNat, .int .u8 (hexD (x.toNat % 16)).toNat] 5)) = .ok (.string H) (W.alloc (.cells #[.int .u8 (hexD (x.toNat / 16)).toNat, .int .u8 (hexD (x.toNat % 16)).toNat] 5)) :=
          fun W => conv_new W [hexD (x.toNat / 16), hexD (x.toNat % 16)] _ 2 rfl rfl H hH.symm
        have hd : x.toNat % 16 < 16 := by omega
        have hda : x.toNat / 16 < 16 := by omega
        have h1 : ∀ h, (⟨#[48, 49, 50, 51, 52, 53, 54, 55, 56, 57, 97, 98, 99, 100, 101, 102]⟩ : ByteArray)[x.toNat / 16]'h = hexD (x.toNat / 16) := fun h => lit_hex ⟨x.toNat / 16, by omega⟩ h
        have h2 : ∀ h, (⟨#[48, 49, 50, 51, 52, 53, 54, 55, 56, 57, 97, 98, 99, 100, 101, 102]⟩ : ByteArray)[x.toNat % 16]'h = hexD (x.toNat % 16) := fun h => lit_hex ⟨x.toNat % 16, hd⟩ h
        clear hsl he HN c1 k8 k12 k10 k13 k9 k32 hH
        obtain ⟨a, hae⟩ : ∃ a, x.toNat / 16 = a := ⟨_, rfl⟩
        obtain ⟨d, hde⟩ : ∃ d, x.toNat % 16 = d := ⟨_, rfl⟩
        have i1 : (x.toNat : Int) / 16 = (a : Int) := by omega
        have i2 : (x.toNat : Int) % 16 = (d : Int) := by omega
        rw [hae] at hcv h1 hda
        rw [hde] at hcv h2 hd
        generalize hexD a = A at *
        generalize hexD d = D at *
        have z1 : ¬ 9223372036854775807 < T.size + 4 := by omega
        have z2 : ¬ 9223372036854775807 < U.size + H.size := by omega
        have z3 : ¬ 9223372036854775807 < U.size + 2 := by omega
        have hcd : ∀ W : World, (convert 70 9 (.slice (some ⟨W.heap.size, 0, none⟩) 2 2)).run Try.prog ((W.alloc (.cells #[.int .u8 A.toNat, .int .u8 D.toNat] 5)).drew) = .ok (.string H) ((W.alloc (.cells #[.int .u8 A.toNat, .int .u8 D.toNat] 5)).drew) := fun W => hcv W.drew
        clear hae hde
        go_wp2
        go_region
        go_wp2
        go_roundw
        case rel => exact ⟨q + 1, Z, rfl, by go_num, by omega, Lib.hid ⟨HNZ.out, below_drw (HB.out.alloc HB.out.size _)⟩⟩
        case measure => simp [RowKit.intOf]; omega
      have n32 : (((x.toNat : Nat) : Int) < 32) = False := by simp only [eq_iff_iff, iff_false]; omega
      have he : escB x = [x] := by unfold escB; rw [if_neg c1]; rw [if_neg k8]; rw [if_neg k12]; rw [if_neg k10]; rw [if_neg k13]; rw [if_neg k9]; rw [if_neg k32]
      obtain ⟨X, hX⟩ : ∃ X : ByteArray, (⟨#[x]⟩ : ByteArray) = X := ⟨_, rfl⟩
      obtain ⟨Z, hZ⟩ : ∃ Z : ByteArray, T ++ X = Z := ⟨_, rfl⟩
      have hXs : X.size = 1 := by rw [← hX]; rfl
      have HNZ : Hid (WrM S.data.toList (q + 1) Z) := Lib.hid (by
        have h := HN.out
        rw [he] at h
        rw [← hZ, ← hX]
        exact h)
      simp only [hX] at hsl
      clear hX he HN c1 k8 k12 k10 k13 k9 k32
      go_wp2
      go_roundw
      case rel => exact ⟨q + 1, Z, rfl, by go_num, by omega, Lib.hid ⟨HNZ.out, HB.out⟩⟩
      case measure => simp [RowKit.intOf]; omega
    · have hTR : T = R := by
        rw [← HR.out, HM.out.1, List.take_of_length_le (by rw [size_list]; omega)]
      have HB := Lib.hid (And.intro hTR HM.out.2)
      clear HM hTR
      go_wp2
      go_ret
      exact ⟨by rw [HB.out.1]; rfl, HB.out.2⟩
end Go.Proofs.Ytockeedbceopiaa
/-
  CONTRACT of the document's own plain, for JSON: what is written of a part that is no container, nor an end.
-/
namespace Go.Proofs.Ytockeedbceopiaa
open Go.RowKit
open Go.Lib
set_option maxHeartbeats 2000000 in
theorem rplain_any (e : Ev) (hk : e.k = 0 ∨ e.k = 1 ∨ e.k = 2 ∨ e.k = 3) (hm : e.m < 18446744073709551616) (ht : e.t.size ≤ 1000) (w : World) :
    Calls Try.prog 27 #[.int .i64 1, evV e] w fun r w' => r = .returned (.tuple #[.string ⟨(outW e).toArray⟩, .int .i64 0]) ∧ Below w.heap.size w w' := by
  obtain ⟨k, y, m, t, c⟩ := e
  simp only [evV] at *
  have HB := Lib.hid (fun x => (Below.refl w.heap.size w).alloc (Nat.le_refl _) x)
  rcases hk with rfl | rfl | rfl | rfl
  · have ho : outW ⟨0, y, m, t, c⟩ = [110, 117, 108, 108] := by simp [outW]
    rw [ho]
    clear ho
    go_enter Try.func27, Try.ntmps27
    go_wp2
    go_ret2
    exact ⟨rfl, HB.out _⟩
  · cases y with
    | true =>
      have ho : outW ⟨1, true, m, t, c⟩ = [116, 114, 117, 101] := by simp [outW]
      rw [ho]
      clear ho
      go_enter Try.func27, Try.ntmps27
      go_wp2
      go_ret2
      exact ⟨rfl, HB.out _⟩
    | false =>
      have ho : outW ⟨1, false, m, t, c⟩ = [102, 97, 108, 115, 101] := by simp [outW]
      rw [ho]
      clear ho
      go_enter Try.func27, Try.ntmps27
      go_wp2
      go_ret2
      exact ⟨rfl, HB.out _⟩
  · have ho : outW ⟨2, y, m, t, c⟩ = printD (y, m) := by simp [outW]
    rw [ho]
    have HP := Lib.hid (fun W => rprint_any y m hm W)
    generalize (⟨(printD (y, m)).toArray⟩ : ByteArray) = Z at *
    clear ho
    go_enter Try.func27, Try.ntmps27
    go_wp2_with fail
    refine (HP.out _).mono ?_
    rintro r w1 ⟨rfl, hb⟩
    have HB1 := Lib.hid (up_trans (HB.out _) hb)
    clear hb
    go_wp2
    go_ret2
    exact ⟨rfl, HB1.out⟩
  · have ho : outW ⟨3, y, m, t, c⟩ = 34 :: escW t.data.toList ++ [34] := by simp [outW]
    rw [ho]
    have hWr := fun W0 => rwrite_any t ht W0
    obtain ⟨X, hX⟩ : ∃ X : ByteArray, (⟨(escW t.data.toList).toArray⟩ : ByteArray) = X := ⟨_, rfl⟩
    have hXs : X.size ≤ 6000 := by
      rw [← hX, size_of]
      have h1 := escW_len t.data.toList
      rw [size_list] at h1
      omega
    obtain ⟨U, hU⟩ : ∃ U, (⟨#[34]⟩ : ByteArray) ++ X = U := ⟨_, rfl⟩
    obtain ⟨Y, hY⟩ : ∃ Y, U ++ (⟨#[34]⟩ : ByteArray) = Y := ⟨_, rfl⟩
    have hUs : U.size ≤ 6001 := by rw [← hU, ByteArray.size_append]; show 1 + X.size ≤ 6001; omega
    have hYe : (⟨(34 :: escW t.data.toList ++ [34]).toArray⟩ : ByteArray) = Y := by
      rw [← hY, ← hU, ← hX]
      have e1 := cat_of [34] (escW t.data.toList)
      have e2 := cat_of ([34] ++ escW t.data.toList) [34]
      exact (by rw [show (⟨#[34]⟩ : ByteArray) = ⟨[(34 : UInt8)].toArray⟩ from rfl, e1, e2]; rfl)
    rw [hYe]
    rw [hX] at hWr
    have HWr := Lib.hid hWr
    have z1 : ¬ 9223372036854775807 < 1 + X.size := by omega
    have z2 : ¬ 9223372036854775807 < U.size + 1 := by omega
    clear ho hWr hX hYe
    go_enter Try.func27, Try.ntmps27
    go_wp2_with fail
    refine (HWr.out _).mono ?_
    rintro r w1 ⟨rfl, hb⟩
    have HB1 := Lib.hid (up_trans (HB.out _) hb)
    clear hb
    go_wp2
    go_ret2
    exact ⟨rfl, HB1.out⟩
end Go.Proofs.Ytockeedbceopiaa
/-
  GENERAL (of the program the types api.Ev, []api.Ev alone): lists of parts in memory: what came in, what a call makes and grows.
-/
namespace Go.Proofs.Ytockeedbceopiaa
open Go.RowKit
open Go.Lib
/-- The parts ahead of a place. -/
def pre (E : Nat → Ev) (j : Nat) : List Ev := (List.range j).map E
theorem pre_succ (E : Nat → Ev) (j : Nat) : pre E (j + 1) = pre E j ++ [E j] := by simp [pre, List.range_succ]
theorem pre_split (E : Nat → Ev) (j k : Nat) : ∃ r, pre E (j + k) = pre E j ++ r := by
  induction k with
  | zero => exact ⟨[], by simp⟩
  | succ k ih =>
    obtain ⟨r, hr⟩ := ih
    exact ⟨r ++ [E (j + k)], by rw [← Nat.add_assoc, pre_succ, hr, List.append_assoc]⟩
theorem wrap_succ {j : Nat} (h : j ≤ 1000000) : RowKit.wrap64 ((j : Int) + 1) = (j : Int) + 1 := by
  unfold RowKit.wrap64
  omega
theorem EvsAt.cells {w : World} {B n : Nat} {A : Option Addr} {E : Nat → Ev} (h : EvsAt w B A n E) {i : Nat} (hi : i < n) : ∃ b off, A = some ⟨b, off, none⟩ ∧ b < B ∧
    w.cell? ⟨b, off + i * 5, none⟩ = some (.int .i64 (E i).k) ∧ w.cell? ⟨b, off + i * 5 + 1, none⟩ = some (.bool (E i).y) ∧ w.cell? ⟨b, off + i * 5 + 2, none⟩ = some (.int .u64 (E i).m) ∧
    w.cell? ⟨b, off + i * 5 + 3, none⟩ = some (.string (E i).t) ∧ w.cell? ⟨b, off + i * 5 + 4, none⟩ = some (.int .i64 (E i).c) := by
  obtain ⟨b, off, rfl, hb, hc⟩ := h (by omega)
  exact ⟨b, off, rfl, hb, hc i hi 0 _ rfl, hc i hi 1 _ rfl, hc i hi 2 _ rfl, hc i hi 3 _ rfl, hc i hi 4 _ rfl⟩
def evsC : List Ev → List Value
  | [] => []
  | e :: r => evCells e ++ evsC r
theorem evsC_append (L K : List Ev) : evsC (L ++ K) = evsC L ++ evsC K := by
  induction L with
  | nil => rfl
  | cons e L ih => simp only [List.cons_append, evsC, ih, List.append_assoc]
theorem evsC_length (L : List Ev) : (evsC L).length = L.length * 5 := by
  induction L with
  | nil => rfl
  | cons e L ih =>
    rw [evsC, List.length_append, ih]
    simp [evCells]
    omega
theorem evsC_one (L : List Ev) : ∀ u ∈ evsC L, u.oneCell' = true := by
  induction L with
  | nil => intro u h; simp [evsC] at h
  | cons e L ih =>
    intro u h
    rw [evsC, List.mem_append] at h
    rcases h with h | h
    · simp [evCells] at h
      rcases h with rfl | rfl | rfl | rfl | rfl <;> rfl
    · exact ih u h
def getE (L : List Ev) (i : Nat) : Ev := L[i]?.getD evZ
theorem pre_getE (L : List Ev) : pre (getE L) L.length = L := by
  apply List.ext_getElem
  · simp [pre]
  · intro i h1 h2
    simp [pre, getE, h2]
theorem evsC_get (L : List Ev) : ∀ (i j : Nat), i < L.length → j < 5 → (evsC L)[i * 5 + j]? = (evCells (getE L i))[j]? := by
  induction L with
  | nil => intro i j h; simp at h
  | cons e L ih =>
    intro i j hi hj
    rw [evsC]
    cases i with
    | zero =>
      rw [List.getElem?_append_left (by simp [evCells]; omega)]
      simp [getE]
    | succ i =>
      rw [List.getElem?_append_right (by simp [evCells]; omega)]
      have h1 : (i + 1) * 5 + j - (evCells e).length = i * 5 + j := by simp [evCells]; omega
      rw [h1, ih i j (by simpa using hi) hj]
      simp [getE]
theorem pre_length (E : Nat → Ev) (n : Nat) : (pre E n).length = n := by simp [pre]
theorem getE_pre (E : Nat → Ev) (n i : Nat) (h : i < n) : getE (pre E n) i = E i := by simp [getE, pre, h]
/-- What came in is a source for append. -/
theorem EvsAt.src {P : Program} {w : World} {B n c : Nat} {A : Option Addr} {E : Nat → Ev} (h : EvsAt w B A n E) {tx e' : TypeId} (hk : P.underlying tx = some (.slice e')) (hA : n = 0 → A = none) : Src P 5 tx (.slice A n c) n (evsC (pre E n)) w := by
  by_cases h0 : n = 0
  · subst h0
    rw [hA rfl]
    exact Src.ofNil w hk c
  · obtain ⟨b, off, rfl, hb, hc⟩ := h (by omega)
    refine Src.ofSlice w hk _ n c _ (by rw [evsC_length, pre_length]) (fun j u hu => ?_) (evsC_one _)
    have hj : j < n * 5 := by have := (List.getElem?_eq_some_iff.1 hu).1; rwa [evsC_length, pre_length] at this
    have h1 : j = j / 5 * 5 + j % 5 := by omega
    have h2 : j / 5 < n := by omega
    rw [h1, evsC_get _ _ _ (by rw [pre_length]; exact h2) (by omega), getE_pre E n _ h2] at hu
    rw [add_flat]
    have := hc (j / 5) h2 (j % 5) u hu
    rwa [Nat.add_assoc, ← h1] at this
/-- A list of parts that a call made. -/
theorem evs_win {w : World} {a : Option Addr} {n m cap : Nat} {T : TypeId} {L : List Ev} (h : Win w T 5 (.slice a m cap) m (evsC L)) (hn : n ≤ L.length) : EvsAt w w.heap.size a n (getE L) := fun h0 => by
  have hm : 0 < m := by
    have h1 := h.1
    rw [evsC_length] at h1
    omega
  obtain ⟨g, off, cap', hv, _, _, hg, _, hc⟩ := h.form hm
  cases hv
  refine ⟨g, off, rfl, hg, fun i hi j u hu => ?_⟩
  have hj : j < 5 := (List.getElem?_eq_some_iff.1 hu).1
  have := (hc (i * 5 + j) u (by rw [evsC_get L i j (by omega) hj]; exact hu)).1
  rwa [← Nat.add_assoc] at this
theorem pre_ext {E F : Nat → Ev} {n : Nat} (h : ∀ i, i < n → E i = F i) : pre E n = pre F n := by
  unfold pre
  exact List.map_congr_left fun i hi => h i (List.mem_range.1 hi)
theorem ok_getE {L : List Ev} (h : ∀ e ∈ L, EvOk e) (i : Nat) (hi : i < L.length) : EvOk (getE L i) := by
  have : getE L i ∈ L := by
    simp only [getE, List.getElem?_eq_getElem hi, Option.getD_some]
    exact List.getElem_mem hi
  exact h _ this
theorem ok_small (k : Int) (y : Bool) (m : Nat) (t : ByteArray) (c : Int) (hk : -100 ≤ k ∧ k ≤ 100) (hm : m ≤ 100) (ht : t.size ≤ 100) (hc : -100 ≤ c ∧ c ≤ 100) : EvOk ⟨k, y, m, t, c⟩ :=
  ⟨⟨by show _ ≤ k; omega, by show k ≤ _; omega⟩, by show m < _; omega, ⟨by show _ ≤ c; omega, by show c ≤ _; omega⟩, by show t.size ≤ _; omega⟩
theorem win_list (w : World) (L : List Ev) (T : TypeId) (m : Nat) (hm : L.length = m) (h0 : m ≤ 900) : Win (w.alloc (.cells (evsC L).toArray T)) T 5 (.slice (some ⟨w.heap.size, 0, none⟩) m m) m (evsC L) := by
  have hl := evsC_length L
  rw [hm] at hl
  exact ⟨hl, .inr ⟨w.heap.size, 0, m, _, rfl, heap_alloc_new w _, Nat.le_refl _, by simp [hl], by unfold maxLen; omega, by simp [← hl]⟩⟩
/-- What came in is a source for append. -/
theorem EvsAt.from {P : Program} {w : World} {B n c : Nat} {A : Option Addr} {E : Nat → Ev} (h : EvsAt w B A n E) {tx e' : TypeId} (hk : P.underlying tx = some (.slice e')) : Src P 5 tx (.slice A n c) n (evsC (pre E n)) w := by
  by_cases h0 : n = 0
  · subst h0
    cases A with
    | none => exact Src.ofNil w hk c
    | some a => exact Src.ofSlice w hk a 0 c _ (by simp [pre, evsC]) (fun j u hu => by simp [pre, evsC] at hu) (evsC_one _)
  · exact h.src hk (fun h1 => absurd h1 h0)
theorem info_ev : (Try.prog.info? 35).map (fun i => (i.zero, i.size, i.bytes)) = some (some (.agg #[.int .i64 0, .bool false, .int .u64 0, .string ⟨#[]⟩, .int .i64 0]), 5, 48) := by kernel_rfl
/-- A list that a call made, of blocks that were not there. -/
def Made (w0 w : World) (v : Value) (n : Nat) (L : List Ev) : Prop := Below w0.heap.size w0 w ∧ Win w 35 5 v n (evsC L) ∧ ∀ k ∈ Value.owner v, w0.heap.size ≤ k
theorem Made.go {w0 w w' : World} {v : Value} {n : Nat} {L : List Ev} (h : Made w0 w v n L) (k : Below w.heap.size w w') : Made w0 w' v n L :=
  ⟨up_trans h.1 k, h.2.1.keep fun g hg => k.block g (h.2.1.lt g hg), h.2.2⟩
/-- More of them. -/
theorem made_more {w0 wA w w2 : World} {v v' : Value} {n m : Nat} {L K : List Ev} (h : Made w0 wA v n L) (hA : Below wA.heap.size wA w) (hW : Win w2 35 5 v' (n + m) (evsC L ++ evsC K)) (hG : w.grownBy w2 v.ownBlock)
    (hO : v'.ownBlock = v.ownBlock ∨ v'.ownBlock = some w.heap.size ∧ w.heap.size < w2.heap.size) : Made w0 w2 v' (n + m) (L ++ K) := by
  have hw0 : w0.heap.size ≤ w.heap.size := Nat.le_trans h.1.size hA.size
  refine ⟨(up_trans h.1 hA).grown hG hw0 (fun k hk => h.2.2 k ((ob_iff _ _).1 hk)), by rw [evsC_append]; exact hW, fun k hk => ?_⟩
  rcases hO with e | ⟨e, _⟩
  · exact h.2.2 k ((ob_iff _ _).1 (e ▸ (ob_iff _ _).2 hk))
  · have := (ob_iff _ _).2 hk
    rw [e] at this
    cases this
    exact hw0
theorem made_nil (w : World) : Made w w (.slice none 0 0) 0 [] := ⟨Below.refl _ _, Win.nil_ _ _ _, fun k hk => by simp [Value.owner] at hk⟩
theorem evs_one (e : Ev) : evsC [e] = evCells e := by simp [evsC]
theorem slice_hi {t : TypeId} {g off n cap k : Nat} (ht : Try.prog.underlying t = some (.slice 35)) (hk : k ≤ cap) (W : World) :
    (Instr.slice t (.slice (some ⟨g, off, none⟩) n cap) none (some (.int .i64 (k : Int))) none).run Try.prog W = .ok (.slice (some ⟨g, off, none⟩) k cap) W := by
  have ht' : Try.prog.underlying t = some (.slice (Try.prog.elem t)) := by simp [Program.elem, ht]
  have he : Try.prog.elem t = 35 := by simp [Program.elem, ht]
  have hz : ∀ W, (Go.sizeOf 35).run Try.prog W = .ok 5 W := fun W => by kernel_rfl
  rw [run_slice_h W t _ _ _ ht' .i64 _ (by omega) (by omega), he, hz]
  by_cases h0 : cap = 0 <;> simp [Result.andThen, sliced, h0, add_flat]
theorem EvsAt.grow {w w' : World} {n : Nat} {A : Option Addr} {E : Nat → Ev} (h : EvsAt w w.heap.size A n E) (k : Below w.heap.size w w') : EvsAt w' w'.heap.size A n E := fun h0 => by
  obtain ⟨b, off, hA, hb, hc⟩ := h.below k h0
  exact ⟨b, off, hA, Nat.lt_of_lt_of_le hb k.size, hc⟩
/-- A list that a call wrote out. -/
theorem made_new {w wr : World} (h : Below w.heap.size w wr) (L : List Ev) (m : Nat) (hm : L.length = m) (h0 : m ≤ 900) : Made w (wr.alloc (.cells (evsC L).toArray 35)) (.slice (some ⟨wr.heap.size, 0, none⟩) m m) m L :=
  ⟨up_alloc h _, win_list wr L _ m hm h0, fun k hk => by simp [Value.owner] at hk; subst hk; exact h.size⟩
end Go.Proofs.Ytockeedbceopiaa
/-
  NO PROGRAM NEEDED: boxes (open containers) as cells.
-/
namespace Go.Proofs.Ytockeedbceopiaa
open Go.RowKit
open Go.Lib
/-- An open container's cells. -/
def bxL (b : Bx) : List Value := [.bool b.map, .int .i64 b.c, .int .i64 (b.have_ : Int)]
def bxsL : List Bx → List Value
  | [] => []
  | b :: r => bxsL r ++ bxL b
theorem bxsL_length : ∀ s : List Bx, (bxsL s).length = s.length * 3
  | [] => rfl
  | b :: r => by rw [bxsL, List.length_append, bxsL_length r]; simp [bxL]; omega
theorem bxsL_one : ∀ (s : List Bx) (u : Value), u ∈ bxsL s → u.oneCell' = true
  | [], u, h => by simp [bxsL] at h
  | b :: r, u, h => by
    rw [bxsL, List.mem_append] at h
    rcases h with h | h
    · exact bxsL_one r u h
    · simp [bxL] at h
      rcases h with rfl | rfl | rfl <;> rfl
end Go.Proofs.Ytockeedbceopiaa
/-
  THE DOCUMENT'S OWN STACK: open containers as a list of truchmanref1.Box.
-/
namespace Go.Proofs.Ytockeedbceopiaa
open Go.RowKit
open Go.Lib
/-- The open containers, as a list of boxes. -/
structure Stk (M B : Nat) (w : World) (s : List Bx) (v : Value) : Prop where
  win : Win w 69 3 v s.length (bxsL s)
  vB : ∀ k ∈ Value.owner v, B ≤ k
  ok : ∀ b ∈ s, (-1 ≤ b.c ∧ b.c ≤ 9223372036854775807) ∧ b.have_ ≤ M
  deep : s.length ≤ 800
  most : M ≤ 1000
/-- Of the blocks below B only b may have turned. -/
structure Bew (B b : Nat) (w w' : World) : Prop where
  os : w'.os = w.os
  tape : w'.tape = w.tape
  output : w'.output = w.output
  size : w.heap.size ≤ w'.heap.size
  block : ∀ k, k < B → k ≠ b → w'.heap[k]? = w.heap[k]?
theorem _root_.Go.RowKit.Below.bew {B b : Nat} {w w' : World} (h : Below B w w') : Bew B b w w' := ⟨h.os, h.tape, h.output, h.size, fun k hk _ => h.block k hk⟩
theorem Bew.trans {B b : Nat} {w w1 w2 : World} (h : Bew B b w w1) (k : Bew B b w1 w2) : Bew B b w w2 :=
  ⟨k.os.trans h.os, k.tape.trans h.tape, k.output.trans h.output, Nat.le_trans h.size k.size, fun i hi hb => (k.block i hi hb).trans (h.block i hi hb)⟩
theorem Bew.set {B b : Nat} {w w' : World} (h : Bew B b w w') (i : Nat) (v : Value) : Bew B b w (w'.setCell ⟨b, i, none⟩ v) :=
  ⟨h.os, h.tape, h.output, Nat.le_trans h.size (by simp [World.setCell]), fun k hk hb => (Below.heap_setCell w' ⟨b, i, none⟩ v k (fun e => hb e)).trans (h.block k hk hb)⟩
theorem Bew.setFar {B b : Nat} {w w' : World} (h : Bew B b w w') {p : Addr} (hp : B ≤ p.block) (v : Value) : Bew B b w (w'.setCell p v) :=
  ⟨h.os, h.tape, h.output, Nat.le_trans h.size (by simp [World.setCell]), fun k hk hb => (Below.heap_setCell w' p v k (fun e => by subst e; omega)).trans (h.block k hk hb)⟩
theorem Bew.mono {B C b : Nat} {w w' : World} (h : Bew B b w w') (hC : C ≤ B) : Bew C b w w' := ⟨h.os, h.tape, h.output, h.size, fun k hk hb => h.block k (Nat.lt_of_lt_of_le hk hC) hb⟩
theorem Bew.below {B C b : Nat} {w w' : World} (h : Bew B b w w') (hC : C ≤ B) (hb : C ≤ b) : Below C w w' := ⟨h.os, h.tape, h.output, h.size, fun k hk => h.block k (Nat.lt_of_lt_of_le hk hC) (by omega)⟩
/-- What append made is nobody's but its own. -/
theorem Stk.zero {M B : Nat} {w : World} {s : List Bx} {v : Value} (h : Stk M B w s v) : Stk M 0 w s v := ⟨h.win, fun _ _ => Nat.zero_le _, h.ok, h.deep, h.most⟩
theorem Stk.go {M B : Nat} {w w' : World} {s : List Bx} {v : Value} (h : Stk M B w s v) (k : Below w.heap.size w w') : Stk M B w' s v :=
  ⟨h.win.keep fun g hg => k.block g (h.win.lt g hg), h.vB, h.ok, h.deep, h.most⟩
theorem Stk.last {M B : Nat} {w : World} {b : Bx} {r : List Bx} {v : Value} (h : Stk M B w (b :: r) v) :
    ∃ g off N cap, v = .slice (some ⟨g, off, none⟩) N cap ∧ N = r.length + 1 ∧ N ≤ 9223372036854775807 ∧
      (w.cell? ⟨g, off + r.length * 3, none⟩ = some (.bool b.map) ∧ w.cell? ⟨g, off + r.length * 3 + 1, none⟩ = some (.int .i64 b.c) ∧ w.cell? ⟨g, off + r.length * 3 + 2, none⟩ = some (.int .i64 (b.have_ : Int))) ∧
      (w.frozen? ⟨g, off + r.length * 3, none⟩ = false ∧ w.frozen? ⟨g, off + r.length * 3 + 1, none⟩ = false ∧ w.frozen? ⟨g, off + r.length * 3 + 2, none⟩ = false) := by
  obtain ⟨g, off, cap, rfl, h1, h2, _, _, h3⟩ := h.win.form (by simp)
  have hl := bxsL_length r
  have hx : ∀ j u, (bxL b)[j]? = some u → w.cell? ⟨g, off + (r.length * 3 + j), none⟩ = some u ∧ w.frozen? ⟨g, off + (r.length * 3 + j), none⟩ = false := fun j u hu => by
    refine h3 _ u ?_
    rw [bxsL, ← hl, List.getElem?_append_right (by omega), Nat.add_sub_cancel_left]
    exact hu
  have x0 := hx 0 _ rfl
  have x1 := hx 1 _ rfl
  have x2 := hx 2 _ rfl
  simp only [← Nat.add_assoc, Nat.add_zero] at x0 x1 x2
  refine ⟨g, off, _, cap, rfl, by simp, ?_, ⟨x0.1, x1.1, x2.1⟩, ⟨x0.2, x1.2, x2.2⟩⟩
  unfold maxLen at h2
  simp only [List.length_cons] at h1 ⊢
  omega
theorem Stk.up {M B : Nat} {w : World} {s : List Bx} {v : Value} (h : Stk M B w s v) (hM : M + 1 ≤ 1000) : Stk (M + 1) B w s v :=
  ⟨h.win, h.vB, fun b hb => ⟨(h.ok b hb).1, Nat.le_succ_of_le (h.ok b hb).2⟩, h.deep, hM⟩
theorem Stk.inc {M B : Nat} {w : World} {b : Bx} {r : List Bx} {g off cap N : Nat} (h : Stk M B w (b :: r) (.slice (some ⟨g, off, none⟩) N cap)) (hM : M + 1 ≤ 1000) (hN : N = r.length + 1) :
    Stk (M + 1) B (w.setCell ⟨g, off + r.length * 3 + 2, none⟩ (.int .i64 ((b.have_ : Int) + 1))) (incB (b :: r)) (.slice (some ⟨g, off, none⟩) N cap) ∧ B ≤ g := by
  subst hN
  have hw := h.win.store (r.length * 3 + 2) (by rw [bxsL_length]; simp; omega) (.int .i64 ((b.have_ : Int) + 1))
  have hx : (bxsL (b :: r)).set (r.length * 3 + 2) (.int .i64 ((b.have_ : Int) + 1)) = bxsL (incB (b :: r)) := by
    simp only [bxsL, incB]
    rw [← bxsL_length, List.set_append, if_neg (by omega), Nat.add_sub_cancel_left]
    rfl
  rw [hx, ← Nat.add_assoc] at hw
  refine ⟨⟨hw, h.vB, fun x hx => ?_, h.deep, hM⟩, h.vB g (by simp [Value.owner])⟩
  simp only [incB, List.mem_cons] at hx
  rcases hx with rfl | hx
  · have := h.ok b (by simp)
    exact ⟨this.1, by simp only; omega⟩
  · have := h.ok x (List.mem_cons_of_mem _ hx)
    exact ⟨this.1, by omega⟩
/-- A slice that append made of old elements and new ones. -/
theorem stk_new {M B : Nat} {w w2 : World} {s : List Bx} {v v' : Value} (hB : B ≤ w.heap.size) (hv : ∀ k ∈ Value.owner v, B ≤ k) {n : Nat} {xs : List Value} (hn : n = s.length) (hx : xs = bxsL s)
    (hW : Win w2 69 3 v' n xs) (hG : w.grownBy w2 v.ownBlock) (hO : v'.ownBlock = v.ownBlock ∨ v'.ownBlock = some w.heap.size ∧ w.heap.size < w2.heap.size)
    (ok : ∀ b ∈ s, (-1 ≤ b.c ∧ b.c ≤ 9223372036854775807) ∧ b.have_ ≤ M) (deep : s.length ≤ 800) (most : M ≤ 1000) : Stk M B w2 s v' ∧ Below B w w2 := by
  subst hn hx
  refine ⟨⟨hW, fun k hk => ?_, ok, deep, most⟩, (Below.refl B w).grown hG hB fun k hk => hv k ((ob_iff _ _).1 hk)⟩
  rcases hO with e | ⟨e, _⟩
  · exact hv k ((ob_iff _ _).1 (e ▸ (ob_iff _ _).2 hk))
  · have := (ob_iff _ _).2 hk
    rw [e] at this
    cases this
    exact hB
theorem info_rbox : (Try.prog.info? 69).map (fun i => (i.zero, i.size, i.bytes)) = some (some (.agg #[.bool false, .int .i64 0, .int .i64 0]), 3, 24) := by kernel_rfl
end Go.Proofs.Ytockeedbceopiaa
/-
  CONTRACT of truchmanref1.May.
-/
namespace Go.Proofs.Ytockeedbceopiaa
open Go.RowKit
open Go.Lib
theorem may_any (e : Ev) (w : World) : Calls Try.prog 16 #[evV e] w fun r w' => r = .returned (.bool (decide (mayE e))) ∧ Below w.heap.size w w' := by
  obtain ⟨k, y, m, t, c⟩ := e
  have h1 := Lib.hid (up_alloc (Below.refl w.heap.size w) (.cells #[.int .i64 k, .bool y, .int .u64 m, .string t, .int .i64 c] 35))
  have q : ∀ n : Int, k ≠ n → (k != n) = true := fun n h => by simpa using h
  simp only [evV]
  by_cases h0 : 0 ≤ k
  · have t0 : (0 ≤ k) = True := by simp [h0]
    by_cases h7 : k ≤ 7
    · have t7 : (k ≤ 7) = True := by simp [h7]
      by_cases h5 : k = 5
      · subst h5
        have hmm : mayE ⟨5, y, m, t, c⟩ ↔ -1 ≤ c := by unfold mayE; simp
        rw [decide_eq_decide.2 hmm]
        by_cases hc : -1 ≤ c
        · have hc1 : (-1 ≤ c) = True := by simp [hc]
          rw [decide_eq_true hc]
          clear hc hmm q t0 t7 h0 h7
          go_enter Try.func16, Try.ntmps16
          go_wp2
          go_ret
          exact ⟨rfl, h1.out⟩
        · have hc1 : (-1 ≤ c) = False := by simp; omega
          rw [decide_eq_false hc]
          clear hc hmm q t0 t7 h0 h7
          go_enter Try.func16, Try.ntmps16
          go_wp2
          go_ret
          exact ⟨rfl, h1.out⟩
      · by_cases h6 : k = 6
        · subst h6
          have hmm : mayE ⟨6, y, m, t, c⟩ ↔ -1 ≤ c := by unfold mayE; simp
          rw [decide_eq_decide.2 hmm]
          by_cases hc : -1 ≤ c
          · have hc1 : (-1 ≤ c) = True := by simp [hc]
            rw [decide_eq_true hc]
            clear hc hmm q t0 t7 h0 h7
            go_enter Try.func16, Try.ntmps16
            go_wp2
            go_ret
            exact ⟨rfl, h1.out⟩
          · have hc1 : (-1 ≤ c) = False := by simp; omega
            rw [decide_eq_false hc]
            clear hc hmm q t0 t7 h0 h7
            go_enter Try.func16, Try.ntmps16
            go_wp2
            go_ret
            exact ⟨rfl, h1.out⟩
        · have hm : mayE ⟨k, y, m, t, c⟩ := ⟨h0, h7, fun h => by simp only at h; omega⟩
          rw [decide_eq_true hm]
          have q5 := q 5 h5
          have q6 := q 6 h6
          clear q h5 h6 h0 h7 hm
          go_enter Try.func16, Try.ntmps16
          go_wp2
          all_goals go_ret
          all_goals exact ⟨rfl, h1.out⟩
    · have t7 : (k ≤ 7) = False := by simp; omega
      rw [decide_eq_false (fun h => h7 h.2.1)]
      clear q h0 h7
      go_enter Try.func16, Try.ntmps16
      go_wp2
      all_goals go_ret
      all_goals exact ⟨rfl, h1.out⟩
  · have t0 : (0 ≤ k) = False := by simp; omega
    rw [decide_eq_false (fun h => h0 h.1)]
    clear q h0
    go_enter Try.func16, Try.ntmps16
    go_wp2
    all_goals go_ret
    all_goals exact ⟨rfl, h1.out⟩
end Go.Proofs.Ytockeedbceopiaa
/-
  CONTRACT of the document's own Writer, for JSON: an end; a value; a container that begins.
-/
namespace Go.Proofs.Ytockeedbceopiaa
open Go.RowKit
open Go.Lib
/-- A Writer of JSON in block b: the containers that are open, whether the document is at its end. -/
structure WrAt (M B : Nat) (w : World) (b : Nat) (s : List Bx) (dn : Bool) : Prop where
  cells : ∃ a cp, At w b 0 [.int .i64 1, .slice a s.length cp, .bool dn] ∧ Stk M 0 w s (.slice a s.length cp)
  blk : ∃ cs, w.heap[b]? = some (.cells cs 32 (0, 0))
  low : B ≤ w.heap.size
theorem WrAt.lt {M B : Nat} {w : World} {b : Nat} {s : List Bx} {dn : Bool} (h : WrAt M B w b s dn) : b < w.heap.size := by
  obtain ⟨cs, hc⟩ := h.blk
  exact (Array.getElem?_eq_some_iff.1 hc).1
theorem WrAt.go {M B : Nat} {w w' : World} {b : Nat} {s : List Bx} {dn : Bool} (h : WrAt M B w b s dn) (k : Below w.heap.size w w') : WrAt M B w' b s dn := by
  have hk := k.block b h.lt
  obtain ⟨a, cp, h1, h2⟩ := h.cells
  obtain ⟨cs, hc⟩ := h.blk
  exact ⟨⟨a, cp, h1.keep hk, h2.go k⟩, ⟨cs, hk.trans hc⟩, Nat.le_trans h.low k.size⟩
theorem WrAt.at_ {M B C : Nat} {w : World} {b : Nat} {s : List Bx} {dn : Bool} (h : WrAt M B w b s dn) (hC : C ≤ w.heap.size) : WrAt M C w b s dn := ⟨h.cells, h.blk, hC⟩
theorem at_three {w : World} {b : Nat} {v0 v1 v2 : Value} (h : At w b 0 [v0, v1, v2]) :
    (w.cell? ⟨b, 0, none⟩ = some v0 ∧ w.frozen? ⟨b, 0, none⟩ = false) ∧ (w.cell? ⟨b, 1, none⟩ = some v1 ∧ w.frozen? ⟨b, 1, none⟩ = false) ∧ (w.cell? ⟨b, 2, none⟩ = some v2 ∧ w.frozen? ⟨b, 2, none⟩ = false) :=
  ⟨h 0 v0 rfl, h 1 v1 rfl, h 2 v2 rfl⟩
theorem WrAt.fin {M B : Nat} {w : World} {b : Nat} {s : List Bx} {dn : Bool} (h : WrAt M B w b s dn) (q : Bool) : WrAt M B (w.setCell ⟨b, 2, none⟩ (.bool q)) b s q ∧ Bew B b w (w.setCell ⟨b, 2, none⟩ (.bool q)) := by
  obtain ⟨a, cp, h1, h2⟩ := h.cells
  obtain ⟨cs, hc⟩ := h.blk
  have hap : b ∉ Value.owner (.slice a s.length cp) := h2.win.apart (t := 32) hc (by decide)
  have hset := h1.set 2 (by simp) (.bool q)
  refine ⟨⟨⟨a, cp, by simpa using hset, ⟨h2.win.setCell_far hap _, h2.vB, h2.ok, h2.deep, h2.most⟩⟩, ⟨_, heap_setCell_at w ⟨b, 2, none⟩ _ _ _ _ rfl hc⟩, by simpa [World.setCell] using h.low⟩, (Below.refl B w).bew.set _ _⟩
set_option maxRecDepth 100000 in
set_option maxHeartbeats 4000000 in
theorem wr_end {M B b : Nat} {w : World} {bx : Bx} {r : List Bx} (h : WrAt M B w b (bx :: r) false) (y : Bool) (m : Nat) (t : ByteArray) (c : Int) (hodd : ¬ (bx.map = true ∧ bx.have_ % 2 = 1)) :
    Calls Try.prog 13 #[.pointer (some ⟨b, 0, none⟩), evV ⟨7, y, m, t, c⟩] w fun q w' => q = .returned (.tuple #[.string ⟨(writeW (bx :: r) ⟨7, y, m, t, c⟩).toArray⟩, .int .i64 0]) ∧ WrAt M B w' b r (decide (r = [])) ∧ Bew B b w w' := by
  have hw : writeW (bx :: r) ⟨7, y, m, t, c⟩ = if bx.map = true then [125] else [93] := by simp [writeW]
  rw [hw]
  have hlen : (bx :: r).length = r.length + 1 := rfl
  obtain ⟨a, cp, hA, hS⟩ := h.cells
  rw [hlen] at hA hS
  have hBw : B ≤ w.heap.size := h.low
  have HM : Hid (∀ X, Calls Try.prog 16 #[evV ⟨7, y, m, t, c⟩] (w.alloc X) fun r w' => r = .returned (.bool true) ∧ Below (w.alloc X).heap.size (w.alloc X) w') := Lib.hid fun X => by
    have := may_any ⟨7, y, m, t, c⟩ (w.alloc X)
    rwa [decide_eq_true (show mayE ⟨7, y, m, t, c⟩ from ⟨by simp, by simp, by simp⟩)] at this
  simp only [evV] at HM ⊢
  have HH := Lib.hid h
  have HS := Lib.hid hS
  have HA := Lib.hid hA
  have hA0 := (hA.alloc (by simp) (.cells #[.int .i64 7, .bool y, .int .u64 m, .string t, .int .i64 c] 35))
  obtain ⟨⟨k0, _⟩, ⟨k1, _⟩, ⟨k2, _⟩⟩ := at_three hA0
  obtain ⟨n', hn'⟩ : ∃ n', r.length = n' := ⟨_, rfl⟩
  rw [hn'] at k1
  have Hn := Lib.hid hn'
  have hn15 : n' ≤ 799 := by have := hS.deep; simp only [List.length_cons] at this; omega
  clear h hA hS hw hlen hA0 hn'
  go_enter Try.func13, Try.ntmps13
  go_wp2_with fail
  refine (HM.out _).mono ?_
  rintro e w1 ⟨rfl, hb1⟩
  have E1 := Lib.hid ((blk_new w _ _).go hb1)
  obtain ⟨⟨e0, e1, e2, e3, e4⟩, ef⟩ := E1.out.ev
  have hbw1 := up_trans (up_alloc (Below.refl w.heap.size w) (.cells #[.int .i64 7, .bool y, .int .u64 m, .string t, .int .i64 c] 35)) hb1
  have HB1 := Lib.hid hbw1
  have A1 := Lib.hid (HA.out.keep (hbw1.block b HH.out.lt))
  have D1 := Lib.hid (HS.out.go hbw1)
  rw [Hn.out] at A1
  clear hb1 ef k0 k1 k2 hbw1
  obtain ⟨⟨k0, q0⟩, ⟨k1, q1⟩, ⟨k2, q2⟩⟩ := at_three A1.out
  obtain ⟨g, off, N, cap', hv, hNa, hNb, ⟨y0, y1, y2⟩, _⟩ := D1.out.last
  injection hv with hv1 hv2 hv3
  subst hv1
  rw [Hn.out] at y0 y1 y2
  have hbh : bx.have_ ≤ 1000 := Nat.le_trans (D1.out.ok bx (by simp)).2 D1.out.most
  obtain ⟨bm, bc, bh⟩ := bx
  simp only at y0 y1 y2 hodd hbh
  have kk0 : ∀ x, (w1.alloc x).cell? ⟨b, 0, none⟩ = some (.int .i64 1) := fun x => (at_three (A1.out.alloc (by simp) x)).1.1
  have kk1 : ∀ x, (w1.alloc x).cell? ⟨b, 1, none⟩ = some (.slice (some ⟨g, off, none⟩) (n' + 1) cp) := fun x => (at_three (A1.out.alloc (by simp) x)).2.1.1
  obtain ⟨v', hsl, hw', ho'⟩ := D1.out.win.hi (P := Try.prog) (t := 30) Try.underlying30 (fun w => by kernel_rfl) r.length (by simp)
  rw [bxsL, ← bxsL_length, List.take_left, Hn.out] at hw'
  rw [Hn.out] at hsl
  obtain ⟨a', cap2, rfl, _, _⟩ := hw'.slice_form
  have HW := Lib.hid (fun x => hw'.alloc x)
  have hl1 : ((n' : Int) + 1 == 1) = decide (r = []) := by
    have h1 := Hn.out
    cases r with
    | nil => simp at h1; subst h1; rfl
    | cons x r => simp at h1; simp; omega
  generalize hR : decide (r = []) = R at hl1
  have HR := Lib.hid hR
  have hn1 : ((n' : Int) + 1 == 0) = false := by rw [beq_eq_false_iff_ne]; omega
  clear hw' ho' hNa hNb hv2 hv3 hR
  have hz : bm = true → (((bh : Int) % 2) != 0) = false := fun e => by
    simp only [bne_eq_false_iff_eq]
    have : ¬ bh % 2 = 1 := fun h2 => hodd ⟨e, h2⟩
    omega
  clear hodd
  have fin : ∀ (v3 : Value) (w3 : World), Win w3 69 3 v3 n' (bxsL r) → (w1.alloc (.cells #[.bool bm, .int .i64 bc, .int .i64 (bh : Int)] 69)).grownBy w3 (Value.slice none 0 0).ownBlock →
      (v3.ownBlock = (Value.slice none 0 0).ownBlock ∨ v3.ownBlock = some (w1.heap.size + 1) ∧ w1.heap.size + 1 < w3.heap.size) →
      (w3.cell? ⟨b, 0, none⟩ = some (.int .i64 1) ∧ (w3.cell? ⟨b, 1, none⟩ = some (.slice (some ⟨g, off, none⟩) (n' + 1) cp) ∧ w3.frozen? ⟨b, 1, none⟩ = false) ∧ (w3.cell? ⟨b, 2, none⟩ = some (.bool false) ∧ w3.frozen? ⟨b, 2, none⟩ = false)) ∧
      w3.cell? ⟨w1.heap.size, 0, none⟩ = some (.bool bm) ∧ b ≠ w1.heap.size ∧
      (∀ a3 c3, v3 = .slice a3 n' c3 → WrAt M B ((w3.setCell ⟨b, 1, none⟩ (.slice a3 n' c3)).setCell ⟨b, 2, none⟩ (.bool R)) b r R ∧ Bew B b w ((w3.setCell ⟨b, 1, none⟩ (.slice a3 n' c3)).setCell ⟨b, 2, none⟩ (.bool R))) := by
    intro v3 w3 hW3 hG3 hO3
    have hbw1 : b < w1.heap.size := Nat.lt_of_lt_of_le HH.out.lt HB1.out.size
    have hB1 : B ≤ w1.heap.size := Nat.le_trans HH.out.low HB1.out.size
    have hK := stk_new (M := M) (B := B) (s := r) (w := w1.alloc (.cells #[.bool bm, .int .i64 bc, .int .i64 (bh : Int)] 69)) (by simp; omega) (by simp [Value.owner]) Hn.out.symm rfl hW3 hG3 (by simpa using hO3) (fun x hx => D1.out.ok x (List.mem_cons_of_mem _ hx)) (by rw [Hn.out]; omega) D1.out.most
    have hblk : w3.heap[b]? = w1.heap[b]? := (hG3.block b (by simp; omega) (by simp [Value.ownBlock])).trans (Below.heap_alloc w1 _ b hbw1)
    have A3 := A1.out.keep hblk
    obtain ⟨⟨p0, _⟩, ⟨p1, p1'⟩, ⟨p2, p2'⟩⟩ := at_three A3
    have hbox : w3.cell? ⟨w1.heap.size, 0, none⟩ = some (.bool bm) := ((blk_new w1 #[.bool bm, .int .i64 bc, .int .i64 (bh : Int)] 69).lift hG3 (by simp [Value.ownBlock])).cell 0
    refine ⟨⟨p0, ⟨p1, p1'⟩, ⟨p2, p2'⟩⟩, hbox, by omega, ?_⟩
    rintro a3 c3 rfl
    obtain ⟨cs, hcs⟩ := HH.out.blk
    have hw3 : w3.heap[b]? = some (.cells cs 32 (0, 0)) := hblk.trans ((HB1.out.block b HH.out.lt).trans hcs)
    have hap : b ∉ Value.owner (.slice a3 n' c3) := hK.1.win.apart (t := 32) hw3 (by decide)
    have hset := (A3.set 1 (by simp) (.slice a3 n' c3)).set 2 (by simp) (.bool R)
    have hS3 : Stk M 0 ((w3.setCell ⟨b, 1, none⟩ (.slice a3 n' c3)).setCell ⟨b, 2, none⟩ (.bool R)) r (.slice a3 n' c3) := ⟨(hK.1.win.setCell_far hap _).setCell_far hap _, fun _ _ => Nat.zero_le _, hK.1.ok, hK.1.deep, hK.1.most⟩
    refine ⟨⟨⟨a3, c3, ?_, ?_⟩, ⟨_, heap_setCell_at _ ⟨b, 2, none⟩ _ _ _ _ rfl (heap_setCell_at w3 ⟨b, 1, none⟩ _ _ _ _ rfl hw3)⟩, by
      have := hK.2.size
      simp only [World.setCell, Array.size_modify]
      simp at this
      omega⟩, ?_⟩
    · rw [Hn.out]
      simpa using hset
    · rw [Hn.out]
      exact hS3
    · have b1 : Below B w w1 := HB1.out.mono hBw
      have b2 : Below B w (w1.alloc (.cells #[.bool bm, .int .i64 bc, .int .i64 (bh : Int)] 69)) := b1.alloc hB1 _
      exact ((b2.trans hK.2).bew.set _ _).set _ _
  have FIN := Lib.hid fin
  clear fin
  cases bm with
  | false =>
    clear hz
    go_wp2_with (at_builtin; refine wpList_append_win rfl _ _ _ rfl Try.underlying30 info_rbox rfl rfl (Win.nil_ _ _ _) _ rfl n' _ (Win.src (HW.out _) Try.underlying30 (bxsL_one _)) ?e1 ?e2 ?_)
    case e1 => unfold maxLen; omega
    case e2 => omega
    intro v3 w3 hW3 hG3 hO3
    obtain ⟨⟨p0, ⟨p1, p1'⟩, ⟨p2, p2'⟩⟩, hbox, hne, hfin⟩ := FIN.out v3 w3 (by simpa using hW3.out) hG3.out (by simpa using hO3.out)
    obtain ⟨a3, c3, rfl, _, _⟩ := Win.slice_form hW3.out
    have HFI := Lib.hid hfin
    clear hW3 hG3 hO3 hfin
    go_wp2
    go_ret2
    exact ⟨rfl, by rw [HR.out]; exact HFI.out _ _ rfl⟩
  | true =>
    have hz1 := hz rfl
    clear hz
    go_wp2_with (at_builtin; refine wpList_append_win rfl _ _ _ rfl Try.underlying30 info_rbox rfl rfl (Win.nil_ _ _ _) _ rfl n' _ (Win.src (HW.out _) Try.underlying30 (bxsL_one _)) ?e1 ?e2 ?_)
    case e1 => unfold maxLen; omega
    case e2 => omega
    intro v3 w3 hW3 hG3 hO3
    obtain ⟨⟨p0, ⟨p1, p1'⟩, ⟨p2, p2'⟩⟩, hbox, hne, hfin⟩ := FIN.out v3 w3 (by simpa using hW3.out) hG3.out (by simpa using hO3.out)
    obtain ⟨a3, c3, rfl, _, _⟩ := Win.slice_form hW3.out
    have HFI := Lib.hid hfin
    clear hW3 hG3 hO3 hfin
    go_wp2
    go_ret2
    exact ⟨rfl, by rw [HR.out]; exact HFI.out _ _ rfl⟩
end Go.Proofs.Ytockeedbceopiaa
