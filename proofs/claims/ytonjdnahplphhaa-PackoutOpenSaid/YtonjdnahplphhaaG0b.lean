/-
  NO PROGRAM NEEDED: parts as CBOR (on the machine of CinPure): what is written so is read as it was. NO PROGRAM NEEDED: CBOR written part by part, whether a part may be or not: the bytes of each (writeK of CinBack), the error, whether the document is at its end. NO PROGRAM NEEDED: what chapter 13 asks of CBOR's reader, over the machine of CinPure: whatever byte comes first; keys; long heads; depths; counts. NO PROGRAM NEEDED: what chapter 13 asks of CBOR's reader, over the machine of CinPure: texts, byte by byte; chunks. A SLICE OF api.Ev: its elements as parts of EvPure. (What comes in is opened by XEvs.lean.part, in the rows.) NO PROGRAM NEEDED: CBOR's reader's places stay what they may be; what it tells are parts, tidy; how many they are; a document that is not at its end. NO PROGRAM NEEDED: MessagePack read as parts, as a machine over bytes (on CBOR's of CinPure: its items, its texts, its errors); what is read is one document, or the beginning of one. NO PROGRAM NEEDED: parts as MessagePack (on the machine of PinPure): what is written so is read as it was. NO PROGRAM NEEDED: MessagePack written part by part, whether a part may be or not: the bytes of each (writeP of PinBack), the error, whether the document is at its end (on the states of CoutPure). GENERAL (NO PROGRAM NEEDED): a block and all that it holds; frames by steps; append under a guard. GENERAL, NO PROGRAM NEEDED: A STRUCTURE WITHIN A BLOCK: its cells from an offset on; a step that turns those cells alone. GENERA
-/
import Derived.Test.YtonjdnahplphhaaG0a
import Derived.Below
import Derived.RowKit
import Derived.Lib.Hide
import Derived.Lib.OthersKept
import Derived.Test.YtonjdnahplphhaaProg
import Derived.WalkKit
import Derived.WalkSpells
import Derived.WalkLawsBesides
import Derived.Deep.QuietTactic
import Derived.BigQuiet
import Derived.Lib.BufferWrite
import Derived.Lib.SlBuf
import Derived.Lib.SlBytesRow
import Derived.Laws.MakeOwn
import Derived.Laws.CopyOwn
import Derived.StillTailTactics
import Derived.Handy
import Derived.Deep.Light
import Derived.Deep.AppendLies
import Derived.Deep.RegionWith
import Derived.Outline
import Derived.Deep.MidRow
import Derived.Laws.StructEq
/-
  NO PROGRAM NEEDED: parts as CBOR (on the machine of CinPure): what is written so is read as it was.
-/
namespace Go.Proofs.Ytonjdnahplphhaa
open Go.Lib
/-- The bytes of a part. -/
def writeK (s : List Bx) (e : Ev) : List UInt8 :=
  if e.k = 7 then (match s with
    | [] => []
    | b :: _ => if b.c < 0 then [255] else [])
  else if e.k = 0 then [246]
  else if e.k = 1 then [if e.y = true then 245 else 244]
  else if e.k = 2 then headB (if e.y = true then 1 else 0) e.m
  else if e.k = 3 ∨ e.k = 4 then headB (if e.k = 3 then 3 else 2) e.t.data.toList.length ++ e.t.data.toList
  else if e.c < 0 then [if e.k = 6 then 191 else 159]
  else headB (if e.k = 6 then 5 else 4) e.c.toNat
def writeAllK : List Bx → List Ev → List UInt8
  | _, [] => []
  | s, e :: l => writeK s e ++ (match stepC (.live s) e with
    | .live s' => writeAllK s' l
    | _ => [])
/-- What CBOR's reader tells. -/
structure GoodK (e : Ev) : Prop where
  kind : 0 ≤ e.k ∧ e.k ≤ 7
  tidy : tidyE e = e
  cnt : -1 ≤ e.c ∧ e.c ≤ 1000000
  mag : e.m < 18446744073709551616
  text : e.t.data.toList.length ≤ 200 ∧ (e.k = 3 → validD e.t.data.toList = true)
/-! ### Containers with more parts than they may have -/
def overB (b : Bx) : Prop := 0 ≤ b.c ∧ (if b.map = true then 2 * b.c else b.c) < (b.have_ : Int)
theorem over_inc {s : List Bx} (h : ∃ b ∈ s, overB b) : ∃ b ∈ incB s, overB b := by
  obtain ⟨b, hb, ho⟩ := h
  cases s with
  | nil => cases hb
  | cons x r =>
    rcases List.mem_cons.1 hb with rfl | hb
    · refine ⟨_, List.mem_cons_self, ho.1, ?_⟩
      have := ho.2
      simp only
      omega
    · exact ⟨b, List.mem_cons_of_mem _ hb, ho⟩
theorem full_over {b : Bx} (h : fullB b = true) : overB ⟨b.map, b.c, b.have_ + 1⟩ := by
  unfold fullB at h
  rw [decide_eq_true_eq] at h
  refine ⟨h.1, ?_⟩
  have := h.2
  simp only
  omega
theorem over_step {s : List Bx} {e : Ev} (h : ∃ b ∈ s, overB b) : (∃ f, stepC (.live s) e = .bad f) ∨ ∃ s', stepC (.live s) e = .live s' ∧ ∃ b ∈ s', overB b := by
  have hs : s ≠ [] := by
    rintro rfl
    obtain ⟨b, hb, _⟩ := h
    cases hb
  simp only [stepC]
  split
  · exact .inl ⟨_, rfl⟩
  split
  · cases s with
    | nil => exact absurd rfl hs
    | cons x r =>
      simp only
      split
      · exact .inl ⟨_, rfl⟩
      · rename_i hx
        obtain ⟨b, hb, ho⟩ := h
        rcases List.mem_cons.1 hb with rfl | hb
        · exact absurd (.inl ⟨ho.1, by have := ho.2; omega⟩) hx
        · rw [if_neg (by rintro rfl; cases hb)]
          exact .inr ⟨r, rfl, b, hb, ho⟩
  split
  · exact .inl ⟨_, rfl⟩
  have hinc := over_inc h
  split
  · split
    · exact .inl ⟨_, rfl⟩
    · obtain ⟨b, hb, ho⟩ := hinc
      exact .inr ⟨_, rfl, b, List.mem_cons_of_mem _ hb, ho⟩
  · first | rw [if_neg hs] | skip
    exact .inr ⟨_, rfl, hinc⟩
theorem over_bad : ∀ (l : List Ev) (s : List Bx), (∃ b ∈ s, overB b) → runC (.live s) l ≠ .done
  | [], s, _ => by simp [runC]
  | e :: l, s, h => by
    rw [runC_cons]
    rcases over_step (e := e) h with ⟨f, hf⟩ | ⟨s', hs, ho⟩
    · rw [hf, runC_bad]
      simp
    · rw [hs]
      exact over_bad l s' ho
theorem full_end {b : Bx} {r : List Bx} {e : Ev} {l : List Ev} (hf : fullB b = true) (h : runC (.live (b :: r)) (e :: l) = .done) : e.k = 7 := by
  by_cases h7 : e.k = 7
  · exact h7
  · exfalso
    rw [runC_cons] at h
    have ho : ∃ x ∈ incB (b :: r), overB x := ⟨_, List.mem_cons_self, full_over hf⟩
    have : (∃ f, stepC (.live (b :: r)) e = .bad f) ∨ ∃ s', stepC (.live (b :: r)) e = .live s' ∧ ∃ b ∈ s', overB b := by
      simp only [stepC]
      rw [if_neg h7]
      split
      · exact .inl ⟨_, rfl⟩
      split
      · exact .inl ⟨_, rfl⟩
      split
      · split
        · exact .inl ⟨_, rfl⟩
        · obtain ⟨x, hx, ho⟩ := ho
          exact .inr ⟨_, rfl, x, List.mem_cons_of_mem _ hx, ho⟩
      · rw [if_neg (by simp)]
        exact .inr ⟨_, rfl, ho⟩
    rcases this with ⟨f, hf⟩ | ⟨s', hs, ho⟩
    · rw [hf, runC_bad] at h
      cases h
    · rw [hs] at h
      exact over_bad _ _ ho h
/-! ### Heads, texts -/
theorem first_of {D : Nat} {s : List Bx} {m l : Nat} (hm : m < 6) (hl : l < 28 ∨ l = 31 ∧ 2 ≤ m) (hk : keyB s = true → m = 3) (hd : 4 ≤ m → s.length < D) : firstC D s false (m * 32 + l) = headC s (stepH .new (m * 32 + l)) := by
  have e1 : (m * 32 + l) / 32 = m := by omega
  have e2 : (m * 32 + l) % 32 = l := by omega
  unfold firstC
  rw [e1, e2]
  rw [if_neg (by rintro (h | h | h); cases h; omega; omega), if_neg (by omega), if_neg (fun h => h.2 (hk h.1)), if_neg (by omega), if_neg (by omega), if_neg (by omega)]
theorem one_byte {D : Nat} {j j' : Ci} {b : UInt8} {ps : List Ev} (h : stepCi D j b = (j', ps)) : runCi D j [b] = (j', ps) := by
  simp only [runCi, h, List.append_nil]
theorem head_mid (D : Nat) (s : List Bx) (m : Nat) : ∀ (l : List UInt8) (a : Nat), l ≠ [] → runCi D (.head s (.mid m l.length a)) l = headC s (.fin m (valB a l) false)
  | [], _, h => absurd rfl h
  | [b], a, _ => by
    have h1 : stepH (.mid m [b].length a) b.toNat = .fin m (a * 256 + b.toNat) false := by simp [stepH]
    have h2 : stepCi D (.head s (.mid m [b].length a)) b = headC s (.fin m (a * 256 + b.toNat) false) := by
      show headC s (stepH (.mid m [b].length a) b.toNat) = _
      rw [h1]
    exact one_byte h2
  | b :: c :: t, a, _ => by
    have h1 : stepCi D (.head s (.mid m (b :: c :: t).length a)) b = (.head s (.mid m (c :: t).length (a * 256 + b.toNat)), []) := by
      simp only [stepCi, stepH]
      rw [if_neg (by simp)]
      simp [headC]
    rw [runCi, h1]
    simp only [List.nil_append]
    rw [head_mid D s m (c :: t) _ (by simp)]
    simp only [valB]
theorem headB_len (m v : Nat) : (headB m v).length ≤ 9 := by
  rw [headB_length]
  unfold sizH
  split
  · simp
  split
  · simp
  split
  · simp
  split <;> simp
theorem byte_eq (n : Nat) (h : n < 256) : (UInt8.ofNat n).toNat = n := by simp; omega
theorem head_read {D : Nat} {s : List Bx} {m v : Nat} (hm : m < 6) (hv : v < 18446744073709551616) (hk : keyB s = true → m = 3) (hd : 4 ≤ m → s.length < D) : runCi D (.item s false) (headB m v) = headC s (.fin m v false) := by
  have hlong : ∀ k : Nat, k < 4 → v < 256 ^ 2 ^ k → runCi D (.item s false) (UInt8.ofNat (m * 32 + (24 + k)) :: bigB (2 ^ k) v) = headC s (.fin m v false) := by
    intro k hk4 hvk
    have h1 : stepCi D (.item s false) (UInt8.ofNat (m * 32 + (24 + k))) = (.head s (.mid m (2 ^ k) 0), []) := by
      simp only [stepCi]
      rw [byte_eq _ (by omega), first_of hm (.inl (by omega)) hk hd]
      have := step_first m (24 + k) (by omega) (by omega)
      rw [byte_eq _ (by omega)] at this
      rw [this, if_neg (by omega), if_pos (by omega), show 24 + k - 24 = k by omega]
      rfl
    rw [runCi, h1]
    simp only [List.nil_append]
    have h2 := head_mid D s m (bigB (2 ^ k) v) 0 (by intro h; have := congrArg List.length h; rw [bigB_length] at this; simp at this)
    rw [bigB_length, valB_big, Nat.mod_eq_of_lt hvk] at h2
    rw [h2]
  unfold headB
  rcases sizH_cases v hv with ⟨h, e⟩ | ⟨h, e⟩ | ⟨h, e⟩ | ⟨h, e⟩ | ⟨h, e⟩ <;> rw [e]
  · simp only [bigB]
    rw [runCi]
    have h1 : stepCi D (.item s false) (UInt8.ofNat (m * 32 + v)) = headC s (.fin m v false) := by
      simp only [stepCi]
      rw [byte_eq _ (by omega), first_of hm (.inl (by omega)) hk hd]
      have := step_first m v (by omega) (by omega)
      rw [byte_eq _ (by omega), if_pos h] at this
      rw [this]
    rw [h1]
    simp only [runCi, List.append_nil]
  · exact hlong 0 (by decide) (by simp; omega)
  · exact hlong 1 (by decide) (by simp; omega)
  · exact hlong 2 (by decide) (by simp; omega)
  · exact hlong 3 (by decide) (by simp; omega)
theorem text_read (D : Nat) (s : List Bx) (m : Bool) : ∀ (l t : List UInt8) (u : Option (Nat × Nat × Nat)), l ≠ [] → (m = true → wholeS (runS u l) = true) → runCi D (.text s m l.length t u) l = putC s (evTxC m (t ++ l))
  | [], _, _, h, _ => absurd rfl h
  | b :: l, t, u, _, hw => by
    have hn : ¬ (m = true ∧ nextU m u b = none) := by
      rintro ⟨rfl, h⟩
      have := hw rfl
      simp only [nextU, if_true] at h
      rw [runS_cons, h, runS_none] at this
      cases this
    cases l with
    | nil =>
      have h2 : ¬ (m = true ∧ wholeS (nextU m u b) = false) := by
        rintro ⟨rfl, h⟩
        have := hw rfl
        simp only [nextU, if_true] at h
        rw [runS_cons, runS_nil, h] at this
        cases this
      have h1 : stepCi D (.text s m [b].length t u) b = putC s (evTxC m (t ++ [b])) := by
        simp only [stepCi]
        rw [if_neg hn, if_pos (by simp), if_neg h2]
      rw [runCi, h1]
      simp only [runCi, List.append_nil]
    | cons c l =>
      have h1 : stepCi D (.text s m (b :: c :: l).length t u) b = (.text s m (c :: l).length (t ++ [b]) (nextU m u b), []) := by
        simp only [stepCi]
        rw [if_neg hn, if_neg (by simp)]
        rfl
      rw [runCi, h1]
      simp only [List.nil_append]
      rw [text_read D s m (c :: l) (t ++ [b]) (nextU m u b) (by simp) (by rintro rfl; have := hw rfl; rw [runS_cons] at this; exact this)]
      simp
/-! ### A part -/
def itemOf (s : List Bx) (e : Ev) : List Bx := if e.k = 5 ∨ e.k = 6 then ⟨decide (e.k = 6), e.c, 0⟩ :: incB s else incB s
theorem item_read (D : Nat) (s : List Bx) (e : Ev) (hg : GoodK e) (h7 : e.k ≠ 7) (hk : keyB s = true → e.k = 3) (hd : e.k = 5 ∨ e.k = 6 → s.length < D) : runCi D (.item s false) (writeK s e) = (atC (itemOf s e), e :: endsC (itemOf s e)) := by
  obtain ⟨hkind, ht, hc, hm, htx⟩ := hg
  obtain ⟨k, y, m, t, c⟩ := e
  simp only at h7 hk hd hkind hc hm htx
  have hkf : k ≠ 3 → ¬ keyB s = true := fun h h' => h (hk h')
  have hcs : k = 0 ∨ k = 1 ∨ k = 2 ∨ k = 3 ∨ k = 4 ∨ k = 5 ∨ k = 6 := by omega
  rcases hcs with rfl | rfl | rfl | rfl | rfl | rfl | rfl
  · have he : (⟨0, y, m, t, c⟩ : Ev) = evNull := ht.symm
    rw [he]
    refine one_byte ?_
    simp only [stepCi, firstC]
    rw [if_neg (by decide), if_neg (by decide), if_neg (fun h => hkf (by decide) h.1), if_neg (by decide), if_pos (by decide), if_pos (by decide)]
    rfl
  · have he : (⟨1, y, m, t, c⟩ : Ev) = evBoolC y := ht.symm
    rw [he]
    cases y
    · refine one_byte (b := 244) ?_
      simp only [stepCi, firstC]
      rw [if_neg (by decide), if_neg (by decide), if_neg (fun h => hkf (by decide) h.1), if_neg (by decide), if_pos (by decide), if_neg (by decide), if_pos (by decide)]
      rfl
    · refine one_byte (b := 245) ?_
      simp only [stepCi, firstC]
      rw [if_neg (by decide), if_neg (by decide), if_neg (fun h => hkf (by decide) h.1), if_neg (by decide), if_pos (by decide), if_neg (by decide), if_pos (by decide)]
      rfl
  · have he : (⟨2, y, m, t, c⟩ : Ev) = evIntC y m := ht.symm
    rw [he]
    have hw : writeK s (evIntC y m) = headB (if y = true then 1 else 0) m := rfl
    rw [hw, head_read (by split <;> decide) hm (fun h => absurd h (hkf (by decide))) (by split <;> intro h <;> omega)]
    cases y <;> rfl
  · have he : (⟨3, y, m, t, c⟩ : Ev) = evTxC true t.data.toList := ht.symm
    have hw : writeK s ⟨3, y, m, t, c⟩ = headB 3 t.data.toList.length ++ t.data.toList := rfl
    rw [hw, runCi_append, head_read (by decide) (by omega) (fun _ => rfl) (fun h => by omega)]
    have hwh : wholeS (runS st0 t.data.toList) = true := by
      rw [← valid_run]
      exact htx.2 rfl
    rw [he]
    generalize t.data.toList = l at htx hwh
    by_cases hl : l = []
    · subst hl
      have h1 : headC s (.fin 3 ([] : List UInt8).length false) = putC s (evTxC true []) := by
        simp only [headC]
        rw [if_neg (by decide), if_pos (by decide), if_neg (by decide), if_neg (by decide), if_pos (by decide)]
        rfl
      rw [h1]
      simp only [runCi, List.append_nil]
      rfl
    · have hlen : l.length ≠ 0 := by simpa using hl
      have h1 : headC s (.fin 3 l.length false) = (.text s true l.length [] st0, []) := by
        simp only [headC]
        rw [if_neg (by decide), if_pos (by decide), if_neg (by decide), if_neg (by omega), if_neg hlen]
        rfl
      rw [h1]
      simp only [List.nil_append]
      rw [text_read D s true l [] st0 hl (fun _ => hwh)]
      rfl
  · have he : (⟨4, y, m, t, c⟩ : Ev) = evTxC false t.data.toList := ht.symm
    have hw : writeK s ⟨4, y, m, t, c⟩ = headB 2 t.data.toList.length ++ t.data.toList := rfl
    rw [hw, runCi_append, head_read (by decide) (by omega) (fun h => absurd h (hkf (by decide))) (fun h => by omega)]
    rw [he]
    generalize t.data.toList = l at htx
    by_cases hl : l = []
    · subst hl
      have h1 : headC s (.fin 2 ([] : List UInt8).length false) = putC s (evTxC false []) := by
        simp only [headC]
        rw [if_neg (by decide), if_pos (by decide), if_neg (by decide), if_neg (by decide), if_pos (by decide)]
        rfl
      rw [h1]
      simp only [runCi, List.append_nil]
      rfl
    · have hlen : l.length ≠ 0 := by simpa using hl
      have h1 : headC s (.fin 2 l.length false) = (.text s false l.length [] st0, []) := by
        simp only [headC]
        rw [if_neg (by decide), if_pos (by decide), if_neg (by decide), if_neg (by omega), if_neg hlen]
        rfl
      rw [h1]
      simp only [List.nil_append]
      rw [text_read D s false l [] st0 hl (fun h => by cases h)]
      rfl
  · have he : (⟨5, y, m, t, c⟩ : Ev) = evBegC false c := ht.symm
    rw [he]
    by_cases hneg : c < 0
    · obtain rfl : c = -1 := by omega
      refine one_byte (b := 159) ?_
      have h1 := first_of (D := D) (s := s) (m := 4) (l := 31) (by decide) (.inr ⟨rfl, by decide⟩) (fun h => absurd h (hkf (by decide))) (fun _ => hd (by decide))
      show firstC D s false 159 = _
      rw [h1]
      rfl
    · have hw : writeK s (evBegC false c) = headB 4 c.toNat := by
        show (if c < 0 then [159] else headB 4 c.toNat) = _
        rw [if_neg hneg]
      rw [hw, head_read (by decide) (by omega) (fun h => absurd h (hkf (by decide))) (fun _ => hd (by decide))]
      have h1 : headC s (.fin 4 c.toNat false) = beginC s false c := by
        simp only [headC]
        rw [if_neg (by decide), if_neg (by decide), if_neg (by decide), if_neg (by omega), Int.toNat_of_nonneg (by omega)]
        rfl
      rw [h1]
      rfl
  · have he : (⟨6, y, m, t, c⟩ : Ev) = evBegC true c := ht.symm
    rw [he]
    by_cases hneg : c < 0
    · obtain rfl : c = -1 := by omega
      refine one_byte (b := 191) ?_
      have h1 := first_of (D := D) (s := s) (m := 5) (l := 31) (by decide) (.inr ⟨rfl, by decide⟩) (fun h => absurd h (hkf (by decide))) (fun _ => hd (by decide))
      show firstC D s false 191 = _
      rw [h1]
      rfl
    · have hw : writeK s (evBegC true c) = headB 5 c.toNat := by
        show (if c < 0 then [191] else headB 5 c.toNat) = _
        rw [if_neg hneg]
      rw [hw, head_read (by decide) (by omega) (fun h => absurd h (hkf (by decide))) (fun _ => hd (by decide))]
      have h1 : headC s (.fin 5 c.toNat false) = beginC s true c := by
        simp only [headC]
        rw [if_neg (by decide), if_neg (by decide), if_neg (by decide), if_neg (by omega), Int.toNat_of_nonneg (by omega)]
        rfl
      rw [h1]
      rfl
/-! ### A whole document -/
def jC (s : List Bx) : Ci := if s = [] then .item [] false else atC s
theorem rest_full {b : Bx} {r : List Bx} (h : fullB b = true) : atC (b :: r) = atC r ∧ endsC (b :: r) = evEnd :: endsC r := by
  have h1 : restC (b :: r) = restC r := by simp only [restC]; rw [if_pos h]
  have h2 : numC (b :: r) = numC r + 1 := by simp only [numC]; rw [if_pos h]
  unfold atC endsC
  rw [h1, h2]
  exact ⟨rfl, rfl⟩
theorem rest_open {b : Bx} {r : List Bx} (h : ¬ fullB b = true) : atC (b :: r) = .item (b :: r) false ∧ endsC (b :: r) = [] := by
  have h1 : restC (b :: r) = b :: r := by simp only [restC]; rw [if_neg h]
  have h2 : numC (b :: r) = 0 := by simp only [numC]; rw [if_neg h]
  unfold atC endsC
  rw [h1, h2]
  exact ⟨rfl, rfl⟩
theorem good_end {e : Ev} (hg : GoodK e) (h7 : e.k = 7) : e = evEnd := by
  have ht := hg.tidy
  obtain ⟨k, y, m, t, c⟩ := e
  obtain rfl : k = 7 := h7
  exact ht.symm
theorem back_runK (D : Nat) : ∀ (l : List Ev) (s : List Bx), runC (.live s) l = .done → (∀ e ∈ l, GoodK e) → DeepW D s l → ∃ ps, runCi D (jC s) (writeAllK s l) = (.item [] true, ps) ∧ l = endsC s ++ ps
  | [], s, h, _, _ => by simp [runC] at h
  | e :: l, s, h, hg, hd => by
    have hge := hg e (by simp)
    have hgl : ∀ x ∈ l, GoodK x := fun x hx => hg x (by simp [hx])
    have hlast : ∀ s' : List Bx, stepC (.live s) e = ckS s' → s' ≠ [] → ∃ ps, runCi D (atC s') (writeAllK s' l) = (.item [] true, ps) ∧ l = endsC s' ++ ps := by
      intro s' hs hne
      have hs2 : stepC (.live s) e = .live s' := by rw [hs]; exact if_neg hne
      have hd2 := hd.2
      rw [runC_cons, hs2] at h
      rw [hs2] at hd2
      have := back_runK D l s' h hgl hd2
      unfold jC at this
      rwa [if_neg hne] at this
    have hall : ∀ s' : List Bx, stepC (.live s) e = ckS s' → writeAllK s (e :: l) = writeK s e ++ (if s' = [] then [] else writeAllK s' l) ∧ (s' = [] → l = []) := by
      intro s' hs
      have h2 := h
      rw [runC_cons, hs] at h2
      simp only [writeAllK]
      rw [hs]
      unfold ckS at h2 ⊢
      by_cases hne : s' = []
      · rw [if_pos hne] at h2 ⊢
        rw [if_pos hne]
        exact ⟨rfl, fun _ => runC_done h2⟩
      · rw [if_neg hne, if_neg hne]
        exact ⟨rfl, fun h => absurd h hne⟩
    by_cases h7 : e.k = 7
    · obtain rfl := good_end hge h7
      cases s with
      | nil =>
        rw [runC_cons, show stepC (.live []) evEnd = .bad 2 from rfl, runC_bad] at h
        cases h
      | cons b r =>
        have hns : ¬ shutB b := by
          intro hsb
          have : stepC (.live (b :: r)) evEnd = .bad 2 := by
            simp only [stepC]
            rw [if_neg (by decide), if_pos (by rfl), if_pos hsb]
          rw [runC_cons, this, runC_bad] at h
          cases h
        have hst := end_step (r := r) hns
        obtain ⟨hw, hl⟩ := hall r hst
        have hj : jC (b :: r) = atC (b :: r) := if_neg (by simp)
        rw [hw, hj]
        by_cases hf : fullB b = true
        · have hwk : writeK (b :: r) evEnd = [] := by
            show (if b.c < 0 then [255] else []) = _
            unfold fullB at hf
            rw [decide_eq_true_eq] at hf
            rw [if_neg (by omega)]
          obtain ⟨e1, e2⟩ := rest_full (r := r) hf
          rw [hwk, e1, e2, List.nil_append]
          by_cases hr : r = []
          · subst hr
            obtain rfl := hl rfl
            exact ⟨[], rfl, rfl⟩
          · rw [if_neg hr]
            obtain ⟨ps, h1, h2⟩ := hlast r hst hr
            exact ⟨ps, h1, by rw [List.cons_append, ← h2]⟩
        · have hc : b.c < 0 := by
            by_cases hc : 0 ≤ b.c
            · exact absurd (shut_full hns hc) hf
            · omega
          have hwk : writeK (b :: r) evEnd = [255] := by
            show (if b.c < 0 then [255] else []) = _
            rw [if_pos hc]
          obtain ⟨e1, e2⟩ := rest_open (r := r) hf
          rw [hwk, e1, e2, runCi_append]
          have h1 : runCi D (.item (b :: r) false) [255] = (atC r, evEnd :: endsC r) := by
            refine one_byte ?_
            show firstC D (b :: r) false 255 = _
            unfold firstC
            rw [if_neg (by decide), if_pos rfl]
            simp only
            rw [if_neg]
            rintro (h1 | h1)
            · omega
            · exact hns (.inr h1)
          rw [h1]
          simp only
          by_cases hr : r = []
          · subst hr
            obtain rfl := hl rfl
            exact ⟨[evEnd], rfl, rfl⟩
          · rw [if_neg hr]
            obtain ⟨ps, h1, h2⟩ := hlast r hst hr
            refine ⟨evEnd :: endsC r ++ ps, by rw [h1], ?_⟩
            rw [List.nil_append, List.cons_append, ← h2]
    · have hopen : jC s = .item s false ∧ endsC s = [] := by
        cases s with
        | nil => exact ⟨rfl, rfl⟩
        | cons b r =>
          have hj : jC (b :: r) = atC (b :: r) := if_neg (by simp)
          rw [hj]
          exact rest_open (fun hf => h7 (full_end hf h))
      have hbad : ∀ f, stepC (.live s) e ≠ .bad f := fun f hf => by
        rw [runC_cons, hf, runC_bad] at h
        cases h
      have hm : mayE e := by
        by_cases hm : mayE e
        · exact hm
        · exact absurd (by simp only [stepC]; rw [if_pos hm]) (hbad 2)
      have hkey : keyB s = true → e.k = 3 := by
        intro hk
        by_cases h3 : e.k = 3
        · exact h3
        · refine absurd ?_ (hbad 8)
          simp only [stepC]
          rw [if_neg (by simpa using hm), if_neg h7, if_pos ⟨hk, h3⟩]
      have hst : stepC (.live s) e = ckS (itemOf s e) := by
        have hb4 := hbad 4
        simp only [stepC] at hb4 ⊢
        rw [if_neg (by simpa using hm), if_neg h7, if_neg (fun h => h.2 (hkey h.1))] at hb4 ⊢
        unfold itemOf ckS
        by_cases h56 : e.k = 5 ∨ e.k = 6
        · rw [if_pos h56] at hb4 ⊢
          by_cases hl : 16 ≤ s.length
          · rw [if_pos hl] at hb4
            exact absurd rfl hb4
          · rw [if_neg hl, if_pos h56, if_neg (by simp)]
        · rw [if_neg h56, if_neg h56]
          cases s <;> rfl
      obtain ⟨hw, hl⟩ := hall _ hst
      rw [hw, hopen.1, hopen.2, runCi_append, item_read D s e hge h7 hkey hd.1]
      simp only
      by_cases hr : itemOf s e = []
      · rw [if_pos hr, hr]
        obtain rfl := hl hr
        exact ⟨[e], rfl, rfl⟩
      · rw [if_neg hr]
        obtain ⟨ps, h1, h2⟩ := hlast _ hst hr
        refine ⟨e :: endsC (itemOf s e) ++ ps, by rw [h1], ?_⟩
        rw [List.nil_append, List.cons_append, ← h2]
/-- WHAT IS WRITTEN AS CBOR IS READ AS IT WAS. -/
theorem back_allK (D : Nat) (l : List Ev) (hc : checkE l = 0) (hg : ∀ e ∈ l, GoodK e) (hd : DeepW D [] l) : allCi D (writeAllK [] l) = (l, 0) := by
  obtain ⟨ps, h1, h2⟩ := back_runK D l [] (check_zero hc) hg hd
  unfold allCi
  rw [show ci0 = jC [] from rfl, h1, h2]
  rfl
theorem back_endK (D : Nat) (l : List Ev) (hc : checkE l = 0) (hg : ∀ e ∈ l, GoodK e) (hd : DeepW D [] l) : runCi D ci0 (writeAllK [] l) = (.item [] true, l) := by
  obtain ⟨ps, h1, h2⟩ := back_runK D l [] (check_zero hc) hg hd
  rw [show ci0 = jC [] from rfl, h1, h2]
  rfl
/-- Behind the end nothing more may come. -/
theorem shut_run (D : Nat) (s : List Bx) (b : UInt8) (l : List UInt8) : runCi D (.item s true) (b :: l) = (.bad 2, []) := by
  have h : stepCi D (.item s true) b = (.bad 2, []) := by
    simp only [stepCi, firstC]
    rw [if_pos (.inl trivial)]
  rw [runCi, h]
  simp only [runCi_bad, List.append_nil]
theorem more_allK (D : Nat) (l : List Ev) (hc : checkE l = 0) (hg : ∀ e ∈ l, GoodK e) (hd : DeepW D [] l) (b : UInt8) (t : List UInt8) : allCi D (writeAllK [] l ++ b :: t) = (l, 2) := by
  unfold allCi
  rw [runCi_append, back_endK D l hc hg hd]
  simp only
  rw [shut_run, List.append_nil]
  rfl
/-- A document that is cut anywhere is not at its end. -/
theorem cut_allK (D : Nat) (l : List Ev) (hc : checkE l = 0) (hg : ∀ e ∈ l, GoodK e) (hd : DeepW D [] l) (i : Nat) (hi : i < (writeAllK [] l).length) : (allCi D ((writeAllK [] l).take i)).2 = 3 := by
  have h := back_endK D l hc hg hd
  rw [← List.take_append_drop i (writeAllK [] l), runCi_append, List.drop_eq_getElem_cons hi] at h
  unfold allCi
  simp only
  generalize (runCi D ci0 ((writeAllK [] l).take i)).1 = j at h
  cases j with
  | bad e =>
    rw [runCi_bad] at h
    cases h
  | item s dn =>
    cases dn with
    | true =>
      rw [shut_run] at h
      cases h
    | false => rfl
  | head _ _ => rfl
  | text _ _ _ _ _ => rfl
  | open_ _ _ _ => rfl
  | chead _ _ _ _ => rfl
  | ctext _ _ _ _ _ => rfl
theorem write_someK (D : Nat) (l : List Ev) (hc : checkE l = 0) (hg : ∀ e ∈ l, GoodK e) (hd : DeepW D [] l) : writeAllK [] l ≠ [] := by
  intro hn
  have h := back_endK D l hc hg hd
  rw [hn] at h
  cases h
/-! ### As far as it is written -/
theorem writeK_snoc : ∀ (l : List Ev) (s s' : List Bx) (e : Ev), runC (.live s) l = .live s' → writeAllK s (l ++ [e]) = writeAllK s l ++ writeK s' e
  | [], s, s', e, h => by
    have : Ck.live s = Ck.live s' := h
    obtain rfl : s = s' := by cases this; rfl
    simp only [List.nil_append, writeAllK]
    cases stepC (.live s) e <;> simp
  | x :: l, s, s', e, h => by
    rw [runC_cons] at h
    simp only [List.cons_append, writeAllK]
    cases hx : stepC (.live s) x with
    | bad f => rw [hx, runC_bad] at h; cases h
    | done =>
      rw [hx] at h
      cases l with
      | nil => cases h
      | cons y l => rw [runC_cons] at h; simp only [stepC] at h; rw [runC_bad] at h; cases h
    | live s1 =>
      rw [hx] at h
      simp only [writeK_snoc l s1 s' e h, List.append_assoc]
theorem writeK_take {l : List Ev} {j : Nat} (hj : j < l.length) {s : List Bx} (h : runC (.live []) (l.take j) = .live s) : writeAllK [] (l.take (j + 1)) = writeAllK [] (l.take j) ++ writeK s l[j] := by
  rw [List.take_add_one, List.getElem?_eq_getElem hj]
  exact writeK_snoc _ _ _ _ h
end Go.Proofs.Ytonjdnahplphhaa
/-
  NO PROGRAM NEEDED: CBOR written part by part, whether a part may be or not: the bytes of each (writeK of CinBack), the error, whether the document is at its end.
-/
namespace Go.Proofs.Ytonjdnahplphhaa
open Go.Lib
/-- What is written: the open containers, whether all is at its end. -/
structure Kq where
  s : List Bx
  dn : Bool
/-- No further part may come within it: all that its count says are there. -/
def fulT : List Bx → Bool
  | [] => false
  | b :: _ => decide (0 ≤ b.c ∧ (if b.map = true then 2 * b.c else b.c) ≤ (b.have_ : Int))
def stepQ (o : Kq) (e : Ev) : (List UInt8 × Nat) × Kq :=
  if ¬ mayE e ∨ o.dn = true then (([], 14), o)
  else if e.k = 7 then
    match o.s with
    | [] => (([], 14), o)
    | b :: r => if shutB b then (([], 14), o) else ((writeK (b :: r) e, 0), ⟨r, r.isEmpty⟩)
  else if fulT o.s = true then (([], 14), o)
  else if keyB o.s = true ∧ e.k ≠ 3 then (([], 8), o)
  else if e.k = 5 ∨ e.k = 6 then ((writeK o.s e, 0), ⟨⟨decide (e.k = 6), e.c, 0⟩ :: incB o.s, false⟩)
  else ((writeK o.s e, 0), ⟨incB o.s, o.s.isEmpty⟩)
theorem stepQ_bad (o : Kq) (e : Ev) (h : ¬ mayE e ∨ o.dn = true) : stepQ o e = (([], 14), o) := if_pos h
theorem stepQ_end {b : Bx} {r : List Bx} {e : Ev} (hm : mayE e) (h7 : e.k = 7) (h : ¬ shutB b) : stepQ ⟨b :: r, false⟩ e = ((writeK (b :: r) e, 0), ⟨r, r.isEmpty⟩) := by
  unfold stepQ
  rw [if_neg (by simp [hm]), if_pos h7]
  simp only
  rw [if_neg h]
theorem stepQ_shut {b : Bx} {r : List Bx} {e : Ev} (hm : mayE e) (h7 : e.k = 7) (h : shutB b) : stepQ ⟨b :: r, false⟩ e = (([], 14), ⟨b :: r, false⟩) := by
  unfold stepQ
  rw [if_neg (by simp [hm]), if_pos h7]
  simp only
  rw [if_pos h]
theorem stepQ_none {e : Ev} (hm : mayE e) (h7 : e.k = 7) : stepQ ⟨[], false⟩ e = (([], 14), ⟨[], false⟩) := by
  unfold stepQ
  rw [if_neg (by simp [hm]), if_pos h7]
theorem stepQ_full {s : List Bx} {e : Ev} (hm : mayE e) (h7 : e.k ≠ 7) (hf : fulT s = true) : stepQ ⟨s, false⟩ e = (([], 14), ⟨s, false⟩) := by
  unfold stepQ
  rw [if_neg (by simp [hm]), if_neg h7, if_pos hf]
theorem stepQ_key {s : List Bx} {e : Ev} (hm : mayE e) (h7 : e.k ≠ 7) (hf : fulT s = false) (hk : keyB s = true) (h3 : e.k ≠ 3) : stepQ ⟨s, false⟩ e = (([], 8), ⟨s, false⟩) := by
  unfold stepQ
  rw [if_neg (by simp [hm]), if_neg h7, if_neg (by simp [hf]), if_pos ⟨hk, h3⟩]
theorem stepQ_open {s : List Bx} {e : Ev} (hm : mayE e) (h56 : e.k = 5 ∨ e.k = 6) (hf : fulT s = false) (hk : keyB s = false) : stepQ ⟨s, false⟩ e = ((writeK s e, 0), ⟨⟨decide (e.k = 6), e.c, 0⟩ :: incB s, false⟩) := by
  unfold stepQ
  rw [if_neg (by simp [hm]), if_neg (by omega), if_neg (by simp [hf]), if_neg (by simp [hk]), if_pos h56]
theorem stepQ_val {s : List Bx} {e : Ev} (hm : mayE e) (h7 : e.k ≠ 7) (h56 : ¬ (e.k = 5 ∨ e.k = 6)) (hf : fulT s = false) (hk : ¬ (keyB s = true ∧ e.k ≠ 3)) : stepQ ⟨s, false⟩ e = ((writeK s e, 0), ⟨incB s, s.isEmpty⟩) := by
  unfold stepQ
  rw [if_neg (by simp [hm]), if_neg h7, if_neg (by simp [hf]), if_neg hk, if_neg h56]
/-- All parts, one by one: the bytes ahead of the first error; the error; ErrArg of what is no part. -/
def allQ : Kq → List Ev → List UInt8 × Nat
  | o, [] => ([], if o.dn = true then 0 else 3)
  | o, e :: l => if ¬ mayE e then ([], 1) else if (stepQ o e).1.2 ≠ 0 then ([], (stepQ o e).1.2) else ((stepQ o e).1.1 ++ (allQ (stepQ o e).2 l).1, (allQ (stepQ o e).2 l).2)
theorem allQ_cons_bad {o : Kq} {e : Ev} {l : List Ev} (h : ¬ mayE e) : allQ o (e :: l) = ([], 1) := by simp only [allQ]; rw [if_pos h]
theorem allQ_cons_err {o : Kq} {e : Ev} {l : List Ev} (hm : mayE e) (h : (stepQ o e).1.2 ≠ 0) : allQ o (e :: l) = ([], (stepQ o e).1.2) := by simp only [allQ]; rw [if_neg (by simpa using hm), if_pos h]
theorem allQ_cons_ok {o : Kq} {e : Ev} {l : List Ev} (hm : mayE e) (h : (stepQ o e).1.2 = 0) : allQ o (e :: l) = ((stepQ o e).1.1 ++ (allQ (stepQ o e).2 l).1, (allQ (stepQ o e).2 l).2) := by
  simp only [allQ]
  rw [if_neg (by simpa using hm), if_neg (by simp [h])]
/-- The writer's state by Check's. -/
def ckQ : Ck → Kq
  | .live s => ⟨s, false⟩
  | _ => ⟨[], true⟩
/-- A part of a document that is one: nothing is full ahead of it. -/
theorem full_not {s : List Bx} {e : Ev} {l : List Ev} (h : runC (.live s) (e :: l) = .done) (h7 : e.k ≠ 7) : fulT s = false := by
  cases s with
  | nil => rfl
  | cons b r =>
    unfold fulT
    rw [decide_eq_false_iff_not]
    rintro ⟨hc, hw⟩
    by_cases h2 : (b.have_ : Int) = if b.map = true then 2 * b.c else b.c
    · have hf : fullB b = true := by
        unfold fullB
        rw [decide_eq_true_eq]
        exact ⟨hc, h2⟩
      exact absurd (full_end hf h) h7
    · exact absurd h (over_bad _ _ ⟨b, List.mem_cons_self, hc, by omega⟩)
/-- A part of a document that is one is written. -/
theorem step_ckQ {s : List Bx} {e : Ev} {l : List Ev} (h : runC (.live s) (e :: l) = .done) : mayE e ∧ stepQ ⟨s, false⟩ e = ((writeK s e, 0), ckQ (stepC (.live s) e)) := by
  have hb : ∀ f, stepC (.live s) e ≠ .bad f := fun f hf => by
    rw [runC_cons, hf, runC_bad] at h
    cases h
  have hm : mayE e := by
    by_cases hm : mayE e
    · exact hm
    · exact absurd (by simp only [stepC]; rw [if_pos hm]) (hb 2)
  refine ⟨hm, ?_⟩
  by_cases h7 : e.k = 7
  · cases s with
    | nil => exact absurd (by simp only [stepC]; rw [if_neg (by simpa using hm), if_pos h7]) (hb 2)
    | cons b r =>
      have hs : stepC (.live (b :: r)) e = if shutB b then .bad 2 else if r = [] then .done else .live r := by simp only [stepC]; rw [if_neg (by simpa using hm), if_pos h7]
      have hns : ¬ shutB b := fun hh => hb 2 (by rw [hs, if_pos hh])
      rw [hs, if_neg hns, stepQ_end hm h7 hns]
      cases r with
      | nil => rfl
      | cons x q => rw [if_neg (by simp)]; rfl
  · have hf := full_not h h7
    have hk : ¬ (keyB s = true ∧ e.k ≠ 3) := fun hh => hb 8 (by simp only [stepC]; rw [if_neg (by simpa using hm), if_neg h7, if_pos hh])
    by_cases h56 : e.k = 5 ∨ e.k = 6
    · have hkf : keyB s = false := by
        cases hq : keyB s with
        | false => rfl
        | true => exact absurd ⟨hq, by omega⟩ hk
      have hs : stepC (.live s) e = if 16 ≤ s.length then .bad 4 else .live (⟨decide (e.k = 6), e.c, 0⟩ :: incB s) := by simp only [stepC]; rw [if_neg (by simpa using hm), if_neg h7, if_neg hk, if_pos h56]
      have hd : ¬ 16 ≤ s.length := fun hh => hb 4 (by rw [hs, if_pos hh])
      rw [hs, if_neg hd, stepQ_open hm h56 hf hkf]
      rfl
    · have hs : stepC (.live s) e = if s = [] then .done else .live (incB s) := by simp only [stepC]; rw [if_neg (by simpa using hm), if_neg h7, if_neg hk, if_neg h56]
      rw [hs, stepQ_val hm h7 h56 hf hk]
      cases s with
      | nil => rfl
      | cons x q => rw [if_neg (by simp)]; rfl
theorem run_endedQ {l : List Ev} (h : runC .done l = .done) : l = [] := by
  cases l with
  | nil => rfl
  | cons e l =>
    have : runC .done (e :: l) = runC (.bad 2) l := rfl
    rw [this, runC_bad] at h
    cases h
/-- A DOCUMENT IS WRITTEN WHOLE. -/
theorem all_ckQ : ∀ (l : List Ev) (s : List Bx), runC (.live s) l = .done → allQ ⟨s, false⟩ l = (writeAllK s l, 0)
  | [], s, h => by cases h
  | e :: l, s, h => by
    obtain ⟨hm, h1⟩ := step_ckQ h
    rw [allQ_cons_ok hm (by rw [h1]), h1]
    rw [runC_cons] at h
    simp only [writeAllK]
    cases hc : stepC (.live s) e with
    | bad f => rw [hc, runC_bad] at h; cases h
    | live s' =>
      rw [hc] at h
      simp only [ckQ]
      rw [all_ckQ l s' h]
    | done =>
      rw [hc] at h
      rw [run_endedQ h]
      simp [ckQ, allQ]
/-- A container of a count: what it takes (CboroutCounts), by so many texts. -/
theorem counts_text {m : Bool} {N i : Nat} {e : Ev} (he : mayE e) (h3 : e.k = 3) : stepQ ⟨[⟨m, N, i⟩], false⟩ e = if i < (if m = true then 2 * N else N) then ((writeK [⟨m, N, i⟩] e, 0), ⟨[⟨m, N, i + 1⟩], false⟩) else (([], 14), ⟨[⟨m, N, i⟩], false⟩) := by
  by_cases h : i < (if m = true then 2 * N else N)
  · rw [if_pos h, stepQ_val he (by omega) (by omega) (by cases m <;> simp [fulT] at h ⊢ <;> omega) (fun hh => hh.2 h3)]
    rfl
  · rw [if_neg h, stepQ_full he (by omega) (by cases m <;> simp [fulT] at h ⊢ <;> omega)]
theorem counts_end {m : Bool} {N i : Nat} (hi : i ≤ (if m = true then 2 * N else N)) : stepQ ⟨[⟨m, N, i⟩], false⟩ evEnd = if i = (if m = true then 2 * N else N) then (([], 0), ⟨[], true⟩) else (([], 14), ⟨[⟨m, N, i⟩], false⟩) := by
  have he : mayE evEnd := by decide
  by_cases h : i = (if m = true then 2 * N else N)
  · rw [if_pos h, stepQ_end he rfl]
    · have : writeK [⟨m, (N : Int), i⟩] evEnd = [] := by simp only [writeK, evEnd]; simp
      rw [this]; rfl
    · rintro (⟨_, h2⟩ | ⟨h1, h2⟩)
      · apply h2; cases m <;> simp at h ⊢ <;> omega
      · simp only at h1 h2; subst h1; simp at h; omega
  · rw [if_neg h, stepQ_shut he rfl]
    refine .inl ⟨by simp, ?_⟩
    cases m <;> simp at h ⊢ <;> omega
end Go.Proofs.Ytonjdnahplphhaa
/-
  NO PROGRAM NEEDED: what chapter 13 asks of CBOR's reader, over the machine of CinPure: whatever byte comes first; keys; long heads; depths; counts.
-/
namespace Go.Proofs.Ytonjdnahplphhaa
open Go.Lib
/-- The error behind a byte. -/
def errCi : Ci → Nat
  | .bad e => e
  | _ => 0
theorem err_bad {s : Ci} (h : errCi s ≠ 0) : ∃ e, s = .bad e ∧ e ≠ 0 := by
  cases s with
  | bad e => exact ⟨e, rfl, h⟩
  | _ => exact absurd rfl h
/-- Behind an error all is that error: where a run ends well, it went well. -/
theorem err_take (D : Nat) (s : Ci) (l : List UInt8) (h : errCi (runCi D s l).1 = 0) (i : Nat) : errCi (runCi D s (l.take i)).1 = 0 := by
  by_cases h0 : errCi (runCi D s (l.take i)).1 = 0
  · exact h0
  · obtain ⟨e, he, hne⟩ := err_bad h0
    have hl : runCi D s l = runCi D s (l.take i ++ l.drop i) := by rw [List.take_append_drop]
    rw [hl, runCi_append, he, runCi_bad] at h
    exact absurd h hne
/-! ### Whatever byte -/
def wantO (b : Nat) (i : Bool) : Nat :=
  if (28 ≤ b % 32 ∧ b % 32 ≤ 30) ∨ (b % 32 = 31 ∧ (b / 32 < 2 ∨ b / 32 = 6)) then 2 else if b = 255 then (if i = true then 0 else 2) else if b / 32 = 6 then 8 else if b / 32 = 7 ∧ 25 ≤ b % 32 ∧ b % 32 ≤ 27 then 6
  else if b / 32 = 7 ∧ (b % 32 < 20 ∨ 22 < b % 32) then 8 else 0
theorem others_all : ∀ (b : Fin 256) (i : Bool), errCi (stepCi 4 (runCi 4 ci0 (if i = true then [159, 1] else [])).1 (UInt8.ofNat b.val)).1 = wantO b.val i := by decide +kernel
def wantK (b : Nat) (o : Bool) : Nat :=
  if (28 ≤ b % 32 ∧ b % 32 ≤ 30) ∨ (b % 32 = 31 ∧ (b / 32 < 2 ∨ b / 32 = 6)) then 2 else if b = 255 then (if o = true then 0 else 2) else if b / 32 ≠ 3 then 8 else 0
theorem keys_all : ∀ (b : Fin 256) (o : Bool), errCi (stepCi 4 (stepCi 4 ci0 (if o = true then 191 else 161)).1 (UInt8.ofNat b.val)).1 = wantK b.val o := by decide +kernel
theorem keys_more : (allCi 4 [191, 97, 97, 255]).2 = 2 := by decide +kernel
/-! ### Heads that are longer than they must be -/
theorem long_read {D : Nat} {s : List Bx} {m v k : Nat} (hm : m < 6) (hk4 : k < 4) (hvk : v < 256 ^ 2 ^ k) (hk : keyB s = true → m = 3) (hd : 4 ≤ m → s.length < D) :
    runCi D (.item s false) (UInt8.ofNat (m * 32 + (24 + k)) :: bigB (2 ^ k) v) = headC s (.fin m v false) := by
  have h1 : stepCi D (.item s false) (UInt8.ofNat (m * 32 + (24 + k))) = (.head s (.mid m (2 ^ k) 0), []) := by
    simp only [stepCi]
    rw [byte_eq _ (by omega), first_of hm (.inl (by omega)) hk hd]
    have := step_first m (24 + k) (by omega) (by omega)
    rw [byte_eq _ (by omega)] at this
    rw [this, if_neg (by omega), if_pos (by omega), show 24 + k - 24 = k by omega]
    rfl
  rw [runCi, h1]
  simp only [List.nil_append]
  have h2 := head_mid D s m (bigB (2 ^ k) v) 0 (by intro h; have := congrArg List.length h; rw [bigB_length] at this; simp at this)
  rw [bigB_length, valB_big, Nat.mod_eq_of_lt hvk] at h2
  rw [h2]
theorem wide_all (y : Bool) (v k : Nat) (hk : k < 4) (hv : v < 256 ^ 2 ^ k) : allCi 1 (UInt8.ofNat ((if y = true then 1 else 0) * 32 + (24 + k)) :: bigB (2 ^ k) v) = ([evIntC y v], 0) := by
  unfold allCi ci0
  rw [long_read (by split <;> omega) hk hv (by simp [keyB]) (by intro h; split at h <;> omega)]
  cases y <;> rfl
/-! ### Depths -/
def stkD : Nat → List Bx
  | 0 => []
  | n + 1 => ⟨false, 1, 0⟩ :: incB (stkD n)
theorem stkD_len (n : Nat) : (stkD n).length = n := by
  induction n with
  | zero => rfl
  | succ n ih =>
    rw [stkD, List.length_cons]
    have : (incB (stkD n)).length = (stkD n).length := by cases stkD n <;> rfl
    omega
theorem stkD_inc : ∀ n : Nat, incB (stkD n) = List.replicate n ⟨false, 1, 1⟩
  | 0 => rfl
  | n + 1 => by
    rw [stkD, List.replicate_succ, ← stkD_inc n]
    rfl
theorem stkD_key (n : Nat) : keyB (stkD n) = false := by cases n <;> rfl
theorem deep_step (D n : Nat) (h : n < D) : stepCi D (.item (stkD n) false) 129 = (.item (stkD (n + 1)) false, [evBegC false 1]) := by
  have h1 : (129 : UInt8).toNat = 4 * 32 + 1 := rfl
  simp only [stepCi]
  rw [h1, first_of (by omega) (.inl (by omega)) (by rw [stkD_key]; intro h; cases h) (by intro _; rw [stkD_len]; exact h)]
  have h2 : stepH .new (4 * 32 + 1) = .fin 4 1 false := rfl
  rw [h2]
  have hf : fullB ⟨false, 1, 0⟩ = false := by decide
  simp only [headC, beginC, atC, restC, endsC, numC]
  rfl
theorem deep_stop (D n : Nat) (h : D ≤ n) : stepCi D (.item (stkD n) false) 129 = (.bad 4, []) := by
  simp only [stepCi]
  have h1 : (129 : UInt8).toNat = 129 := rfl
  rw [h1]
  unfold firstC
  rw [if_neg (by simp), if_neg (by omega), if_neg (by rw [stkD_key]; simp), if_neg (by omega), if_neg (by omega), if_pos ⟨.inl (by omega), by rw [stkD_len]; exact h⟩]
theorem deep_run (D : Nat) : ∀ n, n ≤ D → runCi D ci0 (List.replicate n 129) = (.item (stkD n) false, List.replicate n (evBegC false 1))
  | 0, _ => rfl
  | n + 1, h => by
    rw [List.replicate_succ', runCi_append, deep_run D n (by omega)]
    have := deep_step D n (by omega)
    simp only [runCi, this, List.append_nil]
    rw [List.replicate_succ']
theorem full_run : ∀ n : Nat, restC (List.replicate n ⟨false, 1, 1⟩) = [] ∧ numC (List.replicate n (⟨false, 1, 1⟩ : Bx)) = n
  | 0 => ⟨rfl, rfl⟩
  | n + 1 => by
    have hf : fullB ⟨false, 1, 1⟩ = true := by decide
    obtain ⟨h1, h2⟩ := full_run n
    rw [List.replicate_succ]
    simp only [restC, numC, hf, if_true]
    exact ⟨h1, by rw [h2]⟩
theorem deep_all (D n : Nat) (h : n ≤ D) : allCi D (List.replicate n 129 ++ [5]) = (List.replicate n (evBegC false 1) ++ evIntC false 5 :: List.replicate n evEnd, 0) := by
  have h5 : stepCi D (.item (stkD n) false) 5 = (.item [] true, evIntC false 5 :: List.replicate n evEnd) := by
    have h1 : (5 : UInt8).toNat = 0 * 32 + 5 := rfl
    simp only [stepCi]
    rw [h1, first_of (by omega) (.inl (by omega)) (by rw [stkD_key]; intro h; cases h) (by intro h; omega)]
    have h2 : stepH .new (0 * 32 + 5) = .fin 0 5 false := rfl
    rw [h2]
    obtain ⟨h3, h4⟩ := full_run n
    simp only [headC, putC, atC, endsC, stkD_inc, h3, h4]
    rfl
  unfold allCi
  rw [runCi_append, deep_run D n h]
  simp only [runCi, h5, List.append_nil]
  rfl
theorem deep_more (D n : Nat) (h : D < n) (t : List UInt8) : allCi D (List.replicate n 129 ++ t) = (List.replicate D (evBegC false 1), 4) := by
  have hs : List.replicate n (129 : UInt8) = List.replicate D 129 ++ 129 :: List.replicate (n - D - 1) 129 := by
    rw [← List.replicate_succ, List.replicate_append_replicate]
    congr 1
    omega
  unfold allCi
  rw [hs, List.append_assoc, runCi_append, deep_run D D (Nat.le_refl _)]
  simp only [List.cons_append, runCi, deep_stop D D (Nat.le_refl _), runCi_bad, List.append_nil]
  rfl
/-! ### Counts -/
def doneCi : Ci → Bool
  | .item [] true => true
  | _ => false
theorem head_cont {s : List Bx} {m v : Nat} (hm : m = 4 ∨ m = 5) (hv : v ≤ 1000000) : headC s (.fin m v false) = beginC s (decide (m = 5)) v := by
  unfold headC
  simp only
  rw [if_neg (by omega), if_neg (by omega), if_neg (by simp), if_neg (by omega)]
theorem head_great {s : List Bx} {m v : Nat} (hm : m = 4 ∨ m = 5) (hv : 1000000 < v) : headC s (.fin m v false) = (.bad 7, []) := by
  unfold headC
  simp only
  rw [if_neg (by omega), if_neg (by omega), if_neg (by simp), if_pos hv]
theorem begin_some (m : Bool) (n : Nat) (h0 : n ≠ 0) : beginC [] m n = (.item [⟨m, n, 0⟩] false, [evBegC m n]) := by
  have hf : fullB ⟨m, n, 0⟩ = false := by
    unfold fullB
    rw [decide_eq_false_iff_not]
    rintro ⟨_, h⟩
    cases m <;> simp at h <;> omega
  simp only [beginC, atC, restC, endsC, numC, incB, hf]
  rfl
theorem count_head (m : Bool) (n : Nat) (hn : n ≤ 1000000) : runCi 2 ci0 (headB (if m = true then 5 else 4) n) = (if n = 0 then (.item [] true, [evBegC m 0, evEnd]) else (.item [⟨m, n, 0⟩] false, [evBegC m n])) := by
  unfold ci0
  rw [head_read (by split <;> omega) (by omega) (by simp [keyB]) (by simp), head_cont (by split <;> omega) hn]
  have hm : decide ((if m = true then 5 else 4) = 5) = m := by cases m <;> rfl
  rw [hm]
  by_cases h0 : n = 0
  · subst h0
    cases m <;> rfl
  · rw [if_neg h0, begin_some m n h0]
theorem count_item (m : Bool) (n i : Nat) (_hn : 0 < n) (hi : i < (if m = true then 2 * n else n)) : stepCi 2 (.item [⟨m, n, i⟩] false) 96 = if i + 1 = (if m = true then 2 * n else n) then (.item [] true, [evTxC true [], evEnd]) else (.item [⟨m, n, i + 1⟩] false, [evTxC true []]) := by
  have h1 : (96 : UInt8).toNat = 3 * 32 + 0 := rfl
  simp only [stepCi]
  rw [h1, first_of (by omega) (.inl (by omega)) (fun _ => rfl) (by intro h; omega)]
  have h2 : stepH .new (3 * 32 + 0) = .fin 3 0 false := rfl
  rw [h2]
  have hf : fullB ⟨m, n, i + 1⟩ = decide (i + 1 = (if m = true then 2 * n else n)) := by
    unfold fullB
    rw [Bool.eq_iff_iff, decide_eq_true_iff, decide_eq_true_iff]
    cases m <;> simp <;> omega
  simp only [headC, putC, incB, atC, restC, endsC, numC, hf]
  by_cases h : i + 1 = (if m = true then 2 * n else n)
  · rw [if_pos h, decide_eq_true h]
    rfl
  · rw [if_neg h, decide_eq_false h]
    rfl
theorem count_great (m : Bool) (g : Nat) (hg : g < 18446744073709551616) : (allCi 2 (headB (if m = true then 5 else 4) g)).2 = if g = 0 then 0 else if 1000000 < g then 7 else 3 := by
  by_cases h : 1000000 < g
  · have e : (if g = 0 then 0 else if 1000000 < g then 7 else 3) = 7 := by rw [if_neg (by omega), if_pos h]
    rw [e]
    unfold allCi ci0
    rw [head_read (by split <;> omega) hg (by simp [keyB]) (by simp), head_great (by split <;> omega) h]
    rfl
  · unfold allCi
    rw [count_head m g (by omega)]
    by_cases h0 : g = 0
    · rw [if_pos h0, if_pos h0]
      rfl
    · rw [if_neg h0, if_neg h0, if_neg h]
      rfl
end Go.Proofs.Ytonjdnahplphhaa
/-
  NO PROGRAM NEEDED: what chapter 13 asks of CBOR's reader, over the machine of CinPure: texts, byte by byte; chunks.
-/
namespace Go.Proofs.Ytonjdnahplphhaa
open Go.Lib
theorem head_part (D : Nat) (s : List Bx) (m : Nat) : ∀ (l : List UInt8) (a i : Nat), i < l.length → ∃ a', runCi D (.head s (.mid m l.length a)) (l.take i) = (.head s (.mid m (l.length - i) a'), [])
  | [], _, _, h => absurd h (Nat.not_lt_zero _)
  | _ :: _, a, 0, _ => ⟨a, rfl⟩
  | b :: t, a, i + 1, h => by
    have ht : t ≠ [] := by rintro rfl; simp at h
    have h1 : stepCi D (.head s (.mid m (b :: t).length a)) b = (.head s (.mid m t.length (a * 256 + b.toNat)), []) := by
      simp only [stepCi, stepH]
      have : (b :: t).length ≠ 1 := by cases t <;> simp_all
      rw [if_neg this]
      simp [headC]
    obtain ⟨a', ha⟩ := head_part D s m t (a * 256 + b.toNat) i (by simpa using h)
    refine ⟨a', ?_⟩
    rw [List.take_succ_cons, runCi, h1]
    simp only [List.nil_append, ha]
    rw [show (b :: t).length - (i + 1) = t.length - i by simp]
/-- Within an item's head. -/
theorem head_pre {D : Nat} {s : List Bx} {m v : Nat} (hm : m < 6) (hv : v < 18446744073709551616) (hk : keyB s = true → m = 3) (hd : 4 ≤ m → s.length < D) (i : Nat) (hi : i < (headB m v).length) :
    ∃ j, runCi D (.item s false) ((headB m v).take i) = (j, []) ∧ errCi j = 0 ∧ heldCi j = s.length := by
  cases i with
  | zero => exact ⟨_, rfl, rfl, rfl⟩
  | succ i =>
    have hlong : ∀ k : Nat, k < 4 → i + 1 < 1 + 2 ^ k → ∃ j, runCi D (.item s false) ((UInt8.ofNat (m * 32 + (24 + k)) :: bigB (2 ^ k) v).take (i + 1)) = (j, []) ∧ errCi j = 0 ∧ heldCi j = s.length := by
      intro k hk4 hik
      have h1 : stepCi D (.item s false) (UInt8.ofNat (m * 32 + (24 + k))) = (.head s (.mid m (2 ^ k) 0), []) := by
        simp only [stepCi]
        rw [byte_eq _ (by omega), first_of hm (.inl (by omega)) hk hd]
        have := step_first m (24 + k) (by omega) (by omega)
        rw [byte_eq _ (by omega)] at this
        rw [this, if_neg (by omega), if_pos (by omega), show 24 + k - 24 = k by omega]
        rfl
      obtain ⟨a', ha⟩ := head_part D s m (bigB (2 ^ k) v) 0 i (by rw [bigB_length]; omega)
      rw [bigB_length] at ha
      refine ⟨.head s (.mid m (2 ^ k - i) a'), ?_, rfl, rfl⟩
      rw [List.take_succ_cons, runCi, h1]
      simp only [List.nil_append, ha]
    rw [headB_length] at hi
    unfold headB
    rcases sizH_cases v hv with ⟨h, e⟩ | ⟨h, e⟩ | ⟨h, e⟩ | ⟨h, e⟩ | ⟨h, e⟩ <;> rw [e] at hi ⊢
    · simp at hi
    · exact hlong 0 (by decide) (by simpa using hi)
    · exact hlong 1 (by decide) (by simpa using hi)
    · exact hlong 2 (by decide) (by simpa using hi)
    · exact hlong 3 (by decide) (by simpa using hi)
/-- Within a text. -/
theorem text_pre (D : Nat) (s : List Bx) (m : Bool) : ∀ (l t : List UInt8) (u : Option (Nat × Nat × Nat)) (i : Nat), i < l.length → (m = true → wholeS (runS u l) = true) → ∃ u', runCi D (.text s m l.length t u) (l.take i) = (.text s m (l.length - i) (t ++ l.take i) u', [])
  | [], _, _, _, h, _ => absurd h (Nat.not_lt_zero _)
  | _ :: _, t, u, 0, _, _ => ⟨u, by simp [runCi]⟩
  | b :: l, t, u, i + 1, h, hw => by
    have hn : ¬ (m = true ∧ nextU m u b = none) := by
      rintro ⟨rfl, h⟩
      have := hw rfl
      simp only [nextU, if_true] at h
      rw [runS_cons, h, runS_none] at this
      cases this
    have hl : (b :: l).length ≠ 1 := by
      cases l with
      | nil => simp at h
      | cons => simp
    have h1 : stepCi D (.text s m (b :: l).length t u) b = (.text s m l.length (t ++ [b]) (nextU m u b), []) := by
      simp only [stepCi]
      rw [if_neg hn, if_neg hl]
      rfl
    obtain ⟨u', hu⟩ := text_pre D s m l (t ++ [b]) (nextU m u b) i (by simpa using h) (by rintro rfl; have := hw rfl; rw [runS_cons] at this; exact this)
    refine ⟨u', ?_⟩
    rw [List.take_succ_cons, runCi, h1]
    simp only [List.nil_append, hu]
    simp
theorem ascii_run (n : Nat) (c : UInt8) (h : c.toNat < 128) : runS st0 (List.replicate n c) = st0 := by
  induction n with
  | zero => rfl
  | succ n ih =>
    rw [List.replicate_succ, runS_cons]
    have : stepS st0 c = st0 := by
      simp only [stepS, st0, openS]
      simp [h]
    rw [this, ih]
def majT (m : Bool) : Nat := if m = true then 3 else 2
theorem majT_lt (m : Bool) : majT m < 6 := by cases m <;> decide
theorem head_text {s : List Bx} (m : Bool) {v : Nat} (hv : v ≤ 200) : headC s (.fin (majT m) v false) = if v = 0 then putC s (evTxC m []) else (.text s m v [] st0, []) := by
  have hd : decide (majT m = 3) = m := by cases m <;> rfl
  have h2 : ¬ majT m < 2 := by cases m <;> decide
  have h4 : majT m < 4 := by cases m <;> decide
  unfold headC
  simp only
  rw [if_neg h2, if_pos h4, if_neg (by simp), if_neg (by omega), hd]
theorem head_large {s : List Bx} (m : Bool) {v : Nat} (hv : 200 < v) : headC s (.fin (majT m) v false) = (.bad 5, []) := by
  have h2 : ¬ majT m < 2 := by cases m <;> decide
  have h4 : majT m < 4 := by cases m <;> decide
  unfold headC
  simp only
  rw [if_neg h2, if_pos h4, if_neg (by simp), if_pos hv]
/-- Ahead of the last byte of a text of n bytes, each below 128: nothing is told; what came is held. -/
theorem texts_pre (m : Bool) (n : Nat) (c : UInt8) (hn : n ≤ 200) (hc : c.toNat < 128) (i : Nat) (hi : i < (headB (majT m) n).length + n) :
    ∃ j, runCi 3 ci0 ((headB (majT m) n ++ List.replicate n c).take i) = (j, []) ∧ errCi j = 0 ∧ heldCi j = i - (headB (majT m) n).length := by
  by_cases h : i < (headB (majT m) n).length
  · obtain ⟨j, h1, h2, h3⟩ := head_pre (D := 3) (s := []) (majT_lt m) (show n < 18446744073709551616 by omega) (by simp [keyB]) (by simp) i h
    refine ⟨j, ?_, h2, ?_⟩
    · rw [List.take_append_of_le_length (by omega)]
      exact h1
    · rw [h3]
      simp
      omega
  · have h0 : n ≠ 0 := by omega
    have hr := head_read (D := 3) (s := []) (m := majT m) (v := n) (majT_lt m) (by omega) (by simp [keyB]) (by simp)
    rw [head_text m hn, if_neg h0] at hr
    obtain ⟨u', hu⟩ := text_pre 3 [] m (List.replicate n c) [] st0 (i - (headB (majT m) n).length) (by rw [List.length_replicate]; omega) (fun _ => by rw [ascii_run n c hc]; rfl)
    rw [List.length_replicate] at hu
    refine ⟨.text [] m (n - (i - (headB (majT m) n).length)) ([] ++ (List.replicate n c).take (i - (headB (majT m) n).length)) u', ?_, rfl, ?_⟩
    · rw [List.take_append, List.take_of_length_le (by omega), runCi_append]
      unfold ci0
      rw [hr]
      simp only [hu]
      rfl
    · simp [heldCi]
      omega
/-- At the last byte: the text; the document is at its end. -/
theorem texts_end (m : Bool) (n : Nat) (c : UInt8) (hn : n ≤ 200) (hc : c.toNat < 128) : runCi 3 ci0 (headB (majT m) n ++ List.replicate n c) = (.item [] true, [evTxC m (List.replicate n c)]) := by
  have hr := head_read (D := 3) (s := []) (m := majT m) (v := n) (majT_lt m) (by omega) (by simp [keyB]) (by simp)
  rw [head_text m hn] at hr
  rw [runCi_append]
  unfold ci0
  rw [hr]
  by_cases h0 : n = 0
  · subst h0
    cases m <;> rfl
  · rw [if_neg h0]
    have := text_read 3 [] m (List.replicate n c) [] st0 (by simp [h0]) (fun _ => by rw [ascii_run n c hc]; rfl)
    rw [List.length_replicate] at this
    simp only [this, List.nil_append]
    rfl
/-- A text that is too long: told at its head's last byte. -/
theorem texts_large (m : Bool) (n : Nat) (hn : 200 < n) (hv : n < 18446744073709551616) : runCi 3 ci0 (headB (majT m) n) = (.bad 5, []) := by
  unfold ci0
  rw [head_read (majT_lt m) hv (by simp [keyB]) (by cases m <;> simp [majT]), head_large m hn]
/-! ### Chunks -/
theorem chunk_mid (D : Nat) (s : List Bx) (m : Bool) (t : List UInt8) (j : Nat) : ∀ (l : List UInt8) (a : Nat), l ≠ [] → runCi D (.chead s m t (.mid j l.length a)) l = chunkC s m t (.fin j (valB a l) false)
  | [], _, h => absurd rfl h
  | [b], a, _ => by
    have h1 : stepH (.mid j [b].length a) b.toNat = .fin j (a * 256 + b.toNat) false := by simp [stepH]
    have h2 : stepCi D (.chead s m t (.mid j [b].length a)) b = chunkC s m t (.fin j (a * 256 + b.toNat) false) := by
      show chunkC s m t (stepH (.mid j [b].length a) b.toNat) = _
      rw [h1]
    exact one_byte h2
  | b :: c :: r, a, _ => by
    have h1 : stepCi D (.chead s m t (.mid j (b :: c :: r).length a)) b = (.chead s m t (.mid j (c :: r).length (a * 256 + b.toNat)), []) := by
      simp only [stepCi, stepH]
      rw [if_neg (by simp)]
      simp [chunkC]
    rw [runCi, h1]
    simp only [List.nil_append]
    rw [chunk_mid D s m t j (c :: r) _ (by simp)]
    simp only [valB]
theorem chunk_read {D : Nat} {s : List Bx} (m : Bool) (t : List UInt8) {v : Nat} (hv : v < 18446744073709551616) : runCi D (.open_ s m t) (headB (majT m) v) = chunkC s m t (.fin (majT m) v false) := by
  have hM : majT m = if m = true then 3 else 2 := rfl
  have hM8 := majT_lt m
  have first : ∀ l : Nat, l < 28 → stepCi D (.open_ s m t) (UInt8.ofNat (majT m * 32 + l)) = chunkC s m t (stepH .new (majT m * 32 + l)) := by
    intro l hl
    simp only [stepCi]
    rw [byte_eq _ (by omega), if_neg (by omega), if_neg (by rw [← hM]; omega)]
  have hlong : ∀ k : Nat, k < 4 → v < 256 ^ 2 ^ k → runCi D (.open_ s m t) (UInt8.ofNat (majT m * 32 + (24 + k)) :: bigB (2 ^ k) v) = chunkC s m t (.fin (majT m) v false) := by
    intro k hk4 hvk
    have h1 : stepCi D (.open_ s m t) (UInt8.ofNat (majT m * 32 + (24 + k))) = (.chead s m t (.mid (majT m) (2 ^ k) 0), []) := by
      rw [first _ (by omega)]
      have := step_first (majT m) (24 + k) (by omega) (by omega)
      rw [byte_eq _ (by omega)] at this
      rw [this, if_neg (by omega), if_pos (by omega), show 24 + k - 24 = k by omega]
      rfl
    rw [runCi, h1]
    simp only [List.nil_append]
    have h2 := chunk_mid D s m t (majT m) (bigB (2 ^ k) v) 0 (by intro h; have := congrArg List.length h; rw [bigB_length] at this; simp at this)
    rw [bigB_length, valB_big, Nat.mod_eq_of_lt hvk] at h2
    rw [h2]
  unfold headB
  rcases sizH_cases v hv with ⟨h, e⟩ | ⟨h, e⟩ | ⟨h, e⟩ | ⟨h, e⟩ | ⟨h, e⟩ <;> rw [e]
  · simp only [bigB]
    rw [runCi]
    have h1 : stepCi D (.open_ s m t) (UInt8.ofNat (majT m * 32 + v)) = chunkC s m t (.fin (majT m) v false) := by
      rw [first _ (by omega)]
      have := step_first (majT m) v (by omega) (by omega)
      rw [byte_eq _ (by omega), if_pos h] at this
      rw [this]
    rw [h1]
    simp only [runCi, List.append_nil]
  · exact hlong 0 (by decide) (by simp; omega)
  · exact hlong 1 (by decide) (by simp; omega)
  · exact hlong 2 (by decide) (by simp; omega)
  · exact hlong 3 (by decide) (by simp; omega)
/-- Within a chunk to its end. -/
theorem ctext_read (D : Nat) (s : List Bx) (m : Bool) : ∀ (l t : List UInt8) (u : Option (Nat × Nat × Nat)), l ≠ [] → runCi D (.ctext s m t l.length u) l = if m = true ∧ wholeS (runS u l) = false then (.bad 9, []) else (.open_ s m (t ++ l), [])
  | [], _, _, h => absurd rfl h
  | b :: l, t, u, _ => by
    by_cases hn : m = true ∧ nextU m u b = none
    · have h1 : stepCi D (.ctext s m t (b :: l).length u) b = (.bad 9, []) := by
        simp only [stepCi]
        rw [if_pos hn]
      have h2 : wholeS (runS u (b :: l)) = false := by
        obtain ⟨rfl, h⟩ := hn
        simp only [nextU, if_true] at h
        rw [runS_cons, h, runS_none]
        rfl
      rw [runCi, h1, runCi_bad, if_pos ⟨hn.1, h2⟩]
      rfl
    · have hun : m = true → runS u (b :: l) = runS (nextU m u b) l := by
        rintro rfl
        rfl
      cases l with
      | nil =>
        by_cases hw : m = true ∧ wholeS (nextU m u b) = false
        · have h1 : stepCi D (.ctext s m t [b].length u) b = (.bad 9, []) := by
            simp only [stepCi]
            rw [if_neg hn, if_pos (by simp), if_pos hw]
          rw [runCi, h1, if_pos ⟨hw.1, by rw [hun hw.1]; exact hw.2⟩]
          rfl
        · have h1 : stepCi D (.ctext s m t [b].length u) b = (.open_ s m (t ++ [b]), []) := by
            simp only [stepCi]
            rw [if_neg hn, if_pos (by simp), if_neg hw]
          rw [runCi, h1, if_neg (fun h => hw ⟨h.1, by rw [hun h.1] at h; exact h.2⟩)]
          rfl
      | cons c l =>
        have h1 : stepCi D (.ctext s m t (b :: c :: l).length u) b = (.ctext s m (t ++ [b]) (c :: l).length (nextU m u b), []) := by
          simp only [stepCi]
          rw [if_neg hn, if_neg (by simp)]
          rfl
        rw [runCi, h1]
        simp only [List.nil_append]
        rw [ctext_read D s m (c :: l) (t ++ [b]) (nextU m u b) (by simp)]
        by_cases hw : m = true ∧ wholeS (runS (nextU m u b) (c :: l)) = false
        · rw [if_pos hw, if_pos ⟨hw.1, by rw [hun hw.1]; exact hw.2⟩]
        · rw [if_neg hw, if_neg (fun h => hw ⟨h.1, by rw [hun h.1] at h; exact h.2⟩)]
          simp
def chunkB (m : Bool) (x : List UInt8) : List UInt8 := headB (majT m) x.length ++ x
/-- The first error of chunks behind a text so far. -/
def wantC (m : Bool) : List UInt8 → List (List UInt8) → Nat
  | _, [] => 0
  | t, x :: r => if 200 < (t ++ x).length then 5 else if m = true ∧ validD x = false then 9 else wantC m (t ++ x) r
theorem chunk_one (D : Nat) (m : Bool) (t x : List UInt8) (hx : x.length < 18446744073709551616) : runCi D (.open_ [] m t) (chunkB m x) = if 200 < (t ++ x).length then (.bad 5, []) else if m = true ∧ validD x = false then (.bad 9, []) else (.open_ [] m (t ++ x), []) := by
  unfold chunkB
  rw [runCi_append, chunk_read m t hx]
  by_cases hl : 200 < (t ++ x).length
  · have : chunkC [] m t (.fin (majT m) x.length false) = (.bad 5, []) := by
      simp only [chunkC]
      rw [if_pos (by rw [List.length_append] at hl; omega)]
    rw [this, if_pos hl, runCi_bad]
    rfl
  · rw [if_neg hl]
    by_cases h0 : x = []
    · subst h0
      have : chunkC [] m t (.fin (majT m) ([] : List UInt8).length false) = (.open_ [] m t, []) := by
        simp only [chunkC]
        rw [if_neg (by simpa using hl), if_pos (by simp)]
      rw [this, if_neg (by rintro ⟨_, h⟩; cases h)]
      simp [runCi]
    · have h1 : chunkC [] m t (.fin (majT m) x.length false) = (.ctext [] m t x.length st0, []) := by
        simp only [chunkC]
        rw [if_neg (by rw [List.length_append] at hl; omega), if_neg (by simpa using h0)]
      rw [h1]
      simp only [List.nil_append]
      rw [ctext_read D [] m x t st0 h0, valid_run]
theorem chunks_run (D : Nat) (m : Bool) : ∀ (ls : List (List UInt8)) (t : List UInt8), (∀ x ∈ ls, x.length < 18446744073709551616) →
    runCi D (.open_ [] m t) (ls.flatMap (chunkB m)) = (if wantC m t ls = 0 then .open_ [] m (t ++ ls.flatten) else .bad (wantC m t ls), [])
  | [], t, _ => by simp [runCi, wantC]
  | x :: r, t, h => by
    rw [List.flatMap_cons, runCi_append, chunk_one D m t x (h x (by simp))]
    simp only [wantC]
    by_cases h1 : 200 < (t ++ x).length
    · simp only [if_pos h1, runCi_bad]
      rfl
    · simp only [if_neg h1]
      by_cases h2 : m = true ∧ validD x = false
      · simp only [if_pos h2, runCi_bad]
        rfl
      · simp only [if_neg h2]
        rw [chunks_run D m r (t ++ x) (fun y hy => h y (by simp [hy]))]
        simp
theorem wantC_snoc (m : Bool) (x : List UInt8) : ∀ (ls : List (List UInt8)) (t : List UInt8), wantC m t (ls ++ [x]) = if wantC m t ls ≠ 0 then wantC m t ls else if 200 < (t ++ ls.flatten ++ x).length then 5 else if m = true ∧ validD x = false then 9 else 0
  | [], t => by simp [wantC]
  | y :: r, t => by
    have hc : ∀ z, wantC m t (y :: z) = if 200 < (t ++ y).length then 5 else if m = true ∧ validD y = false then 9 else wantC m (t ++ y) z := fun _ => rfl
    rw [List.cons_append]
    by_cases h1 : 200 < (t ++ y).length
    · have e : ∀ z, wantC m t (y :: z) = 5 := fun z => by rw [hc, if_pos h1]
      rw [e, e]
      rfl
    · by_cases h2 : m = true ∧ validD y = false
      · have e : ∀ z, wantC m t (y :: z) = 9 := fun z => by rw [hc, if_neg h1, if_pos h2]
        rw [e, e]
        rfl
      · have e : ∀ z, wantC m t (y :: z) = wantC m (t ++ y) z := fun z => by rw [hc, if_neg h1, if_neg h2]
        rw [e, e, wantC_snoc m x r (t ++ y)]
        simp
theorem chunks_all (m : Bool) (ls : List (List UInt8)) (h : ∀ x ∈ ls, x.length < 18446744073709551616) :
    allCi 2 (UInt8.ofNat (majT m * 32 + 31) :: ls.flatMap (chunkB m)) = ([], if wantC m [] ls = 0 then 3 else wantC m [] ls) ∧
    allCi 2 (UInt8.ofNat (majT m * 32 + 31) :: ls.flatMap (chunkB m) ++ [255]) = (if wantC m [] ls = 0 then ([evTxC m ls.flatten], 0) else ([], wantC m [] ls)) := by
  have h1 : stepCi 2 ci0 (UInt8.ofNat (majT m * 32 + 31)) = (.open_ [] m [], []) := by cases m <;> rfl
  have h2 := chunks_run 2 m ls [] h
  have h3 : runCi 2 ci0 (UInt8.ofNat (majT m * 32 + 31) :: ls.flatMap (chunkB m)) = (if wantC m [] ls = 0 then .open_ [] m ls.flatten else .bad (wantC m [] ls), []) := by
    rw [runCi, h1, h2]
    simp
  constructor
  · unfold allCi
    rw [h3]
    by_cases h0 : wantC m [] ls = 0
    · rw [if_pos h0, if_pos h0]
      rfl
    · rw [if_neg h0, if_neg h0]
      rfl
  · unfold allCi
    rw [runCi_append, h3]
    by_cases h0 : wantC m [] ls = 0
    · rw [if_pos h0, if_pos h0]
      rfl
    · rw [if_neg h0, if_neg h0, runCi_bad]
      rfl
end Go.Proofs.Ytonjdnahplphhaa
/-
  A SLICE OF api.Ev: its elements as parts of EvPure. (What comes in is opened by XEvs.lean.part, in the rows.)
-/
namespace Go.Proofs.Ytonjdnahplphhaa
open Go.RowKit
open Go.Lib
/-- The five cells of a part. -/
def evCells (e : Ev) : List Value := [.int .i64 e.k, .bool e.y, .int .u64 e.m, .string e.t, .int .i64 e.c]
/-- What a part's numbers may be. -/
def EvOk (e : Ev) : Prop := (-9223372036854775808 ≤ e.k ∧ e.k ≤ 9223372036854775807) ∧ e.m < 18446744073709551616 ∧ (-9223372036854775808 ≤ e.c ∧ e.c ≤ 9223372036854775807) ∧ e.t.size ≤ 9223372036854775807
/-- The elements of a slice that came in. -/
def EvsAt (w : World) (B : Nat) (A : Option Addr) (n : Nat) (E : Nat → Ev) : Prop :=
  0 < n → ∃ b off, A = some ⟨b, off, none⟩ ∧ b < B ∧ ∀ i, i < n → ∀ j u, (evCells (E i))[j]? = some u → w.cell? ⟨b, off + i * 5 + j, none⟩ = some u
theorem EvsAt.keep {w w' : World} {B n : Nat} {A : Option Addr} {E : Nat → Ev} (h : EvsAt w B A n E) (hk : ∀ p : Addr, p.block < B → w'.cell? p = w.cell? p) : EvsAt w' B A n E := fun hn => by
  obtain ⟨b, off, hA, hb, hc⟩ := h hn
  exact ⟨b, off, hA, hb, fun i hi j u hu => (hk _ hb).trans (hc i hi j u hu)⟩
theorem EvsAt.below {w w' : World} {B n : Nat} {A : Option Addr} {E : Nat → Ev} (h : EvsAt w B A n E) (hb : Below B w w') : EvsAt w' B A n E := h.keep fun _ hp => hb.cell hp
end Go.Proofs.Ytonjdnahplphhaa
/-
  NO PROGRAM NEEDED: CBOR's reader's places stay what they may be; what it tells are parts, tidy; how many they are; a document that is not at its end.
-/
namespace Go.Proofs.Ytonjdnahplphhaa
open Go.Lib
def HdOk : Hd → Prop
  | .mid _ n v => 1 ≤ n ∧ n ≤ 8 ∧ v < 256 ^ (8 - n)
  | .fin _ v _ => v < 18446744073709551616
  | .bad e => e = 2 ∨ e = 14
  | .new => True
theorem hd_step {h : Hd} {b : Nat} (hb : b < 256) (ho : HdOk h) : HdOk (stepH h b) := by
  cases h with
  | bad e => exact ho
  | fin m v o => exact .inr rfl
  | new =>
    simp only [stepH]
    split
    · show b % 32 < _
      omega
    · split
      · have hk : b % 32 - 24 = 0 ∨ b % 32 - 24 = 1 ∨ b % 32 - 24 = 2 ∨ b % 32 - 24 = 3 := by omega
        rcases hk with h | h | h | h <;> rw [h] <;> exact ⟨by decide, by decide, by decide⟩
      · split
        · show (0 : Nat) < _
          omega
        · exact .inl rfl
  | mid m n v =>
    obtain ⟨h1, h2, h3⟩ := ho
    have hn : n = 1 ∨ n = 2 ∨ n = 3 ∨ n = 4 ∨ n = 5 ∨ n = 6 ∨ n = 7 ∨ n = 8 := by omega
    simp only [stepH]
    rcases hn with rfl | rfl | rfl | rfl | rfl | rfl | rfl | rfl
    · rw [if_pos rfl]
      show v * 256 + b < 18446744073709551616
      have h3 : v < 256 ^ 7 := h3
      omega
    all_goals
      rw [if_neg (by decide)]
      refine ⟨by decide, by decide, ?_⟩
      simp at h3 ⊢
      omega
def BxOk (s : List Bx) : Prop := ∀ b ∈ s, -1 ≤ b.c ∧ b.c ≤ 1000000
theorem BxOk.inc {s : List Bx} (h : BxOk s) : BxOk (incB s) := by
  cases s with
  | nil => exact h
  | cons x r =>
    intro b hb
    rcases List.mem_cons.1 hb with rfl | hb
    · exact h x (by simp)
    · exact h b (by simp [hb])
theorem BxOk.rest : ∀ {s : List Bx}, BxOk s → BxOk (restC s)
  | [], h => h
  | x :: r, h => by
    unfold restC
    split
    · exact BxOk.rest (fun b hb => h b (by simp [hb]))
    · exact h
theorem inc_len (s : List Bx) : (incB s).length = s.length := by cases s <;> rfl
/-- The reader's place is one that may be. -/
def WfCi (D : Nat) : Ci → Prop
  | .bad e => e ≠ 0 ∧ e ≠ 3
  | .item s dn => (dn = true → s = []) ∧ BxOk s ∧ s.length ≤ D
  | .head s h => (∃ m n v, h = .mid m n v) ∧ HdOk h ∧ BxOk s ∧ s.length ≤ D ∧ (4 ≤ majH h → s.length < D)
  | .text s _ n t _ => 1 ≤ n ∧ t.length + n ≤ 200 ∧ BxOk s ∧ s.length ≤ D
  | .open_ s _ t => t.length ≤ 200 ∧ BxOk s ∧ s.length ≤ D
  | .chead s _ t h => (∃ m n v, h = .mid m n v) ∧ HdOk h ∧ t.length ≤ 200 ∧ BxOk s ∧ s.length ≤ D
  | .ctext s _ t n _ => 1 ≤ n ∧ t.length + n ≤ 200 ∧ BxOk s ∧ s.length ≤ D
/-- How many containers are open. -/
def stkC : Ci → Nat
  | .bad _ => 0
  | .item s _ => s.length
  | .head s _ => s.length
  | .text s _ _ _ _ => s.length
  | .open_ s _ _ => s.length
  | .chead s _ _ _ => s.length
  | .ctext s _ _ _ _ => s.length
/-- A part as it is told. -/
def ToldC (e : Ev) : Prop := mayE e ∧ tidyE e = e ∧ EvOk e ∧ e.t.size ≤ 200
/-- What a step tells, and where it leaves. -/
structure FineC (D n : Nat) (r : Ci × List Ev) : Prop where
  wf : WfCi D r.1
  told : ∀ e ∈ r.2, ToldC e
  len : r.2.length + stkC r.1 ≤ n + 2
theorem told_end : ToldC evEnd := ⟨by decide, rfl, ⟨by decide, by decide, by decide, by decide⟩, by decide⟩
theorem rest_num : ∀ s : List Bx, (restC s).length + numC s = s.length
  | [] => rfl
  | b :: r => by
    unfold restC numC
    split
    · have := rest_num r
      simp only [List.length_cons]
      omega
    · simp
theorem fine_bad {D n : Nat} (e : Nat) (h0 : e ≠ 0) (h3 : e ≠ 3) : FineC D n (.bad e, []) := ⟨⟨h0, h3⟩, by simp, by simp [stkC]⟩
theorem fine_at {D n : Nat} {s : List Bx} {l : List Ev} (hs : BxOk s) (hd : s.length ≤ D) (hl : ∀ e ∈ l, ToldC e) (hn : l.length + s.length ≤ n + 2) : FineC D n (atC s, l ++ endsC s) := by
  have h1 := rest_num s
  have h2 := rest_len s
  refine ⟨⟨fun h => by simpa using h, hs.rest, by omega⟩, fun e he => ?_, ?_⟩
  · rcases List.mem_append.1 he with he | he
    · exact hl e he
    · unfold endsC at he
      rw [List.eq_of_mem_replicate he]
      exact told_end
  · simp only [List.length_append, endsC, List.length_replicate, atC, stkC]
    omega
theorem fine_put {D : Nat} {s : List Bx} {e : Ev} (hs : BxOk s) (hd : s.length ≤ D) (he : ToldC e) : FineC D s.length (putC s e) :=
  fine_at (l := [e]) hs.inc (by rw [inc_len]; exact hd) (by simpa using he) (by rw [inc_len]; simp; omega)
theorem told_begin (m : Bool) {c : Int} (h : -1 ≤ c ∧ c ≤ 1000000) : ToldC (evBegC m c) := by
  refine ⟨⟨?_, ?_, fun _ => h.1⟩, ?_, ⟨?_, ?_, ?_, ?_⟩, Nat.zero_le _⟩
  · cases m <;> simp [evBegC]
  · cases m <;> simp [evBegC]
  · cases m <;> simp [evBegC, tidyE]
  · cases m <;> simp [evBegC]
  · simp [evBegC]
  · show -9223372036854775808 ≤ c ∧ c ≤ 9223372036854775807
    omega
  · exact Nat.zero_le _
theorem fine_begin {D : Nat} {s : List Bx} (m : Bool) {c : Int} (hs : BxOk s) (hd : s.length < D) (h : -1 ≤ c ∧ c ≤ 1000000) : FineC D s.length (beginC s m c) := by
  have hb : BxOk (⟨m, c, 0⟩ :: incB s) := by
    intro b hb
    rcases List.mem_cons.1 hb with rfl | hb
    · exact h
    · exact hs.inc b hb
  exact fine_at (l := [evBegC m c]) hb (by rw [List.length_cons, inc_len]; omega) (by simpa using told_begin m h) (by simp only [List.length_cons, List.length_nil, inc_len]; omega)
theorem told_text (m : Bool) {t : List UInt8} (h : t.length ≤ 200) : ToldC (evTxC m t) := by
  have hz : (⟨t.toArray⟩ : ByteArray).size = t.length := by simp [ByteArray.size]
  refine ⟨⟨?_, ?_, fun h => ?_⟩, ?_, ⟨?_, ?_, ?_, ?_⟩, ?_⟩
  · cases m <;> simp [evTxC]
  · cases m <;> simp [evTxC]
  · cases m <;> simp [evTxC] at h
  · cases m <;> simp [evTxC, tidyE]
  · cases m <;> simp [evTxC]
  · simp [evTxC]
  · simp [evTxC]
  · show (⟨t.toArray⟩ : ByteArray).size ≤ _
    omega
  · show (⟨t.toArray⟩ : ByteArray).size ≤ _
    omega
theorem told_int (y : Bool) {v : Nat} (h : v < 18446744073709551616) : ToldC (evIntC y v) := ⟨⟨by simp [evIntC], by simp [evIntC], fun h => by simp [evIntC] at h⟩, by simp [evIntC, tidyE], ⟨by simp [evIntC], h, by simp [evIntC], Nat.zero_le _⟩, Nat.zero_le _⟩
theorem told_bool (y : Bool) : ToldC (evBoolC y) := ⟨⟨by simp [evBoolC], by simp [evBoolC], fun h => by simp [evBoolC] at h⟩, by simp [evBoolC, tidyE], ⟨by simp [evBoolC], by simp [evBoolC], by simp [evBoolC], Nat.zero_le _⟩, Nat.zero_le _⟩
theorem told_null : ToldC evNull := ⟨by decide, rfl, ⟨by decide, by decide, by decide, by decide⟩, by decide⟩
theorem fine_head {D : Nat} {s : List Bx} {h : Hd} (hs : BxOk s) (hd : s.length ≤ D) (ho : HdOk h) (hn : h ≠ .new) (h4 : 4 ≤ majH h → s.length < D) : FineC D s.length (headC s h) := by
  cases h with
  | new => exact absurd rfl hn
  | bad e =>
    refine fine_bad e ?_ ?_ <;> rcases ho with rfl | rfl <;> decide
  | mid m n v => exact ⟨⟨⟨m, n, v, rfl⟩, ho, hs, hd, h4⟩, by simp [headC], by simp [headC, stkC]⟩
  | fin m v o =>
    unfold headC
    simp only
    by_cases c1 : m < 2
    · rw [if_pos c1]
      exact fine_put hs hd (told_int _ ho)
    · rw [if_neg c1]
      by_cases c2 : m < 4
      · rw [if_pos c2]
        by_cases c3 : o = true
        · rw [if_pos c3]
          exact ⟨⟨by simp, hs, hd⟩, by simp, by simp [stkC]⟩
        · rw [if_neg c3]
          by_cases c4 : 200 < v
          · rw [if_pos c4]
            exact fine_bad 5 (by decide) (by decide)
          · rw [if_neg c4]
            by_cases c5 : v = 0
            · rw [if_pos c5]
              exact fine_put hs hd (told_text _ (by simp))
            · rw [if_neg c5]
              exact ⟨⟨by omega, by simp; omega, hs, hd⟩, by simp, by simp [stkC]⟩
      · rw [if_neg c2]
        have hdd : s.length < D := h4 (by show 4 ≤ m; omega)
        by_cases c3 : o = true
        · rw [if_pos c3]
          exact fine_begin _ hs hdd (by omega)
        · rw [if_neg c3]
          by_cases c4 : 1000000 < v
          · rw [if_pos c4]
            exact fine_bad 7 (by decide) (by decide)
          · rw [if_neg c4]
            exact fine_begin _ hs hdd (by omega)
theorem fine_first {D : Nat} {s : List Bx} {dn : Bool} (b : Nat) (hb : b < 256) (hs : BxOk s) (hd : s.length ≤ D) : FineC D s.length (firstC D s dn b) := by
  unfold firstC
  by_cases c1 : dn = true ∨ (28 ≤ b % 32 ∧ b % 32 ≤ 30) ∨ (b % 32 = 31 ∧ (b / 32 = 0 ∨ b / 32 = 1 ∨ b / 32 = 6))
  · rw [if_pos c1]
    exact fine_bad 2 (by decide) (by decide)
  rw [if_neg c1]
  by_cases c2 : b = 255
  · rw [if_pos c2]
    cases s with
    | nil => exact fine_bad 2 (by decide) (by decide)
    | cons x r =>
      simp only
      split
      · exact fine_bad 2 (by decide) (by decide)
      · have hr : BxOk r := fun b hb => hs b (by simp [hb])
        simp only [List.length_cons] at hd
        exact fine_at (l := [evEnd]) hr (by omega) (by simpa using told_end) (by simp only [List.length_cons, List.length_nil]; omega)
  rw [if_neg c2]
  by_cases c3 : keyB s = true ∧ b / 32 ≠ 3
  · rw [if_pos c3]
    exact fine_bad 8 (by decide) (by decide)
  rw [if_neg c3]
  by_cases c4 : b / 32 = 6
  · rw [if_pos c4]
    exact fine_bad 8 (by decide) (by decide)
  rw [if_neg c4]
  by_cases c5 : b / 32 = 7
  · rw [if_pos c5]
    split
    · exact fine_put hs hd told_null
    · split
      · exact fine_put hs hd (told_bool _)
      · split
        · exact fine_bad 6 (by decide) (by decide)
        · exact fine_bad 8 (by decide) (by decide)
  rw [if_neg c5]
  by_cases c6 : (b / 32 = 4 ∨ b / 32 = 5) ∧ D ≤ s.length
  · rw [if_pos c6]
    exact fine_bad 4 (by decide) (by decide)
  rw [if_neg c6]
  have hn := stepH_new (h := .new) (b := b) (.inl rfl)
  refine fine_head hs hd (hd_step hb trivial) hn ?_
  rw [maj_new (fun h => c1 (.inr (.inl h)))]
  intro h4
  by_cases h : s.length < D
  · exact h
  · exact absurd ⟨by omega, by omega⟩ c6
theorem fine_chunk {D : Nat} {s : List Bx} {m : Bool} {t : List UInt8} {h : Hd} (hs : BxOk s) (hd : s.length ≤ D) (ht : t.length ≤ 200) (ho : HdOk h) (hn : h ≠ .new) : FineC D s.length (chunkC s m t h) := by
  cases h with
  | new => exact absurd rfl hn
  | bad e =>
    refine fine_bad e ?_ ?_ <;> rcases ho with rfl | rfl <;> decide
  | mid a n v => exact ⟨⟨⟨a, n, v, rfl⟩, ho, ht, hs, hd⟩, by simp [chunkC], by simp [chunkC, stkC]⟩
  | fin a v o =>
    simp only [chunkC]
    by_cases c1 : 200 < v + t.length
    · rw [if_pos c1]
      exact fine_bad 5 (by decide) (by decide)
    · rw [if_neg c1]
      by_cases c2 : v = 0
      · rw [if_pos c2]
        exact ⟨⟨ht, hs, hd⟩, by simp, by simp [stkC]⟩
      · rw [if_neg c2]
        exact ⟨⟨by omega, by omega, hs, hd⟩, by simp, by simp [stkC]⟩
/-- A STEP. -/
theorem fine_step {D : Nat} {s : Ci} (b : UInt8) (h : WfCi D s) : FineC D (stkC s) (stepCi D s b) := by
  have hb : b.toNat < 256 := b.toNat_lt
  cases s with
  | bad e => exact ⟨h, by simp [stepCi], by simp [stepCi, stkC]⟩
  | item s dn => exact fine_first b.toNat hb h.2.1 h.2.2
  | head s hd =>
    obtain ⟨⟨m, n, v, rfl⟩, h1, h2, h3, h4⟩ := h
    refine fine_head h2 h3 (hd_step hb h1) (stepH_new (.inr ⟨m, n, v, rfl⟩)) ?_
    have : majH (stepH (.mid m n v) b.toNat) = m := by simp only [stepH]; split <;> rfl
    rw [this]
    exact h4
  | text s m n t u =>
    obtain ⟨h1, h2, h3, h4⟩ := h
    simp only [stepCi]
    by_cases c1 : m = true ∧ nextU m u b = none
    · rw [if_pos c1]
      exact fine_bad 9 (by decide) (by decide)
    rw [if_neg c1]
    by_cases c2 : n = 1
    · rw [if_pos c2]
      split
      · exact fine_bad 9 (by decide) (by decide)
      · exact fine_put h3 h4 (told_text _ (by simp; omega))
    · rw [if_neg c2]
      exact ⟨⟨by omega, by simp; omega, h3, h4⟩, by simp, by simp [stkC]⟩
  | open_ s m t =>
    obtain ⟨h1, h2, h3⟩ := h
    simp only [stepCi]
    by_cases c1 : b.toNat = 255
    · rw [if_pos c1]
      exact fine_put h2 h3 (told_text _ h1)
    rw [if_neg c1]
    by_cases c2 : b.toNat / 32 ≠ (if m = true then 3 else 2) ∨ 28 ≤ b.toNat % 32
    · rw [if_pos c2]
      exact fine_bad 2 (by decide) (by decide)
    · rw [if_neg c2]
      exact fine_chunk h2 h3 h1 (hd_step (h := .new) hb trivial) (stepH_new (.inl rfl))
  | chead s m t hd =>
    obtain ⟨⟨a, n, v, rfl⟩, h1, h2, h3, h4⟩ := h
    exact fine_chunk h3 h4 h2 (hd_step hb h1) (stepH_new (.inr ⟨a, n, v, rfl⟩))
  | ctext s m t n u =>
    obtain ⟨h1, h2, h3, h4⟩ := h
    simp only [stepCi]
    by_cases c1 : m = true ∧ nextU m u b = none
    · rw [if_pos c1]
      exact fine_bad 9 (by decide) (by decide)
    rw [if_neg c1]
    by_cases c2 : n = 1
    · rw [if_pos c2]
      split
      · exact fine_bad 9 (by decide) (by decide)
      · exact ⟨⟨by simp; omega, h3, h4⟩, by simp, by simp [stkC]⟩
    · rw [if_neg c2]
      exact ⟨⟨by omega, by simp; omega, h3, h4⟩, by simp, by simp [stkC]⟩
theorem wf_ci0 (D : Nat) : WfCi D ci0 := ⟨fun _ => rfl, by intro b hb; simp at hb, Nat.zero_le _⟩
theorem fine_run (D : Nat) : ∀ (l : List UInt8) (s : Ci), WfCi D s → WfCi D (runCi D s l).1 ∧ (∀ e ∈ (runCi D s l).2, ToldC e) ∧ (runCi D s l).2.length + stkC (runCi D s l).1 ≤ stkC s + 2 * l.length
  | [], s, h => ⟨h, by simp [runCi], by simp [runCi]⟩
  | b :: l, s, h => by
    obtain ⟨h1, h2, h3⟩ := fine_step b h
    obtain ⟨g1, g2, g3⟩ := fine_run D l _ h1
    refine ⟨g1, fun e he => ?_, ?_⟩
    · simp only [runCi] at he
      rcases List.mem_append.1 he with he | he
      · exact h2 e he
      · exact g2 e he
    · simp only [runCi, List.length_append, List.length_cons]
      omega
/-- All that is read: parts; at most two a byte. -/
theorem all_told (D : Nat) (l : List UInt8) : (∀ e ∈ (allCi D l).1, ToldC e) ∧ (allCi D l).1.length ≤ 2 * l.length := by
  obtain ⟨_, h2, h3⟩ := fine_run D l ci0 (wf_ci0 D)
  refine ⟨h2, ?_⟩
  have : stkC ci0 = 0 := rfl
  unfold allCi
  simp only
  omega
/-- What is not at its end is no document. -/
theorem all_moreC (D : Nat) (hD : D ≤ 16) (l : List UInt8) (h : (allCi D l).2 = 3) : checkE (allCi D l).1 = 3 := by
  have hi := goes_all D hD l (.live []) ci0 (by simp [InvC, ci0]) trivial
  obtain ⟨hw, _, _⟩ := fine_run D l ci0 (wf_ci0 D)
  unfold allCi at h ⊢
  simp only at h ⊢
  have hl : ∀ s, runC (.live []) (runCi D ci0 l).2 = .live s → checkE (runCi D ci0 l).2 = 3 := fun s hs => by
    unfold checkE
    rw [hs]
    rfl
  generalize runCi D ci0 l = r at *
  obtain ⟨s, ps⟩ := r
  simp only at *
  cases s with
  | bad e =>
    obtain ⟨_, h3⟩ := hw
    exact absurd h h3
  | item s dn =>
    cases dn with
    | true => cases h
    | false => exact hl s (by simpa [InvC] using hi)
  | head s _ => exact hl s hi.1
  | text s _ _ _ _ => exact hl s hi.1
  | open_ s _ _ => exact hl s hi.1
  | chead s _ _ _ => exact hl s hi.1
  | ctext s _ _ _ _ => exact hl s hi.1
end Go.Proofs.Ytonjdnahplphhaa
/-
  NO PROGRAM NEEDED: MessagePack read as parts, as a machine over bytes (on CBOR's of CinPure: its items, its texts, its errors); what is read is one document, or the beginning of one.
-/
namespace Go.Proofs.Ytonjdnahplphhaa
open Go.Lib
/-- A reader of MessagePack: as CBOR's (at an item, within a text, behind an error); or within an item's head of w bytes, of which n lack: a number (k 0), one of two's complement (1), bytes' length (2), a text's (3), an array's count (4), a map's (5). -/
inductive Pm
  | c (x : Ci)
  | num (s : List Bx) (k w n a : Nat)
def liftP (r : Ci × List Ev) : Pm × List Ev := (.c r.1, r.2)
def lenP (s : List Bx) (m : Bool) (v : Nat) : Ci × List Ev := if 200 < v then (.bad 5, []) else if v = 0 then putC s (evTxC m []) else (.text s m v [] st0, [])
def cntP (s : List Bx) (m : Bool) (v : Nat) : Ci × List Ev := if 1000000 < v then (.bad 7, []) else beginC s m v
/-- A number of two's complement in w bytes. -/
def sgnP (w v : Nat) : Ev := if 256 ^ w ≤ 2 * v then evIntC true (256 ^ w - 1 - v) else evIntC false v
/-- Behind the last byte of a head. -/
def hedP (s : List Bx) (k w v : Nat) : Ci × List Ev :=
  if k = 0 then putC s (evIntC false v) else if k = 1 then putC s (sgnP w v) else if k = 2 then lenP s false v else if k = 3 then lenP s true v else cntP s (decide (k = 5)) v
def textP (b : Nat) : Bool := decide ((160 ≤ b ∧ b ≤ 191) ∨ (217 ≤ b ∧ b ≤ 219))
def contP (b : Nat) : Bool := decide ((128 ≤ b ∧ b ≤ 159) ∨ (220 ≤ b ∧ b ≤ 223))
def extP (b : Nat) : Bool := decide ((199 ≤ b ∧ b ≤ 201) ∨ (212 ≤ b ∧ b ≤ 216))
/-- An item's first byte. -/
def firstP (D : Nat) (s : List Bx) (dn : Bool) (b : Nat) : Pm × List Ev :=
  if dn = true ∨ b = 193 then (.c (.bad 2), [])
  else if keyB s = true ∧ textP b = false then (.c (.bad 8), [])
  else if extP b = true then (.c (.bad 8), [])
  else if b = 202 ∨ b = 203 then (.c (.bad 6), [])
  else if contP b = true ∧ D ≤ s.length then (.c (.bad 4), [])
  else if b < 128 then liftP (putC s (evIntC false b))
  else if b < 144 then liftP (cntP s true (b - 128))
  else if b < 160 then liftP (cntP s false (b - 144))
  else if b < 192 then liftP (lenP s true (b - 160))
  else if b = 192 then liftP (putC s evNull)
  else if b < 196 then liftP (putC s (evBoolC (decide (b = 195))))
  else if b < 199 then (.num s 2 (2 ^ (b - 196)) (2 ^ (b - 196)) 0, [])
  else if b < 208 then (.num s 0 (2 ^ (b - 204)) (2 ^ (b - 204)) 0, [])
  else if b < 212 then (.num s 1 (2 ^ (b - 208)) (2 ^ (b - 208)) 0, [])
  else if b < 220 then (.num s 3 (2 ^ (b - 217)) (2 ^ (b - 217)) 0, [])
  else if b < 222 then (.num s 4 (2 ^ (b - 219)) (2 ^ (b - 219)) 0, [])
  else if b < 224 then (.num s 5 (2 ^ (b - 221)) (2 ^ (b - 221)) 0, [])
  else liftP (putC s (evIntC true (255 - b)))
def stepPm (D : Nat) : Pm → UInt8 → Pm × List Ev
  | .c (.bad e), _ => (.c (.bad e), [])
  | .c (.item s dn), b => firstP D s dn b.toNat
  | .c (.text s m n t u), b => liftP (stepCi D (.text s m n t u) b)
  | .c x, _ => (.c x, [])
  | .num s k w n a, b => if n = 1 then liftP (hedP s k w (a * 256 + b.toNat)) else (.num s k w (n - 1) (a * 256 + b.toNat), [])
def runPm (D : Nat) : Pm → List UInt8 → Pm × List Ev
  | s, [] => (s, [])
  | s, b :: t => ((runPm D (stepPm D s b).1 t).1, (stepPm D s b).2 ++ (runPm D (stepPm D s b).1 t).2)
def endPm : Pm → Nat
  | .c x => endCi x
  | .num _ _ _ _ _ => 3
def pm0 : Pm := .c ci0
def allPm (D : Nat) (b : List UInt8) : List Ev × Nat := ((runPm D pm0 b).2, endPm (runPm D pm0 b).1)
def errPm : Pm → Nat
  | .c x => errCi x
  | _ => 0
/-- What is held. -/
def heldPm : Pm → Nat
  | .c x => heldCi x
  | .num s _ _ _ _ => s.length
def donePm : Pm → Bool
  | .c x => doneCi x
  | _ => false
theorem runPm_append (D : Nat) (s : Pm) (a b : List UInt8) : runPm D s (a ++ b) = ((runPm D (runPm D s a).1 b).1, (runPm D s a).2 ++ (runPm D (runPm D s a).1 b).2) := by
  induction a generalizing s with
  | nil => simp [runPm]
  | cons x t ih => simp only [List.cons_append, runPm, ih, List.append_assoc]
theorem runPm_bad (D e : Nat) (l : List UInt8) : runPm D (.c (.bad e)) l = (.c (.bad e), []) := by
  induction l with
  | nil => rfl
  | cons b t ih => simp only [runPm, stepPm, ih, List.append_nil]
theorem runPm_snoc (D : Nat) (s : Pm) (l : List UInt8) (i : Nat) (h : i < l.length) : runPm D s (l.take (i + 1)) = ((stepPm D (runPm D s (l.take i)).1 l[i]).1, (runPm D s (l.take i)).2 ++ (stepPm D (runPm D s (l.take i)).1 l[i]).2) := by
  rw [List.take_add_one, List.getElem?_eq_getElem h, runPm_append]
  simp [runPm]
/-- Behind an error there is nothing more. -/
theorem all_stopP {D e j : Nat} {l : List UInt8} (h : (runPm D pm0 (l.take j)).1 = .c (.bad e)) : allPm D l = ((runPm D pm0 (l.take j)).2, e) := by
  have h1 := runPm_append D pm0 (l.take j) (l.drop j)
  rw [List.take_append_drop] at h1
  unfold allPm
  rw [h1, h, runPm_bad]
  simp [endPm, endCi]
/-! ### What is read is one document, or the beginning of one -/
def InvP (c : Ck) : Pm → Prop
  | .c x => InvC c x
  | .num s k _ _ _ => c = .live s ∧ (keyB s = true → k = 3) ∧ (4 ≤ k → s.length < 16)
structure GoesP (c : Ck) (r : Pm × List Ev) : Prop where
  inv : InvP (runC c r.2) r.1
theorem goes_lift {c : Ck} {r : Ci × List Ev} (h : GoesC c r) : GoesP c (liftP r) := ⟨h⟩
theorem goes_badP {s : List Bx} (e : Nat) (he : e ≠ 0) : GoesP (.live s) (.c (.bad e), []) := ⟨⟨.inl ⟨s, rfl⟩, he⟩⟩
theorem goes_len {s : List Bx} {m : Bool} (v : Nat) (hk : keyB s = true → m = true) : GoesC (.live s) (lenP s m v) := by
  unfold lenP
  split
  · exact goes_bad 5 (by decide)
  split
  · refine goes_put (fun h => by simp [evTxC, hk h]) ?_
    cases m <;> simp [evTxC]
  · exact ⟨rfl, hk⟩
theorem goes_cnt {s : List Bx} (m : Bool) (v : Nat) (hk : keyB s = false) (hd : s.length < 16) : GoesC (.live s) (cntP s m v) := by
  unfold cntP
  split
  · exact goes_bad 7 (by decide)
  · exact goes_begin_c hk (by omega) hd
theorem goes_int {s : List Bx} (y : Bool) (v : Nat) (hk : keyB s = false) : GoesC (.live s) (putC s (evIntC y v)) := goes_put (fun h => by rw [hk] at h; cases h) (.inr (.inr (.inl rfl)))
theorem goes_hed {s : List Bx} {k w v : Nat} (hk : keyB s = true → k = 3) (hd : 4 ≤ k → s.length < 16) : GoesC (.live s) (hedP s k w v) := by
  have hkf : k ≠ 3 → keyB s = false := fun h => by
    cases hq : keyB s with
    | false => rfl
    | true => exact absurd (hk hq) h
  unfold hedP
  split
  · exact goes_int _ _ (hkf (by omega))
  split
  · unfold sgnP
    split
    · exact goes_int _ _ (hkf (by omega))
    · exact goes_int _ _ (hkf (by omega))
  split
  · exact goes_len v (fun h => by have := hk h; omega)
  split
  · exact goes_len v (fun _ => rfl)
  · rename_i h0 h1 h2 h3
    by_cases h4 : 4 ≤ k
    · exact goes_cnt _ _ (hkf h3) (hd h4)
    · omega
theorem goesIte {c : Ck} {p : Prop} [Decidable p] {x y : Pm × List Ev} (hx : p → GoesP c x) (hy : ¬ p → GoesP c y) : GoesP c (if p then x else y) := by
  by_cases h : p
  · rw [if_pos h]; exact hx h
  · rw [if_neg h]; exact hy h
theorem goes_cntL {s : List Bx} {m : Bool} {v : Nat} (hk : keyB s = false) (hd : s.length < 16) : GoesP (.live s) (liftP (cntP s m v)) := goes_lift (goes_cnt m v hk hd)
theorem goes_lenL {s : List Bx} {m : Bool} {v : Nat} (hk : keyB s = true → m = true) : GoesP (.live s) (liftP (lenP s m v)) := goes_lift (goes_len v hk)
theorem goes_firstP (D : Nat) (hD : D ≤ 16) {s : List Bx} (b : Nat) (hb : b < 256) : GoesP (.live s) (firstP D s false b) := by
  refine goesIte (fun _ => goes_badP 2 (by decide)) (fun h1 => ?_)
  refine goesIte (fun _ => goes_badP 8 (by decide)) (fun hkey => ?_)
  have hk : ¬ ((160 ≤ b ∧ b ≤ 191) ∨ (217 ≤ b ∧ b ≤ 219)) → keyB s = false := fun h => by
    cases hq : keyB s with
    | false => rfl
    | true => exact absurd ⟨hq, by unfold textP; rw [decide_eq_false_iff_not]; exact h⟩ hkey
  refine goesIte (fun _ => goes_badP 8 (by decide)) (fun hext => ?_)
  refine goesIte (fun _ => goes_badP 6 (by decide)) (fun hfl => ?_)
  refine goesIte (fun _ => goes_badP 4 (by decide)) (fun hcont => ?_)
  have hext2 : ¬ ((199 ≤ b ∧ b ≤ 201) ∨ (212 ≤ b ∧ b ≤ 216)) := fun h => hext (by unfold extP; rw [decide_eq_true_eq]; exact h)
  have hlen : ((128 ≤ b ∧ b ≤ 159) ∨ (220 ≤ b ∧ b ≤ 223)) → s.length < 16 := fun h => by
    by_cases h2 : D ≤ s.length
    · exact absurd ⟨by unfold contP; rw [decide_eq_true_eq]; exact h, h2⟩ hcont
    · omega
  have no : ∀ {k : Nat}, ¬ ((160 ≤ b ∧ b ≤ 191) ∨ (217 ≤ b ∧ b ≤ 219)) → keyB s = true → k = 3 := fun h hq => by rw [hk h] at hq; cases hq
  refine goesIte (fun h => goes_lift (goes_int _ _ (hk (by omega)))) (fun g1 => ?_)
  refine goesIte (fun h => goes_cntL (hk (by omega)) (hlen (by omega))) (fun g2 => ?_)
  refine goesIte (fun h => goes_cntL (hk (by omega)) (hlen (by omega))) (fun g3 => ?_)
  refine goesIte (fun h => goes_lenL (fun _ => rfl)) (fun g4 => ?_)
  refine goesIte (fun h => goes_lift (goes_put (fun hq => by rw [hk (by omega)] at hq; cases hq) (.inl rfl))) (fun g5 => ?_)
  refine goesIte (fun h => goes_lift (goes_put (fun hq => by rw [hk (by omega)] at hq; cases hq) (.inr (.inl rfl)))) (fun g6 => ?_)
  refine goesIte (fun h => ⟨⟨rfl, no (by omega), fun h => by omega⟩⟩) (fun g7 => ?_)
  refine goesIte (fun h => ⟨⟨rfl, no (by omega), fun h => by omega⟩⟩) (fun g8 => ?_)
  refine goesIte (fun h => ⟨⟨rfl, no (by omega), fun h => by omega⟩⟩) (fun g9 => ?_)
  refine goesIte (fun h => ⟨⟨rfl, fun _ => rfl, fun h => by omega⟩⟩) (fun g10 => ?_)
  refine goesIte (fun h => ⟨⟨rfl, no (by omega), fun _ => hlen (by omega)⟩⟩) (fun g11 => ?_)
  refine goesIte (fun h => ⟨⟨rfl, no (by omega), fun _ => hlen (by omega)⟩⟩) (fun g12 => ?_)
  exact goes_lift (goes_int _ _ (hk (by omega)))
theorem goes_stepP (D : Nat) (hD : D ≤ 16) (c : Ck) (s : Pm) (b : UInt8) (h : InvP c s) : GoesP c (stepPm D s b) := by
  cases s with
  | num s k w n a =>
    obtain ⟨rfl, hk, hd⟩ := h
    simp only [stepPm]
    split
    · exact goes_lift (goes_hed hk hd)
    · exact ⟨⟨rfl, hk, hd⟩⟩
  | c x =>
    cases x with
    | bad e => exact ⟨h⟩
    | item s dn =>
      cases dn with
      | true =>
        obtain ⟨hc, hs⟩ : c = .done ∧ s = [] := by simpa [InvP, InvC] using h
        have : stepPm D (.c (.item s true)) b = (.c (.bad 2), []) := by
          simp only [stepPm, firstP]
          simp
        rw [this, hc]
        exact ⟨⟨.inr rfl, by decide⟩⟩
      | false =>
        obtain rfl : c = .live s := by simpa [InvP, InvC] using h
        exact goes_firstP D hD b.toNat b.toNat_lt
    | text s m n t u => exact goes_lift (goes_step D hD c _ b h trivial)
    | head s g => exact ⟨h⟩
    | open_ s m t => exact ⟨h⟩
    | chead s m t g => exact ⟨h⟩
    | ctext s m t n u => exact ⟨h⟩
theorem goes_allP (D : Nat) (hD : D ≤ 16) : ∀ (l : List UInt8) (c : Ck) (s : Pm), InvP c s → InvP (runC c (runPm D s l).2) (runPm D s l).1
  | [], c, s, h => h
  | b :: l, c, s, h => by
    have h1 := goes_stepP D hD c s b h
    have h2 := goes_allP D hD l _ _ h1.inv
    simp only [runPm, runC_append]
    exact h2
/-- WHAT IS READ WITHOUT AN ERROR IS ONE DOCUMENT; with one, the beginning of one, or one. -/
theorem all_checkP (D : Nat) (hD : D ≤ 16) (b : List UInt8) : ((allPm D b).2 = 0 → checkE (allPm D b).1 = 0) ∧ (checkE (allPm D b).1 = 0 ∨ checkE (allPm D b).1 = 3) := by
  have h := goes_allP D hD b (.live []) pm0 (by simp [InvP, InvC, pm0, ci0])
  unfold allPm
  generalize runPm D pm0 b = r at h ⊢
  obtain ⟨s, l⟩ := r
  simp only at h ⊢
  have hpart : (∃ s, runC (.live []) l = .live s) ∨ runC (.live []) l = .done := by
    cases s with
    | c x => exact inv_part h
    | num s k w n a => exact .inl ⟨s, h.1⟩
  refine ⟨fun he => ?_, ?_⟩
  · cases s with
    | num s k w n a => cases he
    | c x =>
      cases x with
      | bad e => exact absurd he h.2
      | item s dn =>
        cases dn with
        | true =>
          have : runC (.live []) l = .done := (by simpa [InvP, InvC] using h : runC (.live []) l = .done ∧ s = []).1
          unfold checkE
          rw [this]
          rfl
        | false => cases he
      | head _ _ => cases he
      | text _ _ _ _ _ => cases he
      | open_ _ _ _ => cases he
      | chead _ _ _ _ => cases he
      | ctext _ _ _ _ _ => cases he
  · unfold checkE
    rcases hpart with ⟨s', h⟩ | h
    · rw [h]; exact .inr rfl
    · rw [h]; exact .inl rfl
end Go.Proofs.Ytonjdnahplphhaa
/-
  NO PROGRAM NEEDED: parts as MessagePack (on the machine of PinPure): what is written so is read as it was.
-/
namespace Go.Proofs.Ytonjdnahplphhaa
open Go.Lib
/-- A length in one byte, two or four (none of one, where that first byte is 0). -/
def lenBs (one two four v : Nat) : List UInt8 :=
  if one ≠ 0 ∧ v < 256 then UInt8.ofNat one :: bigB 1 v else if v < 65536 then UInt8.ofNat two :: bigB 2 v else UInt8.ofNat four :: bigB 4 v
def intPk (y : Bool) (v : Nat) : List UInt8 :=
  if y = false then (if v < 128 then [UInt8.ofNat v] else if v < 256 then UInt8.ofNat 204 :: bigB 1 v else if v < 65536 then UInt8.ofNat 205 :: bigB 2 v else if v < 4294967296 then UInt8.ofNat 206 :: bigB 4 v else UInt8.ofNat 207 :: bigB 8 v)
  else if v < 32 then [UInt8.ofNat (255 - v)]
  else if v < 128 then UInt8.ofNat 208 :: bigB 1 (18446744073709551615 - v) else if v < 32768 then UInt8.ofNat 209 :: bigB 2 (18446744073709551615 - v) else if v < 2147483648 then UInt8.ofNat 210 :: bigB 4 (18446744073709551615 - v) else UInt8.ofNat 211 :: bigB 8 (18446744073709551615 - v)
def txPk (m : Bool) (n : Nat) : List UInt8 := if m = true then (if n < 32 then [UInt8.ofNat (160 + n)] else lenBs 217 218 219 n) else lenBs 196 197 198 n
def cntPk (m : Bool) (n : Nat) : List UInt8 := if m = true then (if n < 16 then [UInt8.ofNat (128 + n)] else lenBs 0 222 223 n) else (if n < 16 then [UInt8.ofNat (144 + n)] else lenBs 0 220 221 n)
/-- The bytes of a part. -/
def writeP (e : Ev) : List UInt8 :=
  if e.k = 7 then []
  else if e.k = 0 then [192]
  else if e.k = 1 then [if e.y = true then 195 else 194]
  else if e.k = 2 then intPk e.y e.m
  else if e.k = 3 ∨ e.k = 4 then txPk (decide (e.k = 3)) e.t.data.toList.length ++ e.t.data.toList
  else cntPk (decide (e.k = 6)) e.c.toNat
/-- What MessagePack cannot hold. -/
def rangeP (e : Ev) : Prop := e.k = 2 ∧ e.y = true ∧ 9223372036854775808 ≤ e.m ∨ (e.k = 5 ∨ e.k = 6) ∧ (e.c < 0 ∨ 4294967295 < e.c)
def writeAllP : List Ev → List UInt8
  | [] => []
  | e :: l => writeP e ++ writeAllP l
structure GoodP (e : Ev) : Prop where
  good : GoodK e
  fits : ¬ rangeP e
/-! ### Heads -/
/-- An item's first byte, where it is none of those that are refused. -/
def restP (s : List Bx) (b : Nat) : Pm × List Ev :=
  if b < 128 then liftP (putC s (evIntC false b))
  else if b < 144 then liftP (cntP s true (b - 128))
  else if b < 160 then liftP (cntP s false (b - 144))
  else if b < 192 then liftP (lenP s true (b - 160))
  else if b = 192 then liftP (putC s evNull)
  else if b < 196 then liftP (putC s (evBoolC (decide (b = 195))))
  else if b < 199 then (.num s 2 (2 ^ (b - 196)) (2 ^ (b - 196)) 0, [])
  else if b < 208 then (.num s 0 (2 ^ (b - 204)) (2 ^ (b - 204)) 0, [])
  else if b < 212 then (.num s 1 (2 ^ (b - 208)) (2 ^ (b - 208)) 0, [])
  else if b < 220 then (.num s 3 (2 ^ (b - 217)) (2 ^ (b - 217)) 0, [])
  else if b < 222 then (.num s 4 (2 ^ (b - 219)) (2 ^ (b - 219)) 0, [])
  else if b < 224 then (.num s 5 (2 ^ (b - 221)) (2 ^ (b - 221)) 0, [])
  else liftP (putC s (evIntC true (255 - b)))
theorem firstP_pass {D : Nat} {s : List Bx} {b : Nat} (h1 : b ≠ 193) (h2 : keyB s = true → (160 ≤ b ∧ b ≤ 191) ∨ (217 ≤ b ∧ b ≤ 219)) (h3 : ¬ ((199 ≤ b ∧ b ≤ 201) ∨ (212 ≤ b ∧ b ≤ 216))) (h4 : ¬ (b = 202 ∨ b = 203)) (h5 : ((128 ≤ b ∧ b ≤ 159) ∨ (220 ≤ b ∧ b ≤ 223)) → s.length < D) : firstP D s false b = restP s b := by
  unfold firstP restP
  rw [if_neg (by rintro (h | h); cases h; exact h1 h), if_neg (fun h => absurd h.2 (by unfold textP; rw [decide_eq_false_iff_not]; exact fun hn => hn (h2 h.1))), if_neg (by unfold extP; rw [decide_eq_true_eq]; exact h3), if_neg h4, if_neg (fun h => by
    have h6 := h.1
    unfold contP at h6
    rw [decide_eq_true_eq] at h6
    have := h5 h6
    have := h.2
    omega)]
theorem numP_read (D : Nat) (s : List Bx) (k w : Nat) : ∀ (l : List UInt8) (a : Nat), l ≠ [] → runPm D (.num s k w l.length a) l = liftP (hedP s k w (valB a l))
  | [], _, h => absurd rfl h
  | [b], a, _ => by
    have h1 : stepPm D (.num s k w [b].length a) b = liftP (hedP s k w (a * 256 + b.toNat)) := by
      simp only [stepPm]
      rw [if_pos (by rfl)]
    rw [runPm, h1]
    simp only [runPm, List.append_nil, valB]
  | b :: c :: t, a, _ => by
    have h1 : stepPm D (.num s k w (b :: c :: t).length a) b = (.num s k w (c :: t).length (a * 256 + b.toNat), []) := by
      simp only [stepPm]
      rw [if_neg (by simp)]
      rfl
    rw [runPm, h1]
    simp only [List.nil_append]
    rw [numP_read D s k w (c :: t) _ (by simp)]
    simp only [valB]
theorem longP_read {D : Nat} {s : List Bx} {k w b0 v : Nat} (hb : b0 < 256) (hw : 0 < w) (h : firstP D s false b0 = (.num s k w w 0, [])) : runPm D (.c (.item s false)) (UInt8.ofNat b0 :: bigB w v) = liftP (hedP s k w (v % 256 ^ w)) := by
  have h1 : stepPm D (.c (.item s false)) (UInt8.ofNat b0) = (.num s k w w 0, []) := by
    simp only [stepPm]
    rw [byte_eq _ hb, h]
  rw [runPm, h1]
  simp only [List.nil_append]
  have h2 := numP_read D s k w (bigB w v) 0 (by intro h; have := congrArg List.length h; rw [bigB_length] at this; simp at this; omega)
  rw [bigB_length, valB_big] at h2
  rw [h2]
theorem shortP_read {D : Nat} {s : List Bx} {b0 : Nat} {r : Pm × List Ev} (hb : b0 < 256) (h : firstP D s false b0 = r) : runPm D (.c (.item s false)) [UInt8.ofNat b0] = r := by
  have h1 : stepPm D (.c (.item s false)) (UInt8.ofNat b0) = r := by
    simp only [stepPm]
    rw [byte_eq _ hb, h]
  rw [runPm, h1]
  simp only [runPm, List.append_nil]
theorem hed_int {s : List Bx} {w v : Nat} : hedP s 0 w v = putC s (evIntC false v) := by
  unfold hedP
  rw [if_pos rfl]
theorem hed_sgn {s : List Bx} {w v : Nat} : hedP s 1 w v = putC s (sgnP w v) := by
  unfold hedP
  rw [if_neg (by decide), if_pos rfl]
theorem hed_tx {s : List Bx} {w v : Nat} (m : Bool) : hedP s (if m = true then 3 else 2) w v = lenP s m v := by
  unfold hedP
  cases m
  · rw [if_neg (by decide), if_neg (by decide), if_pos (by decide)]
  · rw [if_neg (by decide), if_neg (by decide), if_neg (by decide), if_pos (by decide)]
theorem hed_cnt {s : List Bx} {w v : Nat} (m : Bool) : hedP s (if m = true then 5 else 4) w v = cntP s m v := by
  unfold hedP
  cases m
  · rw [if_neg (by decide), if_neg (by decide), if_neg (by decide), if_neg (by decide)]
    rfl
  · rw [if_neg (by decide), if_neg (by decide), if_neg (by decide), if_neg (by decide)]
    rfl
theorem intP_read {D : Nat} {s : List Bx} {y : Bool} {v : Nat} (hk : ¬ keyB s = true) (hv : v < 18446744073709551616) (hy : y = true → v < 9223372036854775808) : runPm D (.c (.item s false)) (intPk y v) = liftP (putC s (evIntC y v)) := by
  have first : ∀ b : Nat, (204 ≤ b ∧ b ≤ 211) ∨ b < 128 ∨ 224 ≤ b → firstP D s false b = restP s b := fun b hb => firstP_pass (by omega) (fun h => absurd h hk) (by omega) (by omega) (by omega)
  unfold intPk
  cases y with
  | false =>
    rw [if_pos rfl]
    split
    · refine shortP_read (by omega) ?_
      rw [first _ (by omega)]
      unfold restP
      rw [if_pos (by assumption)]
    split
    · rw [longP_read (k := 0) (w := 1) (by decide) (by decide) (by rw [first _ (by decide)]; rfl), hed_int, Nat.mod_eq_of_lt (by omega)]
    split
    · rw [longP_read (k := 0) (w := 2) (by decide) (by decide) (by rw [first _ (by decide)]; rfl), hed_int, Nat.mod_eq_of_lt (by omega)]
    split
    · rw [longP_read (k := 0) (w := 4) (by decide) (by decide) (by rw [first _ (by decide)]; rfl), hed_int, Nat.mod_eq_of_lt (by omega)]
    · rw [longP_read (k := 0) (w := 8) (by decide) (by decide) (by rw [first _ (by decide)]; rfl), hed_int, Nat.mod_eq_of_lt (by omega)]
  | true =>
    have hv2 := hy rfl
    have sg : ∀ w x : Nat, 256 ^ w ≤ 2 * x → 256 ^ w - 1 - x = v → sgnP w x = evIntC true v := fun w x h1 h2 => by
      unfold sgnP
      rw [if_pos h1, h2]
    rw [if_neg (by decide)]
    split
    · refine shortP_read (by omega) ?_
      rw [first _ (by omega)]
      unfold restP
      rw [if_neg (by omega), if_neg (by omega), if_neg (by omega), if_neg (by omega), if_neg (by omega), if_neg (by omega), if_neg (by omega), if_neg (by omega), if_neg (by omega), if_neg (by omega), if_neg (by omega), if_neg (by omega), show 255 - (255 - v) = v by omega]
    split
    · rw [longP_read (k := 1) (w := 1) (by decide) (by decide) (by rw [first _ (by decide)]; rfl), hed_sgn, sg _ _ (by omega) (by omega)]
    split
    · rw [longP_read (k := 1) (w := 2) (by decide) (by decide) (by rw [first _ (by decide)]; rfl), hed_sgn, sg _ _ (by omega) (by omega)]
    split
    · rw [longP_read (k := 1) (w := 4) (by decide) (by decide) (by rw [first _ (by decide)]; rfl), hed_sgn, sg _ _ (by omega) (by omega)]
    · rw [longP_read (k := 1) (w := 8) (by decide) (by decide) (by rw [first _ (by decide)]; rfl), hed_sgn, sg _ _ (by omega) (by omega)]
theorem txP_read {D : Nat} {s : List Bx} {m : Bool} {n : Nat} (hk : keyB s = true → m = true) (hn : n < 4294967296) : runPm D (.c (.item s false)) (txPk m n) = liftP (lenP s m n) := by
  unfold txPk lenBs
  cases m with
  | true =>
    have first : ∀ b : Nat, (160 ≤ b ∧ b < 192) ∨ (217 ≤ b ∧ b ≤ 219) → firstP D s false b = restP s b := fun b hb => firstP_pass (by omega) (fun _ => by omega) (by omega) (by omega) (by omega)
    rw [if_pos rfl]
    split
    · refine shortP_read (by omega) ?_
      rw [first _ (by omega)]
      unfold restP
      rw [if_neg (by omega), if_neg (by omega), if_neg (by omega), if_pos (by omega), show 160 + n - 160 = n by omega]
    split
    · rw [longP_read (k := 3) (w := 1) (by decide) (by decide) (by rw [first _ (by decide)]; rfl), Nat.mod_eq_of_lt (by omega)]
      exact congrArg liftP (hed_tx true)
    split
    · rw [longP_read (k := 3) (w := 2) (by decide) (by decide) (by rw [first _ (by decide)]; rfl), Nat.mod_eq_of_lt (by omega)]
      exact congrArg liftP (hed_tx true)
    · rw [longP_read (k := 3) (w := 4) (by decide) (by decide) (by rw [first _ (by decide)]; rfl), Nat.mod_eq_of_lt (by omega)]
      exact congrArg liftP (hed_tx true)
  | false =>
    have first : ∀ b : Nat, (196 ≤ b ∧ b < 199) → firstP D s false b = restP s b := fun b hb => firstP_pass (by omega) (fun h => absurd (hk h) (by decide)) (by omega) (by omega) (by omega)
    rw [if_neg (by decide)]
    split
    · rw [longP_read (k := 2) (w := 1) (by decide) (by decide) (by rw [first _ (by decide)]; rfl), Nat.mod_eq_of_lt (by omega)]
      exact congrArg liftP (hed_tx false)
    split
    · rw [longP_read (k := 2) (w := 2) (by decide) (by decide) (by rw [first _ (by decide)]; rfl), Nat.mod_eq_of_lt (by omega)]
      exact congrArg liftP (hed_tx false)
    · rw [longP_read (k := 2) (w := 4) (by decide) (by decide) (by rw [first _ (by decide)]; rfl), Nat.mod_eq_of_lt (by omega)]
      exact congrArg liftP (hed_tx false)
theorem cntP_read {D : Nat} {s : List Bx} {m : Bool} {n : Nat} (hk : ¬ keyB s = true) (hd : s.length < D) (hn : n < 4294967296) : runPm D (.c (.item s false)) (cntPk m n) = liftP (cntP s m n) := by
  have first : ∀ b : Nat, (128 ≤ b ∧ b < 160) ∨ (220 ≤ b ∧ b ≤ 223) → firstP D s false b = restP s b := fun b hb => firstP_pass (by omega) (fun h => absurd h hk) (by omega) (by omega) (fun _ => hd)
  unfold cntPk lenBs
  cases m with
  | true =>
    rw [if_pos rfl]
    split
    · refine shortP_read (by omega) ?_
      rw [first _ (by omega)]
      unfold restP
      rw [if_neg (by omega), if_pos (by omega), show 128 + n - 128 = n by omega]
    rw [if_neg (fun h => h.1 rfl)]
    split
    · rw [longP_read (k := 5) (w := 2) (by decide) (by decide) (by rw [first _ (by decide)]; rfl), Nat.mod_eq_of_lt (by omega)]
      exact congrArg liftP (hed_cnt true)
    · rw [longP_read (k := 5) (w := 4) (by decide) (by decide) (by rw [first _ (by decide)]; rfl), Nat.mod_eq_of_lt (by omega)]
      exact congrArg liftP (hed_cnt true)
  | false =>
    rw [if_neg (by decide)]
    split
    · refine shortP_read (by omega) ?_
      rw [first _ (by omega)]
      unfold restP
      rw [if_neg (by omega), if_neg (by omega), if_pos (by omega), show 144 + n - 144 = n by omega]
    rw [if_neg (fun h => h.1 rfl)]
    split
    · rw [longP_read (k := 4) (w := 2) (by decide) (by decide) (by rw [first _ (by decide)]; rfl), Nat.mod_eq_of_lt (by omega)]
      exact congrArg liftP (hed_cnt false)
    · rw [longP_read (k := 4) (w := 4) (by decide) (by decide) (by rw [first _ (by decide)]; rfl), Nat.mod_eq_of_lt (by omega)]
      exact congrArg liftP (hed_cnt false)
/-! ### Texts -/
theorem text_readP (D : Nat) (s : List Bx) (m : Bool) : ∀ (l t : List UInt8) (u : Option (Nat × Nat × Nat)), l ≠ [] → (m = true → wholeS (runS u l) = true) → runPm D (.c (.text s m l.length t u)) l = liftP (putC s (evTxC m (t ++ l)))
  | [], _, _, h, _ => absurd rfl h
  | b :: l, t, u, _, hw => by
    have hn : ¬ (m = true ∧ nextU m u b = none) := by
      rintro ⟨rfl, h⟩
      have := hw rfl
      simp only [nextU, if_true] at h
      rw [runS_cons, h, runS_none] at this
      cases this
    cases l with
    | nil =>
      have h2 : ¬ (m = true ∧ wholeS (nextU m u b) = false) := by
        rintro ⟨rfl, h⟩
        have := hw rfl
        simp only [nextU, if_true] at h
        rw [runS_cons, runS_nil, h] at this
        cases this
      have h1 : stepPm D (.c (.text s m [b].length t u)) b = liftP (putC s (evTxC m (t ++ [b]))) := by
        simp only [stepPm, stepCi]
        rw [if_neg hn, if_pos (by simp), if_neg h2]
      rw [runPm, h1]
      simp only [runPm, List.append_nil]
    | cons c l =>
      have h1 : stepPm D (.c (.text s m (b :: c :: l).length t u)) b = (.c (.text s m (c :: l).length (t ++ [b]) (nextU m u b)), []) := by
        simp only [stepPm, stepCi]
        rw [if_neg hn, if_neg (by simp)]
        rfl
      rw [runPm, h1]
      simp only [List.nil_append]
      rw [text_readP D s m (c :: l) (t ++ [b]) (nextU m u b) (by simp) (by rintro rfl; have := hw rfl; rw [runS_cons] at this; exact this)]
      simp
theorem tx_readP (D : Nat) (s : List Bx) (m : Bool) (l : List UInt8) (hk : keyB s = true → m = true) (hl : l.length ≤ 200) (hw : m = true → wholeS (runS st0 l) = true) : runPm D (.c (.item s false)) (txPk m l.length ++ l) = liftP (putC s (evTxC m l)) := by
  rw [runPm_append, txP_read hk (by omega)]
  unfold lenP
  rw [if_neg (by omega)]
  by_cases hn : l = []
  · subst hn
    rw [if_pos (by rfl)]
    simp only [runPm, List.append_nil]
  · have hlen : l.length ≠ 0 := by simpa using hn
    rw [if_neg hlen]
    simp only [liftP, List.nil_append]
    rw [text_readP D s m l [] st0 hn hw]
    rfl
/-! ### A part -/
theorem item_readP (D : Nat) (s : List Bx) (e : Ev) (hg : GoodP e) (h7 : e.k ≠ 7) (hk : keyB s = true → e.k = 3) (hd : e.k = 5 ∨ e.k = 6 → s.length < D) : runPm D (.c (.item s false)) (writeP e) = (.c (atC (itemOf s e)), e :: endsC (itemOf s e)) := by
  obtain ⟨⟨hkind, ht, hc, hm, htx⟩, hr⟩ := hg
  obtain ⟨k, y, m, t, c⟩ := e
  simp only [rangeP] at h7 hk hd hkind hc hm htx hr
  have hkf : k ≠ 3 → ¬ keyB s = true := fun h h' => h (hk h')
  have hcs : k = 0 ∨ k = 1 ∨ k = 2 ∨ k = 3 ∨ k = 4 ∨ k = 5 ∨ k = 6 := by omega
  rcases hcs with rfl | rfl | rfl | rfl | rfl | rfl | rfl
  · have he : (⟨0, y, m, t, c⟩ : Ev) = evNull := ht.symm
    rw [he]
    refine shortP_read (b0 := 192) (by decide) ?_
    rw [firstP_pass (by decide) (fun h => absurd h (hkf (by decide))) (by decide) (by decide) (by intro h; omega)]
    rfl
  · have he : (⟨1, y, m, t, c⟩ : Ev) = evBoolC y := ht.symm
    rw [he]
    cases y
    · refine shortP_read (b0 := 194) (by decide) ?_
      rw [firstP_pass (by decide) (fun h => absurd h (hkf (by decide))) (by decide) (by decide) (by intro h; omega)]
      rfl
    · refine shortP_read (b0 := 195) (by decide) ?_
      rw [firstP_pass (by decide) (fun h => absurd h (hkf (by decide))) (by decide) (by decide) (by intro h; omega)]
      rfl
  · have he : (⟨2, y, m, t, c⟩ : Ev) = evIntC y m := ht.symm
    rw [he]
    have hw : writeP (evIntC y m) = intPk y m := rfl
    rw [hw, intP_read (hkf (by decide)) hm (fun hy => by
      by_cases h9 : m < 9223372036854775808
      · exact h9
      · exact absurd (.inl ⟨rfl, hy, by omega⟩) hr)]
    rfl
  · have he : (⟨3, y, m, t, c⟩ : Ev) = evTxC true t.data.toList := ht.symm
    have hw : writeP ⟨3, y, m, t, c⟩ = txPk true t.data.toList.length ++ t.data.toList := rfl
    have hwh : wholeS (runS st0 t.data.toList) = true := by
      rw [← valid_run]
      exact htx.2 rfl
    rw [hw, tx_readP D s true _ (fun _ => rfl) htx.1 (fun _ => hwh), he]
    rfl
  · have he : (⟨4, y, m, t, c⟩ : Ev) = evTxC false t.data.toList := ht.symm
    have hw : writeP ⟨4, y, m, t, c⟩ = txPk false t.data.toList.length ++ t.data.toList := rfl
    rw [hw, tx_readP D s false _ (fun h => absurd h (hkf (by decide))) htx.1 (fun h => by cases h), he]
    rfl
  · have he : (⟨5, y, m, t, c⟩ : Ev) = evBegC false c := ht.symm
    have h0 : 0 ≤ c := by
      by_cases h0 : 0 ≤ c
      · exact h0
      · exact absurd (.inr ⟨.inl rfl, .inl (by omega)⟩) hr
    have hw : writeP ⟨5, y, m, t, c⟩ = cntPk false c.toNat := rfl
    rw [hw, cntP_read (hkf (by decide)) (hd (by decide)) (by omega), he]
    unfold cntP
    rw [if_neg (by omega), Int.toNat_of_nonneg h0]
    rfl
  · have he : (⟨6, y, m, t, c⟩ : Ev) = evBegC true c := ht.symm
    have h0 : 0 ≤ c := by
      by_cases h0 : 0 ≤ c
      · exact h0
      · exact absurd (.inr ⟨.inr rfl, .inl (by omega)⟩) hr
    have hw : writeP ⟨6, y, m, t, c⟩ = cntPk true c.toNat := rfl
    rw [hw, cntP_read (hkf (by decide)) (hd (by decide)) (by omega), he]
    unfold cntP
    rw [if_neg (by omega), Int.toNat_of_nonneg h0]
    rfl
/-! ### A whole document -/
theorem good_cnt {e : Ev} (h : GoodP e) (hk : e.k = 5 ∨ e.k = 6) : 0 ≤ e.c := by
  by_cases h0 : 0 ≤ e.c
  · exact h0
  · exact absurd (.inr ⟨hk, .inl (by omega)⟩) h.fits
def CntB (s : List Bx) : Prop := ∀ b ∈ s, 0 ≤ b.c
theorem cntB_inc {s : List Bx} (h : CntB s) : CntB (incB s) := by
  cases s with
  | nil => exact h
  | cons b r =>
    intro x hx
    rcases List.mem_cons.1 hx with rfl | hx
    · exact h b (by simp)
    · exact h x (by simp [hx])
theorem cntB_item {s : List Bx} {e : Ev} (h : CntB s) (he : GoodP e) : CntB (itemOf s e) := by
  unfold itemOf
  split
  · intro x hx
    rcases List.mem_cons.1 hx with rfl | hx
    · exact good_cnt he (by assumption)
    · exact cntB_inc h x hx
  · exact cntB_inc h
theorem back_runP (D : Nat) : ∀ (l : List Ev) (s : List Bx), CntB s → runC (.live s) l = .done → (∀ e ∈ l, GoodP e) → DeepW D s l → ∃ ps, runPm D (.c (jC s)) (writeAllP l) = (.c (.item [] true), ps) ∧ l = endsC s ++ ps
  | [], s, _, h, _, _ => by simp [runC] at h
  | e :: l, s, hcb, h, hg, hd => by
    have hge := hg e (by simp)
    have hgl : ∀ x ∈ l, GoodP x := fun x hx => hg x (by simp [hx])
    have hlast : ∀ s' : List Bx, CntB s' → stepC (.live s) e = ckS s' → s' ≠ [] → ∃ ps, runPm D (.c (atC s')) (writeAllP l) = (.c (.item [] true), ps) ∧ l = endsC s' ++ ps := by
      intro s' hc' hs hne
      have hs2 : stepC (.live s) e = .live s' := by rw [hs]; exact if_neg hne
      have hd2 := hd.2
      rw [runC_cons, hs2] at h
      rw [hs2] at hd2
      have := back_runP D l s' hc' h hgl hd2
      unfold jC at this
      rwa [if_neg hne] at this
    have hall : ∀ s' : List Bx, stepC (.live s) e = ckS s' → s' = [] → l = [] := by
      intro s' hs hne
      have h2 := h
      rw [runC_cons, hs] at h2
      unfold ckS at h2
      rw [if_pos hne] at h2
      exact runC_done h2
    by_cases h7 : e.k = 7
    · obtain rfl := good_end hge.good h7
      cases s with
      | nil =>
        rw [runC_cons, show stepC (.live []) evEnd = .bad 2 from rfl, runC_bad] at h
        cases h
      | cons b r =>
        have hns : ¬ shutB b := by
          intro hsb
          have : stepC (.live (b :: r)) evEnd = .bad 2 := by
            simp only [stepC]
            rw [if_neg (by decide), if_pos (by rfl), if_pos hsb]
          rw [runC_cons, this, runC_bad] at h
          cases h
        have hst := end_step (r := r) hns
        have hl := hall r hst
        have hj : jC (b :: r) = atC (b :: r) := if_neg (by simp)
        have hf : fullB b = true := shut_full hns (hcb b (by simp))
        obtain ⟨e1, e2⟩ := rest_full (r := r) hf
        have hw : writeAllP (evEnd :: l) = writeAllP l := rfl
        rw [hw, hj, e1, e2]
        by_cases hr : r = []
        · obtain rfl := hl hr
          subst hr
          exact ⟨[], rfl, rfl⟩
        · obtain ⟨ps, h1, h2⟩ := hlast r (fun x hx => hcb x (by simp [hx])) hst hr
          exact ⟨ps, h1, by rw [List.cons_append, ← h2]⟩
    · have hopen : jC s = .item s false ∧ endsC s = [] := by
        cases s with
        | nil => exact ⟨rfl, rfl⟩
        | cons b r =>
          have hj : jC (b :: r) = atC (b :: r) := if_neg (by simp)
          rw [hj]
          exact rest_open (fun hf => h7 (full_end hf h))
      have hbad : ∀ f, stepC (.live s) e ≠ .bad f := fun f hf => by
        rw [runC_cons, hf, runC_bad] at h
        cases h
      have hm : mayE e := by
        by_cases hm : mayE e
        · exact hm
        · exact absurd (by simp only [stepC]; rw [if_pos hm]) (hbad 2)
      have hkey : keyB s = true → e.k = 3 := by
        intro hk
        by_cases h3 : e.k = 3
        · exact h3
        · refine absurd ?_ (hbad 8)
          simp only [stepC]
          rw [if_neg (by simpa using hm), if_neg h7, if_pos ⟨hk, h3⟩]
      have hst : stepC (.live s) e = ckS (itemOf s e) := by
        have hb4 := hbad 4
        simp only [stepC] at hb4 ⊢
        rw [if_neg (by simpa using hm), if_neg h7, if_neg (fun h => h.2 (hkey h.1))] at hb4 ⊢
        unfold itemOf ckS
        by_cases h56 : e.k = 5 ∨ e.k = 6
        · rw [if_pos h56] at hb4 ⊢
          by_cases hl : 16 ≤ s.length
          · rw [if_pos hl] at hb4
            exact absurd rfl hb4
          · rw [if_neg hl, if_pos h56, if_neg (by simp)]
        · rw [if_neg h56, if_neg h56]
          cases s <;> rfl
      have hl := hall _ hst
      have hw : writeAllP (e :: l) = writeP e ++ writeAllP l := rfl
      rw [hw, hopen.1, hopen.2, runPm_append, item_readP D s e hge h7 hkey hd.1]
      simp only
      by_cases hr : itemOf s e = []
      · obtain rfl := hl hr
        rw [hr]
        exact ⟨[e], rfl, rfl⟩
      · obtain ⟨ps, h1, h2⟩ := hlast _ (cntB_item hcb hge) hst hr
        refine ⟨e :: endsC (itemOf s e) ++ ps, by rw [h1], ?_⟩
        rw [List.nil_append, List.cons_append, ← h2]
/-- WHAT IS WRITTEN AS MESSAGEPACK IS READ AS IT WAS. -/
theorem back_endP (D : Nat) (l : List Ev) (hc : checkE l = 0) (hg : ∀ e ∈ l, GoodP e) (hd : DeepW D [] l) : runPm D pm0 (writeAllP l) = (.c (.item [] true), l) := by
  obtain ⟨ps, h1, h2⟩ := back_runP D l [] (fun _ h => by cases h) (check_zero hc) hg hd
  rw [show pm0 = .c (jC []) from rfl, h1, h2]
  rfl
theorem back_allP (D : Nat) (l : List Ev) (hc : checkE l = 0) (hg : ∀ e ∈ l, GoodP e) (hd : DeepW D [] l) : allPm D (writeAllP l) = (l, 0) := by
  unfold allPm
  rw [back_endP D l hc hg hd]
  rfl
/-- Behind the end nothing more may come. -/
theorem shut_runP (D : Nat) (s : List Bx) (b : UInt8) (l : List UInt8) : runPm D (.c (.item s true)) (b :: l) = (.c (.bad 2), []) := by
  have h : stepPm D (.c (.item s true)) b = (.c (.bad 2), []) := by
    simp only [stepPm, firstP]
    rw [if_pos (.inl trivial)]
  rw [runPm, h]
  simp only [runPm_bad, List.append_nil]
theorem more_allP (D : Nat) (l : List Ev) (hc : checkE l = 0) (hg : ∀ e ∈ l, GoodP e) (hd : DeepW D [] l) (b : UInt8) (t : List UInt8) : allPm D (writeAllP l ++ b :: t) = (l, 2) := by
  unfold allPm
  rw [runPm_append, back_endP D l hc hg hd]
  simp only
  rw [shut_runP, List.append_nil]
  rfl
/-- A document that is cut anywhere is not at its end. -/
theorem cut_allP (D : Nat) (l : List Ev) (hc : checkE l = 0) (hg : ∀ e ∈ l, GoodP e) (hd : DeepW D [] l) (i : Nat) (hi : i < (writeAllP l).length) : (allPm D ((writeAllP l).take i)).2 = 3 := by
  have h := back_endP D l hc hg hd
  rw [← List.take_append_drop i (writeAllP l), runPm_append, List.drop_eq_getElem_cons hi] at h
  unfold allPm
  simp only
  generalize (runPm D pm0 ((writeAllP l).take i)).1 = j at h
  cases j with
  | num _ _ _ _ _ => rfl
  | c j =>
    cases j with
    | bad e =>
      rw [runPm_bad] at h
      cases h
    | item s dn =>
      cases dn with
      | true =>
        rw [shut_runP] at h
        cases h
      | false => rfl
    | head _ _ => rfl
    | text _ _ _ _ _ => rfl
    | open_ _ _ _ => rfl
    | chead _ _ _ _ => rfl
    | ctext _ _ _ _ _ => rfl
theorem write_someP (D : Nat) (l : List Ev) (hc : checkE l = 0) (hg : ∀ e ∈ l, GoodP e) (hd : DeepW D [] l) : writeAllP l ≠ [] := by
  intro hn
  have h := back_endP D l hc hg hd
  rw [hn] at h
  cases h
theorem writeP_take {l : List Ev} {j : Nat} (hj : j < l.length) : writeAllP (l.take (j + 1)) = writeAllP (l.take j) ++ writeP l[j] := by
  have snoc : ∀ (l : List Ev) (e : Ev), writeAllP (l ++ [e]) = writeAllP l ++ writeP e := fun l e => by
    induction l with
    | nil => simp [writeAllP]
    | cons x l ih => simp only [List.cons_append, writeAllP, ih, List.append_assoc]
  rw [List.take_add_one, List.getElem?_eq_getElem hj]
  exact snoc _ _
end Go.Proofs.Ytonjdnahplphhaa
/-
  NO PROGRAM NEEDED: MessagePack written part by part, whether a part may be or not: the bytes of each (writeP of PinBack), the error, whether the document is at its end (on the states of CoutPure).
-/
namespace Go.Proofs.Ytonjdnahplphhaa
open Go.Lib
instance (e : Ev) : Decidable (rangeP e) := by unfold rangeP; infer_instance
def stepR (o : Kq) (e : Ev) : (List UInt8 × Nat) × Kq :=
  if ¬ mayE e ∨ o.dn = true then (([], 14), o)
  else if e.k = 7 then
    match o.s with
    | [] => (([], 14), o)
    | b :: r => if shutB b then (([], 14), o) else (([], 0), ⟨r, r.isEmpty⟩)
  else if fulT o.s = true then (([], 14), o)
  else if keyB o.s = true ∧ e.k ≠ 3 then (([], 8), o)
  else if rangeP e then (([], 7), o)
  else if e.k = 5 ∨ e.k = 6 then ((writeP e, 0), ⟨⟨decide (e.k = 6), e.c, 0⟩ :: incB o.s, false⟩)
  else ((writeP e, 0), ⟨incB o.s, o.s.isEmpty⟩)
theorem stepR_bad (o : Kq) (e : Ev) (h : ¬ mayE e ∨ o.dn = true) : stepR o e = (([], 14), o) := if_pos h
theorem stepR_end {b : Bx} {r : List Bx} {e : Ev} (hm : mayE e) (h7 : e.k = 7) (h : ¬ shutB b) : stepR ⟨b :: r, false⟩ e = (([], 0), ⟨r, r.isEmpty⟩) := by
  unfold stepR
  rw [if_neg (by simp [hm]), if_pos h7]
  simp only
  rw [if_neg h]
theorem stepR_shut {b : Bx} {r : List Bx} {e : Ev} (hm : mayE e) (h7 : e.k = 7) (h : shutB b) : stepR ⟨b :: r, false⟩ e = (([], 14), ⟨b :: r, false⟩) := by
  unfold stepR
  rw [if_neg (by simp [hm]), if_pos h7]
  simp only
  rw [if_pos h]
theorem stepR_none {e : Ev} (hm : mayE e) (h7 : e.k = 7) : stepR ⟨[], false⟩ e = (([], 14), ⟨[], false⟩) := by
  unfold stepR
  rw [if_neg (by simp [hm]), if_pos h7]
theorem stepR_full {s : List Bx} {e : Ev} (hm : mayE e) (h7 : e.k ≠ 7) (hf : fulT s = true) : stepR ⟨s, false⟩ e = (([], 14), ⟨s, false⟩) := by
  unfold stepR
  rw [if_neg (by simp [hm]), if_neg h7, if_pos hf]
theorem stepR_key {s : List Bx} {e : Ev} (hm : mayE e) (h7 : e.k ≠ 7) (hf : fulT s = false) (hk : keyB s = true) (h3 : e.k ≠ 3) : stepR ⟨s, false⟩ e = (([], 8), ⟨s, false⟩) := by
  unfold stepR
  rw [if_neg (by simp [hm]), if_neg h7, if_neg (by simp [hf]), if_pos ⟨hk, h3⟩]
theorem stepR_range {s : List Bx} {e : Ev} (hm : mayE e) (h7 : e.k ≠ 7) (hf : fulT s = false) (hk : ¬ (keyB s = true ∧ e.k ≠ 3)) (hr : rangeP e) : stepR ⟨s, false⟩ e = (([], 7), ⟨s, false⟩) := by
  unfold stepR
  rw [if_neg (by simp [hm]), if_neg h7, if_neg (by simp [hf]), if_neg hk, if_pos hr]
theorem stepR_open {s : List Bx} {e : Ev} (hm : mayE e) (h56 : e.k = 5 ∨ e.k = 6) (hf : fulT s = false) (hk : keyB s = false) (hr : ¬ rangeP e) : stepR ⟨s, false⟩ e = ((writeP e, 0), ⟨⟨decide (e.k = 6), e.c, 0⟩ :: incB s, false⟩) := by
  unfold stepR
  rw [if_neg (by simp [hm]), if_neg (by omega), if_neg (by simp [hf]), if_neg (by simp [hk]), if_neg hr, if_pos h56]
theorem stepR_val {s : List Bx} {e : Ev} (hm : mayE e) (h7 : e.k ≠ 7) (h56 : ¬ (e.k = 5 ∨ e.k = 6)) (hf : fulT s = false) (hk : ¬ (keyB s = true ∧ e.k ≠ 3)) (hr : ¬ rangeP e) : stepR ⟨s, false⟩ e = ((writeP e, 0), ⟨incB s, s.isEmpty⟩) := by
  unfold stepR
  rw [if_neg (by simp [hm]), if_neg h7, if_neg (by simp [hf]), if_neg hk, if_neg hr, if_neg h56]
/-- All parts, one by one: the bytes ahead of the first error; the error; ErrArg of what is no part. -/
def allR : Kq → List Ev → List UInt8 × Nat
  | o, [] => ([], if o.dn = true then 0 else 3)
  | o, e :: l => if ¬ mayE e then ([], 1) else if (stepR o e).1.2 ≠ 0 then ([], (stepR o e).1.2) else ((stepR o e).1.1 ++ (allR (stepR o e).2 l).1, (allR (stepR o e).2 l).2)
theorem allR_cons_bad {o : Kq} {e : Ev} {l : List Ev} (h : ¬ mayE e) : allR o (e :: l) = ([], 1) := by simp only [allR]; rw [if_pos h]
theorem allR_cons_err {o : Kq} {e : Ev} {l : List Ev} (hm : mayE e) (h : (stepR o e).1.2 ≠ 0) : allR o (e :: l) = ([], (stepR o e).1.2) := by simp only [allR]; rw [if_neg (by simpa using hm), if_pos h]
theorem allR_cons_ok {o : Kq} {e : Ev} {l : List Ev} (hm : mayE e) (h : (stepR o e).1.2 = 0) : allR o (e :: l) = ((stepR o e).1.1 ++ (allR (stepR o e).2 l).1, (allR (stepR o e).2 l).2) := by
  simp only [allR]
  rw [if_neg (by simpa using hm), if_neg (by simp [h])]
theorem writeP_end {e : Ev} (h7 : e.k = 7) : writeP e = [] := by unfold writeP; rw [if_pos h7]
/-- What the writer of CBOR takes is taken, if MessagePack can hold it. -/
theorem stepR_ofQ {o : Kq} {e : Ev} (h : (stepQ o e).1.2 = 0) (hr : ¬ rangeP e) : stepR o e = ((writeP e, 0), (stepQ o e).2) := by
  unfold stepQ at h ⊢
  unfold stepR
  by_cases h1 : ¬ mayE e ∨ o.dn = true
  · rw [if_pos h1] at h; cases h
  rw [if_neg h1] at h ⊢
  rw [if_neg h1]
  by_cases h7 : e.k = 7
  · rw [if_pos h7] at h ⊢
    rw [if_pos h7, writeP_end h7]
    cases hs : o.s with
    | nil => rw [hs] at h; cases h
    | cons b r =>
      rw [hs] at h
      simp only at h ⊢
      by_cases hsh : shutB b
      · rw [if_pos hsh] at h; cases h
      · rw [if_neg hsh, if_neg hsh]
  rw [if_neg h7] at h ⊢
  rw [if_neg h7]
  by_cases hf : fulT o.s = true
  · rw [if_pos hf] at h; cases h
  rw [if_neg hf] at h ⊢
  rw [if_neg hf]
  by_cases hk : keyB o.s = true ∧ e.k ≠ 3
  · rw [if_pos hk] at h; cases h
  rw [if_neg hk] at h ⊢
  rw [if_neg hk, if_neg hr]
  by_cases h56 : e.k = 5 ∨ e.k = 6
  · rw [if_pos h56, if_pos h56]
  · rw [if_neg h56, if_neg h56]
/-- A part of a document that is one is written. -/
theorem step_ckR {s : List Bx} {e : Ev} {l : List Ev} (h : runC (.live s) (e :: l) = .done) (hr : ¬ rangeP e) : mayE e ∧ stepR ⟨s, false⟩ e = ((writeP e, 0), ckQ (stepC (.live s) e)) := by
  obtain ⟨hm, h1⟩ := step_ckQ h
  have := stepR_ofQ (by rw [h1]) hr
  rw [h1] at this
  exact ⟨hm, this⟩
theorem all_ckR : ∀ (l : List Ev) (s : List Bx), runC (.live s) l = .done → (∀ e ∈ l, ¬ rangeP e) → allR ⟨s, false⟩ l = (writeAllP l, 0)
  | [], s, h, _ => by cases h
  | e :: l, s, h, hr => by
    obtain ⟨hm, h1⟩ := step_ckR h (hr e (by simp))
    rw [allR_cons_ok hm (by rw [h1]), h1]
    rw [runC_cons] at h
    simp only [writeAllP]
    cases hc : stepC (.live s) e with
    | bad f => rw [hc, runC_bad] at h; cases h
    | live s' =>
      rw [hc] at h
      simp only [ckQ]
      rw [all_ckR l s' h (fun x hx => hr x (by simp [hx]))]
    | done =>
      rw [hc] at h
      rw [run_endedQ h]
      simp [ckQ, allR, writeAllP]
/-! ### Chapter 16's laws, over the machine -/
/-- PackoutWholes. -/
theorem wholes_allP (y : Bool) (v : Nat) : allR ⟨[], false⟩ [⟨2, y, v, ⟨#[]⟩, 0⟩] = if y = true ∧ 9223372036854775808 ≤ v then ([], 7) else (intPk y v, 0) := by
  have hm : mayE ⟨2, y, v, ⟨#[]⟩, 0⟩ := ⟨by simp, by simp, fun h => by simp at h⟩
  by_cases hr : y = true ∧ 9223372036854775808 ≤ v
  · rw [if_pos hr]
    have hs := stepR_range (s := []) (e := ⟨2, y, v, ⟨#[]⟩, 0⟩) hm (by simp) rfl (by simp [keyB]) (.inl ⟨rfl, hr⟩)
    rw [allR_cons_err hm (by rw [hs]; decide), hs]
  · rw [if_neg hr]
    have hn : ¬ rangeP ⟨2, y, v, ⟨#[]⟩, 0⟩ := by
      rintro (⟨_, h⟩ | ⟨h, _⟩)
      · exact hr h
      · simp at h
    have hs := stepR_val (s := []) (e := ⟨2, y, v, ⟨#[]⟩, 0⟩) hm (by simp) (by simp) rfl (by simp [keyB]) hn
    rw [allR_cons_ok hm (by rw [hs]), hs]
    simp [allR, writeP]
/-- PackoutTexts. -/
theorem texts_allP (m : Bool) (t : ByteArray) : allR ⟨[], false⟩ [⟨if m = true then 3 else 4, false, 0, t, 0⟩] = (txPk m t.data.toList.length ++ t.data.toList, 0) := by
  have hm : mayE ⟨if m = true then 3 else 4, false, 0, t, 0⟩ := by cases m <;> exact ⟨by simp, by simp, fun h => by simp at h⟩
  have hn : ¬ rangeP ⟨if m = true then 3 else 4, false, 0, t, 0⟩ := by
    rintro (⟨h, _⟩ | ⟨h, _⟩) <;> cases m <;> simp at h
  have hs := stepR_val (s := []) (e := ⟨if m = true then 3 else 4, false, 0, t, 0⟩) hm (by cases m <;> simp) (by cases m <;> simp) rfl (by simp [keyB]) hn
  rw [allR_cons_ok hm (by rw [hs]), hs]
  cases m <;> simp [allR, writeP]
/-- PackoutCounts. -/
theorem counts_stepR (m y : Bool) (v : Nat) (t : ByteArray) (c : Int) (hc : -1 ≤ c) : stepR ⟨[], false⟩ ⟨if m = true then 6 else 5, y, v, t, c⟩ = if c < 0 ∨ 4294967295 < c then (([], 7), ⟨[], false⟩) else ((cntPk m c.toNat, 0), ⟨[⟨m, c, 0⟩], false⟩) := by
  have hm : mayE ⟨if m = true then 6 else 5, y, v, t, c⟩ := by cases m <;> exact ⟨by simp, by simp, fun _ => by simpa using hc⟩
  by_cases hr : c < 0 ∨ 4294967295 < c
  · rw [if_pos hr]
    exact stepR_range hm (by cases m <;> simp) rfl (by simp [keyB]) (.inr ⟨by cases m <;> simp, hr⟩)
  · rw [if_neg hr]
    have hn : ¬ rangeP ⟨if m = true then 6 else 5, y, v, t, c⟩ := by
      rintro (⟨h, _⟩ | ⟨_, h⟩)
      · cases m <;> simp at h
      · exact hr h
    rw [stepR_open hm (by cases m <;> simp) rfl rfl hn]
    cases m <;> simp [writeP, incB]
end Go.Proofs.Ytonjdnahplphhaa
/-
  GENERAL (NO PROGRAM NEEDED): a block and all that it holds; frames by steps; append under a guard.
-/
namespace Go.Proofs.Ytonjdnahplphhaa
open Go.RowKit
open Go.Lib
theorem up_alloc {a w : World} (h : Below a.heap.size a w) (o : Obj) : Below a.heap.size a (w.alloc o) := h.alloc h.size o
theorem up_trans {a w w' : World} (h : Below a.heap.size a w) (k : Below w.heap.size w w') : Below a.heap.size a w' := h.trans (k.mono h.size)
theorem up_set {a w : World} {b : Nat} (h : Below a.heap.size a w) (hb : a.heap.size ≤ b) (o : Nat) (u : Value) : Below a.heap.size a (w.setCell ⟨b, o, none⟩ u) := h.setCell hb u
theorem up_set5 {a w : World} (h : Below a.heap.size a w) (u0 u1 u2 u3 u4 : Value) :
    Below a.heap.size a (((((w.setCell ⟨a.heap.size, 0, none⟩ u0).setCell ⟨a.heap.size, 1, none⟩ u1).setCell ⟨a.heap.size, 2, none⟩ u2).setCell ⟨a.heap.size, 3, none⟩ u3).setCell ⟨a.heap.size, 4, none⟩ u4) :=
  up_set (up_set (up_set (up_set (up_set h (Nat.le_refl _) _ _) (Nat.le_refl _) _ _) (Nat.le_refl _) _ _) (Nat.le_refl _) _ _) (Nat.le_refl _) _ _
/-- A block, and all that it holds. -/
def Blk (w : World) (b : Nat) (cs : Array Value) (t : TypeId) : Prop := w.heap[b]? = some (.cells cs t (0, 0))
theorem Blk.cell {w : World} {b : Nat} {cs : Array Value} {t : TypeId} (h : Blk w b cs t) (j : Nat) : w.cell? ⟨b, j, none⟩ = cs[j]? := by
  unfold Blk at h
  simp [World.cell?, h]
theorem Blk.froz {w : World} {b : Nat} {cs : Array Value} {t : TypeId} (h : Blk w b cs t) (j : Nat) : w.frozen? ⟨b, j, none⟩ = false := by
  unfold Blk at h
  simp [World.frozen?, h]
theorem Blk.lt {w : World} {b : Nat} {cs : Array Value} {t : TypeId} (h : Blk w b cs t) : b < w.heap.size := (Array.getElem?_eq_some_iff.1 h).1
theorem Blk.below {w w' : World} {b B : Nat} {cs : Array Value} {t : TypeId} (h : Blk w b cs t) (k : Below B w w') (hB : b < B) : Blk w' b cs t := (k.block b hB).trans h
theorem Blk.go {w w' : World} {b : Nat} {cs : Array Value} {t : TypeId} (h : Blk w b cs t) (k : Below w.heap.size w w') : Blk w' b cs t := h.below k h.lt
theorem Blk.alloc {w : World} {b : Nat} {cs : Array Value} {t : TypeId} (h : Blk w b cs t) (x : Obj) : Blk (w.alloc x) b cs t := (Below.heap_alloc w x b h.lt).trans h
theorem blk_new (w : World) (cs : Array Value) (t : TypeId) : Blk (w.alloc (.cells cs t)) w.heap.size cs t := heap_alloc_new w _
/-- A kind is one of eight, or none. -/
theorem kinds (k : Int) : (k = 0 ∨ k = 1 ∨ k = 2 ∨ k = 3 ∨ k = 4 ∨ k = 5 ∨ k = 6 ∨ k = 7) ∨ ¬ (0 ≤ k ∧ k ≤ 7) := by omega
theorem Blk.set {w : World} {b : Nat} {cs : Array Value} {t : TypeId} (h : Blk w b cs t) (j : Nat) (u : Value) : Blk (w.setCell ⟨b, j, none⟩ u) b (cs.setIfInBounds j u) t := by
  unfold Blk at h ⊢
  unfold World.setCell
  simp [Array.getElem?_modify, h]
theorem Blk.far {w : World} {b : Nat} {cs : Array Value} {t : TypeId} (h : Blk w b cs t) {p : Addr} (hp : b ≠ p.block) (u : Value) : Blk (w.setCell p u) b cs t := (Below.heap_setCell w p u b hp).trans h
/-- What a new slice of m elements yields, as what is appended. -/
theorem src_new {P : Program} {tx e' : TypeId} (W : World) (hk : P.underlying tx = some (.slice e')) (sz m : Nat) (xs : List Value) (e : TypeId) (g : Nat) (hl : xs.length = m * sz) (h1 : ∀ u ∈ xs, u.oneCell' = true) (hh : W.heap[g]? = some (.cells xs.toArray e (0, 0))) :
    Src P sz tx (.slice (some ⟨g, 0, none⟩) m m) m xs W := by
  refine Src.ofSlice _ hk _ m m xs hl (fun j u hu => ?_) h1
  rw [add_flat]
  simp only [World.cell?, Nat.zero_add]
  rw [hh]
  simpa using hu
theorem Blk.lift {w w2 : World} {b : Nat} {cs : Array Value} {t : TypeId} (h : Blk w b cs t) {row : Option Nat} (k : w.grownBy w2 row) (hr : row ≠ some b) : Blk w2 b cs t :=
  (k.block b h.lt (fun e => hr e.symm)).trans h
theorem Blk.drew {w : World} {b : Nat} {cs : Array Value} {t : TypeId} (h : Blk w b cs t) : Blk w.drew b cs t := h
theorem below_drw {B : Nat} {w w' : World} (h : Below B w w') : Below B w w'.drew := ⟨h.os, h.tape, h.output, h.size, h.block⟩

theorem below_drN {B : Nat} {w w' : World} (h : Below B w w') (q : Nat) : Below B w (w'.drewN q) := ⟨h.os, h.tape, h.output, h.size, h.block⟩
/-- append, at an operation that a guard lets by. -/
theorem wpList_append_win_g {P : Program} {w : World} {e t : TypeId} {sz : Nat} {v : Value} {n : Nat} {xs : List Value} {ops : Array Oper} {rest : List Oper} {o : Oper} {a : Act} {Q : Exit → Act → World → Prop} (hwt : Region.wanted o (yielded ops a.tmps) = true) (sl x : Operand) (tx : TypeId)
    (ho : o.op = .call { callee := .builtin .append, args := #[sl, x], argTypes := #[t, tx] }) {z : Value} {bytes : Nat}
    (ht : P.underlying t = some (.slice e)) (hi : (P.info? e).map (fun i => (i.zero, i.size, i.bytes)) = some (some z, sz, bytes)) (hzs : z.cells.size = sz)
    (hs : a.eval sl = v) (h : Win w e sz v n xs) (X : Value) (hx : a.eval x = X) (m : Nat) (news : List Value) (hsrc : Src P sz tx X m news w) (h63 : n + m ≤ maxLen) (hbytes : (n + m) * bytes ≤ 140737488355328)
    (hk : ∀ v' w', Hid (Win w' e sz v' (n + m) (xs ++ news)) → Hid (w.grownBy w' v.ownBlock) → Hid (v'.ownBlock = v.ownBlock ∨ v'.ownBlock = some w.heap.size ∧ w.heap.size < w'.heap.size) → wpList P ops Q rest (a.put o.dst v') w') : wpList P ops Q (o :: rest) a w := by
  refine wpList_step fun K hK => ?_
  rw [if_pos hwt]
  cases hq : P.info? e with
  | none => simp [hq] at hi
  | some i =>
    simp only [hq, Option.map_some, Option.some.injEq, Prod.mk.injEq] at hi
    obtain ⟨v', w', hr, h2, h3, h4⟩ := h.append (ty := o.type) ht hq hi.1 hi.2.1 hi.2.2 hzs X m news hsrc h63 hbytes
    unfold Oper.wp execOp
    simp only [ho, resolve, invoke, builtin, Sem.run_bind, Sem.run_pure, Result.andThen_ok, List.map_toArray, List.map_cons, List.map_nil, hs, hx, hr]
    exact hK _ _ (hk v' w' h2 h3 h4)
end Go.Proofs.Ytonjdnahplphhaa
/-
  GENERAL, NO PROGRAM NEEDED: A STRUCTURE WITHIN A BLOCK: its cells from an offset on; a step that turns those cells alone.
-/
namespace Go.Proofs.Ytonjdnahplphhaa
open Go.RowKit
open Go.Lib
/-- The cells of block b from o on hold vs, none is frozen. -/
def At (w : World) (b o : Nat) (vs : List Value) : Prop := ∀ j u, vs[j]? = some u → w.cell? ⟨b, o + j, none⟩ = some u ∧ w.frozen? ⟨b, o + j, none⟩ = false
/-- Of the blocks that there are b alone may have turned, and of it the n cells from o on. -/
structure Sub (b o n : Nat) (w w' : World) : Prop where
  step : Step [b] [b] w w'
  shape : ∀ (c : Array Value) (t : TypeId) (fr : Nat × Nat), w.heap[b]? = some (.cells c t fr) → ∃ c' : Array Value, w'.heap[b]? = some (.cells c' t fr) ∧ c'.size = c.size
  cell : ∀ k, (k < o ∨ o + n ≤ k) → w'.cell? ⟨b, k, none⟩ = w.cell? ⟨b, k, none⟩
theorem Sub.refl (b o n : Nat) (w : World) : Sub b o n w w := ⟨Step.refl _ _, fun c _ _ h => ⟨c, h, rfl⟩, fun _ _ => rfl⟩
theorem Sub.trans {b o n : Nat} {w w1 w2 : World} (h : Sub b o n w w1) (k : Sub b o n w1 w2) : Sub b o n w w2 :=
  ⟨h.step.trans k.step, fun c t fr hc => by
    obtain ⟨c1, h1, s1⟩ := h.shape c t fr hc
    obtain ⟨c2, h2, s2⟩ := k.shape c1 t fr h1
    exact ⟨c2, h2, s2.trans s1⟩, fun i hi => (k.cell i hi).trans (h.cell i hi)⟩
theorem Sub.widen {b o n o' n' : Nat} {w w' : World} (h : Sub b o n w w') (h1 : o' ≤ o) (h2 : o + n ≤ o' + n') : Sub b o' n' w w' :=
  ⟨h.step, h.shape, fun k hk => h.cell k (by omega)⟩
theorem Sub.drewN {b o n : Nat} {w w' : World} (h : Sub b o n w w') (q : Nat) : Sub b o n w (w'.drewN q) := ⟨h.step.drewN q, h.shape, h.cell⟩
theorem Sub.drew {b o n : Nat} {w w' : World} (h : Sub b o n w w') : Sub b o n w w'.drew := h.drewN 1
theorem sub_alloc (b o n : Nat) (w : World) (x : Obj) (hb : b < w.heap.size) : Sub b o n w (w.alloc x) := by
  have he : ∀ k, k < w.heap.size → (w.alloc x).heap[k]? = w.heap[k]? := fun k hk => Below.heap_alloc w x k hk
  refine ⟨⟨rfl, rfl, rfl, by simp, fun k hk _ => he k hk, fun _ h => .inl h⟩, fun c t fr hc => ⟨c, (he b hb).trans hc, rfl⟩, fun k _ => World.cell?_of_block (w := w) (he b hb)⟩
theorem Sub.alloc {b o n : Nat} {w w' : World} (h : Sub b o n w w') (x : Obj) (hb : b < w.heap.size) : Sub b o n w (w'.alloc x) :=
  h.trans (sub_alloc b o n w' x (Nat.lt_of_lt_of_le hb h.step.size))
theorem heap_setCell_at (w : World) (p : Addr) (v : Value) (c : Array Value) (t : TypeId) (fr : Nat × Nat) (hp : p.spot = none) (h : w.heap[p.block]? = some (.cells c t fr)) :
    (w.setCell p v).heap[p.block]? = some (.cells (c.setIfInBounds p.off v) t fr) := by
  unfold World.setCell
  simp [Array.getElem?_modify, h, hp]
theorem cell_setCell_ne (w : World) (b k j : Nat) (v : Value) (h : k ≠ j) : (w.setCell ⟨b, j, none⟩ v).cell? ⟨b, k, none⟩ = w.cell? ⟨b, k, none⟩ := by
  unfold World.cell?
  cases hb : w.heap[b]? with
  | none =>
    have : (w.setCell ⟨b, j, none⟩ v).heap[b]? = none := by
      unfold World.setCell
      simp [Array.getElem?_modify, hb]
    simp [this]
  | some x =>
    cases x with
    | cells c t fr =>
      have := heap_setCell_at w ⟨b, j, none⟩ v c t fr rfl hb
      simp only [] at this
      rw [this]
      simp [show j ≠ k from fun e => h e.symm]
    | _ =>
      unfold World.setCell
      simp [Array.getElem?_modify, hb]
theorem sub_setCell {b o n : Nat} (w : World) (k : Nat) (v : Value) (h : o ≤ k ∧ k < o + n) : Sub b o n w (w.setCell ⟨b, k, none⟩ v) :=
  ⟨step_setCell [b] w ⟨b, k, none⟩ v (by simp), fun c t fr hc => ⟨_, heap_setCell_at w ⟨b, k, none⟩ v c t fr rfl hc, by simp⟩, fun i hi => cell_setCell_ne w b i k v (by omega)⟩
theorem Sub.setCell {b o n : Nat} {w w' : World} (h : Sub b o n w w') (k : Nat) (v : Value) (hk : o ≤ k ∧ k < o + n) : Sub b o n w (w'.setCell ⟨b, k, none⟩ v) := h.trans (sub_setCell w' k v hk)
theorem Sub.frozen {b o n : Nat} {w w' : World} (h : Sub b o n w w') (c : Array Value) (t : TypeId) (fr : Nat × Nat) (hc : w.heap[b]? = some (.cells c t fr)) (k : Nat) : w'.frozen? ⟨b, k, none⟩ = w.frozen? ⟨b, k, none⟩ := by
  obtain ⟨c', h', _⟩ := h.shape c t fr hc
  unfold World.frozen?
  simp only [hc, h']
theorem Sub.below {b o n B : Nat} {w w' : World} (h : Sub b o n w w') (hB : B ≤ b) (hw : B ≤ w.heap.size) : Below B w w' := h.step.below (by simpa using hB) hw
theorem cell_block {w : World} {b k : Nat} {u : Value} (h : w.cell? ⟨b, k, none⟩ = some u) : ∃ c t fr, w.heap[b]? = some (.cells c t fr) ∧ c[k]? = some u := by
  unfold World.cell? at h
  cases hb : w.heap[b]? with
  | none => simp [hb] at h
  | some x =>
    cases x with
    | cells c t fr => exact ⟨c, t, fr, rfl, by simpa [hb] using h⟩
    | _ => simp [hb] at h
theorem At.block {w : World} {b o : Nat} {vs : List Value} (h : At w b o vs) (hv : vs ≠ []) : ∃ c t fr, w.heap[b]? = some (.cells c t fr) := by
  match vs, hv with
  | v :: _, _ =>
    obtain ⟨c, t, fr, hc, _⟩ := cell_block (h 0 v rfl).1
    exact ⟨c, t, fr, hc⟩
theorem At.lt {w : World} {b o : Nat} {vs : List Value} (h : At w b o vs) (hv : vs ≠ []) : b < w.heap.size := by
  obtain ⟨c, t, fr, hc⟩ := h.block hv
  exact (Array.getElem?_eq_some_iff.1 hc).1
theorem At.nil_ (w : World) (b o : Nat) : At w b o [] := fun j u h => by simp at h
/-- What lies beside the turned cells, in the same block. -/
theorem At.sub {w w' : World} {b o n o' : Nat} {vs : List Value} (h : At w b o' vs) (k : Sub b o n w w') (hd : o' + vs.length ≤ o ∨ o + n ≤ o') : At w' b o' vs := fun j u hj => by
  have hlt : j < vs.length := (List.getElem?_eq_some_iff.1 hj).1
  obtain ⟨h1, h2⟩ := h j u hj
  obtain ⟨c, t, fr, hc, _⟩ := cell_block h1
  exact ⟨(k.cell _ (by omega)).trans h1, (k.frozen c t fr hc _).trans h2⟩
theorem At.keep {w w' : World} {b o : Nat} {vs : List Value} (h : At w b o vs) (hk : w'.heap[b]? = w.heap[b]?) : At w' b o vs := fun j u hj => by
  obtain ⟨h1, h2⟩ := h j u hj
  exact ⟨(World.cell?_of_block (w := w) (a := ⟨b, o + j, none⟩) hk).trans h1, (World.frozen?_of_block (w := w) (a := ⟨b, o + j, none⟩) hk).trans h2⟩
theorem At.other {w w' : World} {b b' o n o' : Nat} {vs : List Value} (h : At w b' o' vs) (k : Sub b o n w w') (hne : b' ≠ b) (hv : vs ≠ []) : At w' b' o' vs :=
  h.keep (k.step.block b' (h.lt hv) (by simpa using hne))
theorem At.below {w w' : World} {b o B : Nat} {vs : List Value} (h : At w b o vs) (k : Below B w w') (hB : b < B) : At w' b o vs := h.keep (k.block b hB)
theorem At.alloc {w : World} {b o : Nat} {vs : List Value} (h : At w b o vs) (hv : vs ≠ []) (x : Obj) : At (w.alloc x) b o vs := h.keep (Below.heap_alloc w x b (h.lt hv))
theorem At.set {w : World} {b o : Nat} {vs : List Value} (h : At w b o vs) (k : Nat) (hk : k < vs.length) (v : Value) : At (w.setCell ⟨b, o + k, none⟩ v) b o (vs.set k v) := fun j u hj => by
  have hs := sub_setCell (b := b) (o := o + k) (n := 1) w (o + k) v (by omega)
  obtain ⟨h1, h2⟩ := h k vs[k] (List.getElem?_eq_getElem hk)
  obtain ⟨c, t, fr, hc, hcu⟩ := cell_block h1
  by_cases e : j = k
  · subst e
    have : u = v := by simpa [hk] using hj.symm
    subst this
    refine ⟨?_, (hs.frozen c t fr hc _).trans h2⟩
    have hh := heap_setCell_at w ⟨b, o + j, none⟩ u c t fr rfl hc
    have hlt : o + j < c.size := (Array.getElem?_eq_some_iff.1 hcu).1
    unfold World.cell?
    simp only [] at hh
    rw [hh]
    simp [hlt]
  · rw [List.getElem?_set_ne (fun h => e h.symm)] at hj
    obtain ⟨g1, g2⟩ := h j u hj
    exact ⟨(hs.cell _ (by omega)).trans g1, (hs.frozen c t fr hc _).trans g2⟩
theorem At.cons {w : World} {b o : Nat} {v : Value} {vs : List Value} (h : At w b o (v :: vs)) : (w.cell? ⟨b, o, none⟩ = some v ∧ w.frozen? ⟨b, o, none⟩ = false) ∧ At w b (o + 1) vs :=
  ⟨h 0 v rfl, fun j u hj => by
    have := h (j + 1) u (by simpa using hj)
    rw [show o + 1 + j = o + (j + 1) by omega]
    exact this⟩
theorem at_cons {w : World} {b o : Nat} {v : Value} {vs : List Value} (h : w.cell? ⟨b, o, none⟩ = some v ∧ w.frozen? ⟨b, o, none⟩ = false) (ht : At w b (o + 1) vs) : At w b o (v :: vs) := fun j u hj => by
  cases j with
  | zero =>
    have : u = v := by simpa using hj.symm
    subst this
    exact h
  | succ j =>
    have := ht j u (by simpa using hj)
    rw [show o + (j + 1) = o + 1 + j by omega]
    exact this
theorem At.left {w : World} {b o : Nat} {vs us : List Value} (h : At w b o (vs ++ us)) : At w b o vs := fun j u hj => h j u (by
  have := (List.getElem?_eq_some_iff.1 hj).1
  rw [List.getElem?_append_left this]
  exact hj)
theorem At.right {w : World} {b o : Nat} {vs us : List Value} (h : At w b o (vs ++ us)) : At w b (o + vs.length) us := fun j u hj => by
  have := h (vs.length + j) u (by
    rw [List.getElem?_append_right (by omega)]
    simpa using hj)
  rw [show o + vs.length + j = o + (vs.length + j) by omega]
  exact this
theorem At.append {w : World} {b o : Nat} {vs us : List Value} (h : At w b o vs) (k : At w b (o + vs.length) us) : At w b o (vs ++ us) := fun j u hj => by
  by_cases hlt : j < vs.length
  · rw [List.getElem?_append_left hlt] at hj
    exact h j u hj
  · rw [List.getElem?_append_right (by omega)] at hj
    have := k (j - vs.length) u hj
    rw [show o + vs.length + (j - vs.length) = o + j by omega] at this
    exact this
/-- A block of cells that is none of bytes stands where only bytes' rows and another block turned. -/
theorem At.kept {w w' : World} {e : TypeId} {a : Option Nat} {b o : Nat} {vs : List Value} (h : At w b o vs) (k : OthersKept e a w w') (ha : a ≠ some b) (ht : ∀ c t fr, w.heap[b]? = some (.cells c t fr) → t ≠ e) (hv : vs ≠ []) : At w' b o vs := by
  obtain ⟨c, t, fr, hc⟩ := h.block hv
  have := k b _ hc (fun e => ha e.symm) (fun c' fz he => ht c t fr hc (by injection he))
  exact h.keep (this.trans hc.symm)
end Go.Proofs.Ytonjdnahplphhaa
/-
  GENERAL LEMMAS for the walks of byte slices, strings, copies, regions that draw, slices that came in. Nothing of one package's code.
-/
namespace Go.Proofs.Ytonjdnahplphhaa
open Go.RowKit
open Go.Lib
theorem run_make_rowN {P : Program} (t e : TypeId) (i : TypeInfo) (z : Value) (ht : P.underlying t = some (.slice e)) (hi : P.info? e = some i) (hz : i.zero = some z)
    (kl kc : IntKind) (n c : Nat) (hnc : n ≤ c) (hbytes : i.bytes * c ≤ 281474976710656) (h63 : c ≤ 9223372036854775807) (w : World) :
    (Instr.makeSlice t (.int kl (n : Int)) (.int kc (c : Int))).run P w = .ok (.slice (some ⟨w.heap.size, 0, none⟩) n c) (w.alloc (.cells (madeCells z.cells (c * i.size)) e)) := by
  have hb : (i.bytes : Int) * (c : Int) ≤ 281474976710656 := by
    have h : ((i.bytes * c : Nat) : Int) ≤ 281474976710656 := by omega
    rwa [Int.natCast_mul] at h
  have hr := run_make (P := P) w t e i z ht hi hz kl kc n c (by omega) (by omega) hb (by omega)
  simp only [Int.toNat_natCast] at hr
  exact hr
theorem info5 : (Try.prog.info? 5).map (fun i => (i.zero, i.size, i.bytes)) = some (some (.int .u8 0), 1, 1) := by kernel_rfl
theorem made_bytes (n : Nat) : madeCells (Value.cells (.int .u8 0)) (n * 1) = (Lib.byteCells (List.replicate n 0)).toArray := by
  apply Array.toList_inj.1
  simp [madeCells, Lib.byteCells]
  apply List.ext_getElem
  · simp
  · intro i h1 h2
    simp [Value.cells, Nat.mod_one]
open Go in
theorem wp_region_tail {P : Program} {id : Nat} {Q : Exit → Act → World → Prop} {a : Act} {w : World} {l : List Oper} (n : Nat) (hm : P.follows .mixedOrders = true) (hB : Region.lexTailB .any l.toArray n = true)
    (h : wpStill P l.toArray w.drew (fun a' => wpList P l.toArray Q (l.drop n) a' w.drew) (l.take n) a) : (Code.region id l.toArray true).wp P Q a w :=
  wp_region_still_tail n hm hB h
theorem run_slice_hi (W : World) (t e : TypeId) (ht : Try.prog.underlying t = some (.slice e)) (hz : ∀ w, (Go.sizeOf e).run Try.prog w = .ok 1 w) (b len cap h : Nat) (hh : h ≤ cap) :
    (Instr.slice t (.slice (some ⟨b, 0, none⟩) len cap) none (some (.int .i64 (h : Int))) none).run Try.prog W = .ok (.slice (some ⟨b, 0, none⟩) h cap) W := by
  go_simp
theorem size5 (w : World) : (Go.sizeOf 5).run Try.prog w = .ok 1 w := by kernel_rfl
theorem bytes_row {w : World} {g : Nat} {l : List UInt8} (hg : w.heap[g]? = some (.cells (Lib.byteCells l).toArray 5 (0, 0))) : Lib.Bytes w g 0 ⟨l.toArray⟩ := by
  intro i hi
  have hi' : i < l.length := by simpa [ByteArray.size] using hi
  simp only [World.cell?, hg]
  simp [Lib.byteCells, hi']
  rfl
set_option maxRecDepth 100000 in
theorem conv_row {w : World} {g : Nat} {l : List UInt8} (hg : w.heap[g]? = some (.cells (Lib.byteCells l).toArray 5 (0, 0))) (f a cap : Nat) (h : f + a ≤ l.length) :
    (convert 60 9 (.slice (some ⟨g, f, none⟩) a cap)).run Try.prog w = .ok (.string ⟨((l.drop f).take a).toArray⟩) w := by
  have := run_convert_window (P := Try.prog) w 60 5 9 Try.underlying60 Try.underlying5 Try.underlying9 g 0 ⟨l.toArray⟩ (bytes_row hg) f a cap (by simpa [ByteArray.size] using h)
  rw [Nat.zero_add] at this
  rw [this]
  congr 2
  apply ByteArray.ext
  apply Array.toList_inj.1
  rw [extract_data]
  simp
theorem ba_append (x y : List UInt8) : ((⟨x.toArray⟩ : ByteArray) ++ (⟨y.toArray⟩ : ByteArray)) = ⟨(x ++ y).toArray⟩ := by
  apply ByteArray.ext
  apply Array.toList_inj.1
  simp
/-- 'copy(dst, s)' from a string: as many bytes as the shorter of the two has, laid over the row from place o on. -/
theorem run_copy_str {P : Program} (w : World) (dT sT ty elem : TypeId) (g o dLen dCap : Nat) (s : ByteArray) (l : List UInt8) (t : TypeId)
    (hu : P.underlying dT = some (.slice elem)) (hs : (P.info? elem).map (·.size) = some 1) (hg : w.heap[g]? = some (.cells (Lib.byteCells l).toArray t (0, 0))) (hfit : o + min s.size dLen ≤ l.length) :
    (Builtin.copy_ #[dT, sT] ty #[.slice (some ⟨g, o, none⟩) dLen dCap, .string s]).run P w =
      .ok (goInt (min s.size dLen : Nat)) (w.setRow g (Lib.byteCells (splice l o (s.data.toList.take dLen))).toArray) := by
  have hlen : (Lib.byteCells (s.data.toList.take (min s.size dLen))).length = min s.size dLen := by rw [Lib.byteCells_length]; simp
  have htk : s.data.toList.take (min s.size dLen) = s.data.toList.take dLen := by
    rw [Nat.min_comm, ← List.take_take, List.take_of_length_le (i := s.size) (by simp)]
  have hst := run_storeCells_at P g o t (Lib.byteCells (s.data.toList.take (min s.size dLen))) 0 (Lib.byteCells l).toArray w hg (by rw [hlen]; simpa [Lib.byteCells_length] using hfit) (Lib.byteCells_one _)
  rw [hlen] at hst
  simp only [Nat.add_zero] at hst
  have hrow : (List.take o (Lib.byteCells l).toArray.toList ++ Lib.byteCells (s.data.toList.take (min s.size dLen)) ++ List.drop (o + min s.size dLen) (Lib.byteCells l).toArray.toList) = Lib.byteCells (splice l o (s.data.toList.take dLen)) := by
    rw [← htk]
    simp [splice, Lib.byteCells, List.map_drop]
  rw [hrow] at hst
  have e2 : List.take (min s.size dLen) (List.map (fun b : UInt8 => Value.int IntKind.u8 ↑b.toNat) s.data.toList) = Lib.byteCells (List.take (min s.size dLen) s.data.toList) := by
    simp [Lib.byteCells, List.map_take]
  have hmin : Nat.min s.size dLen = min s.size dLen := rfl
  cases hq : P.info? elem with
  | none => simp [hq] at hs
  | some i =>
    simp [Builtin.copy_, run_underlying hu, Builtin.lenOf, Builtin.firstCells, sizeOf, typeInfo, hq, hmin]
    rw [e2, hst]
    simp [Result.andThen]
/-- The world is as it was but for block g. -/
structure But (g : Nat) (w w' : World) : Prop where
  os : w'.os = w.os
  tape : w'.tape = w.tape
  output : w'.output = w.output
  size : w'.heap.size = w.heap.size
  block : ∀ k, k ≠ g → w'.heap[k]? = w.heap[k]?
theorem but_setRow (g : Nat) (w : World) (cs : Array Value) : But g w (w.setRow g cs) := ⟨rfl, rfl, rfl, by simp, fun k hk => setRow_other w g k cs hk⟩
theorem But.below {g B : Nat} {a w w' : World} (h : Below B a w) (hb : But g w w') (hg : B ≤ g) : Below B a w' :=
  h.trans ⟨hb.os, hb.tape, hb.output, by rw [hb.size]; exact Nat.le_refl _, fun k hk => hb.block k (by omega)⟩
theorem wpList_copy_str {P : Program} {w : World} {ops : Array Oper} {rest : List Oper} {o : Oper} {a : Act} {Q : Exit → Act → World → Prop} (hgd : o.guard = none) (d s : Operand) (dT sT : TypeId)
    (ho : o.op = .call { callee := .builtin .copy, args := #[d, s], argTypes := #[dT, sT] }) (elem : TypeId) (hu : P.underlying dT = some (.slice elem)) (hsz : (P.info? elem).map (·.size) = some 1)
    (g off dLen dCap : Nat) (x : ByteArray) (hd : a.eval d = .slice (some ⟨g, off, none⟩) dLen dCap) (hs : a.eval s = .string x)
    (l : List UInt8) (t : TypeId) (hg : w.heap[g]? = some (.cells (Lib.byteCells l).toArray t (0, 0))) (hfit : off + min x.size dLen ≤ l.length)
    (h : ∀ w', Hid (w'.heap[g]? = some (.cells (Lib.byteCells (splice l off (x.data.toList.take dLen))).toArray t (0, 0))) → Hid (But g w w') → wpList P ops Q rest (a.put o.dst (goInt (min x.size dLen : Nat))) w') :
    wpList P ops Q (o :: rest) a w :=
  Lib.wpList_copy_run w hgd d s dT sT ho _ _ hd hs (run_copy_str w dT sT o.type elem g off dLen dCap x l t hu hsz hg hfit)
    (h _ (setRow_heap w g _ _ t _ hg) (but_setRow _ _ _))
theorem size_one5 : (Try.prog.info? 5).map (·.size) = some 1 := by kernel_rfl
theorem run_slice_lo (W : World) (t e : TypeId) (ht : Try.prog.underlying t = some (.slice e)) (hz : ∀ w, (Go.sizeOf e).run Try.prog w = .ok 1 w) (b cap u : Nat) (hu : u < cap) :
    (Instr.slice t (.slice (some ⟨b, 0, none⟩) cap cap) (some (.int .i64 (u : Int))) none none).run Try.prog W = .ok (.slice (some ⟨b, u, none⟩) (cap - u) (cap - u)) W := by
  have ht' : Try.prog.underlying t = some (.slice (Try.prog.elem t)) := by simp [Program.elem, ht]
  have he : Try.prog.elem t = e := by simp [Program.elem, ht]
  rw [run_slice_l W t _ _ _ ht' .i64 _ (by omega) (by omega), he, hz]
  have hne : ¬ cap = u := by omega
  by_cases h0 : u = 0
  · subst h0
    simp [Result.andThen, sliced, Addr.add, hne]
  · simp [Result.andThen, sliced, Addr.add, hne, h0]
theorem slice_str_hi (x : ByteArray) (k : Nat) (hk : k ≤ x.size) (W : World) : (Instr.slice 9 (.string x) none (some (.int .i64 (k : Int))) none).run Try.prog W = .ok (.string (x.extract 0 k)) W := by
  rw [run_slice_string_h W 9 x Try.underlying9 .i64 _ (by omega) (by omega)]
  simp
theorem slice_str_lh (x : ByteArray) (a k : Nat) (ha : a ≤ k) (hk : k ≤ x.size) (W : World) : (Instr.slice 9 (.string x) (some (.int .i64 (a : Int))) (some (.int .i64 (k : Int))) none).run Try.prog W = .ok (.string (x.extract a k)) W := by
  rw [run_slice_string W 9 x .i64 .i64 _ _ Try.underlying9 (by omega) (by omega) (by omega)]
  simp

theorem but_cell {g : Nat} {w w' : World} (h : But g w w') {p : Addr} (hp : p.block ≠ g) : w'.cell? p = w.cell? p := World.cell?_of_block (w := w) (h.block p.block hp)
theorem but_frozen {g : Nat} {w w' : World} (h : But g w w') {p : Addr} (hp : p.block ≠ g) : w'.frozen? p = w.frozen? p := World.frozen?_of_block (w := w) (h.block p.block hp)
theorem ext_list (x : ByteArray) (a k : Nat) : (x.extract a k).data.toList = (x.data.toList.take k).drop a := by
  rw [extract_data, List.drop_take]
theorem drews3 (w : World) (q nq : Nat) : ((w.drewN q).drewN nq).drew = w.drewN (q + nq + 1) := by
  simp only [World.drewN, World.drew, Nat.add_assoc]
theorem below_drewN {B : Nat} {a w : World} (h : Below B a w) (n : Nat) : Below B a (w.drewN n) := ⟨h.os, h.tape, h.output, h.size, h.block⟩
/-- Only blocks from B to L may have turned. -/
structure Keep (B L : Nat) (w w' : World) : Prop where
  below : Below B w w'
  above : ∀ k, L ≤ k → w'.heap[k]? = w.heap[k]?
theorem Keep.refl (B L : Nat) (w : World) : Keep B L w w := ⟨Below.refl _ _, fun _ _ => rfl⟩
theorem Keep.trans {B L : Nat} {a b c : World} (h : Keep B L a b) (k : Keep B L b c) : Keep B L a c := ⟨h.below.trans k.below, fun i hi => (k.above i hi).trans (h.above i hi)⟩
theorem Keep.drewN {B L : Nat} {a w : World} (h : Keep B L a w) (n : Nat) : Keep B L a (w.drewN n) := ⟨⟨h.below.os, h.below.tape, h.below.output, h.below.size, h.below.block⟩, h.above⟩
theorem Keep.cell {B L : Nat} {w w' : World} (h : Keep B L w w') {p : Addr} (hp : L ≤ p.block) : w'.cell? p = w.cell? p := World.cell?_of_block (w := w) (h.above p.block hp)
theorem Keep.frozen {B L : Nat} {w w' : World} (h : Keep B L w w') {p : Addr} (hp : L ≤ p.block) : w'.frozen? p = w.frozen? p := World.frozen?_of_block (w := w) (h.above p.block hp)
/-- 'make([]byte, m)', then 'string(..)' of it. -/
theorem make_zero (m : Nat) (hm : m ≤ 100000) (v : Int) (hv : v = m) : ∀ W : World, (Instr.makeSlice 60 (.int .i64 v) (.int .i64 v)).run Try.prog W = .ok (.slice (some ⟨W.heap.size, 0, none⟩) m m) (W.alloc (.cells (Lib.byteCells (List.replicate m 0)).toArray 5)) := by
  subst hv
  obtain ⟨i0, hi, hz0, hz1, hz2⟩ := info_parts info5
  intro W
  have := run_make_rowN (P := Try.prog) 60 5 i0 (.int .u8 0) Try.underlying60 hi hz0 .i64 .i64 m m (Nat.le_refl _) (by rw [hz2]; omega) (by omega) W
  rw [hz1, made_bytes] at this
  exact this
theorem conv_zero (m : Nat) : ∃ s : ByteArray, s.size = m ∧ ∀ (W : World) (q : Nat), (convert 60 9 (.slice (some ⟨W.heap.size, 0, none⟩) m m)).run Try.prog ((W.drewN q).alloc (.cells (Lib.byteCells (List.replicate m 0)).toArray 5)) = .ok (.string s) ((W.drewN q).alloc (.cells (Lib.byteCells (List.replicate m 0)).toArray 5)) := by
  refine ⟨⟨((((List.replicate m (0 : UInt8)).drop 0).take m)).toArray⟩, by simp [ByteArray.size], fun W q => ?_⟩
  exact conv_row (l := List.replicate m 0) (by
    show (W.heap.push _)[_]? = _
    rw [Array.getElem?_push, if_pos rfl]) 0 m m (by simp)
theorem list_bytes (x : ByteArray) : (⟨x.data.toList.toArray⟩ : ByteArray) = x := by
  apply ByteArray.ext
  simp
theorem mod_two {a n : Nat} (h : a < 2 * n) : a % n = if a < n then a else a - n := by
  split
  · exact Nat.mod_eq_of_lt ‹_›
  · rw [Nat.mod_eq_sub_mod (by omega), Nat.mod_eq_of_lt (by omega)]
theorem mod_parts {a n : Nat} (h : a < 2 * n) : ∃ p, a % n = p ∧ (a < n ∧ p = a ∨ n ≤ a ∧ p = a - n) := by
  rw [mod_two h]
  by_cases h : a < n
  · exact ⟨a, if_pos h, Or.inl ⟨h, rfl⟩⟩
  · exact ⟨a - n, if_neg h, Or.inr ⟨by omega, rfl⟩⟩
theorem splice_get (L : List UInt8) (off : Nat) (cs : List UInt8) (h : off + cs.length ≤ L.length) (j : Nat) :
    (splice L off cs)[j]? = if j < off then L[j]? else if j < off + cs.length then cs[j - off]? else L[j]? := by
  unfold splice
  have h1 : (L.take off).length = off := by simp; omega
  by_cases a : j < off
  · rw [if_pos a, List.getElem?_append_left (by omega), List.getElem?_take_of_lt a]
  · rw [if_neg a, List.getElem?_append_right (by omega), h1]
    by_cases b : j < off + cs.length
    · rw [if_pos b, List.getElem?_append_left (by omega)]
    · rw [if_neg b, List.getElem?_append_right (by omega), List.getElem?_drop]
      congr 1
      omega
theorem block_of_add (a : Addr) (n : Nat) : (a.add n).block = a.block := by unfold Addr.add; split <;> rfl
theorem add_of_add (a : Addr) (i j : Nat) : (a.add i).add j = a.add (i + j) := by
  unfold Addr.add
  by_cases hi : i = 0 <;> by_cases hj : j = 0 <;> simp [hi, hj, Nat.add_assoc]

def Reads (w : World) (B size : Nat) (A : Option Addr) (n : Nat) (xs : List Value) : Prop :=
  xs.length = n * size ∧ (0 < n → ∃ ad, A = some ad ∧ ad.block < B ∧ ∀ j u, xs[j]? = some u → w.cell? (ad.add j) = some u)

section
variable {w w' : World} {B B' size n : Nat} {A : Option Addr} {xs : List Value}
theorem Reads.none_ : Reads w B size A 0 [] := ⟨by simp, fun h => absurd h (by omega)⟩
theorem Reads.at_ {k : Nat} (h : Reads w B 1 A n xs) (hk : k < n) : ∃ ad u, A = some ad ∧ ad.block < B ∧ xs[k]? = some u ∧ w.cell? (ad.add k) = some u := by
  obtain ⟨ad, e, hb, hc⟩ := h.2 (by omega)
  have hl : k < xs.length := by have := h.1; omega
  exact ⟨ad, xs[k], e, hb, List.getElem?_eq_getElem hl, hc k _ (List.getElem?_eq_getElem hl)⟩
theorem Reads.keep (h : Reads w B size A n xs) (hk : ∀ p : Addr, p.block < B → w'.cell? p = w.cell? p) : Reads w' B size A n xs :=
  ⟨h.1, fun hn => by
    obtain ⟨ad, e, hb, hc⟩ := h.2 hn
    exact ⟨ad, e, hb, fun j u hu => (hk _ (by rw [block_of_add]; exact hb)).trans (hc j u hu)⟩⟩
theorem Reads.more (h : Reads w B size A n xs) (hB : B ≤ B') : Reads w B' size A n xs :=
  ⟨h.1, fun hn => by
    obtain ⟨ad, e, hb, hc⟩ := h.2 hn
    exact ⟨ad, e, by omega, hc⟩⟩
theorem Reads.below (h : Reads w B size A n xs) (hb : Below B w w') : Reads w' B size A n xs := h.keep fun _ hp => hb.cell hp
theorem Reads.drew (h : Reads w B size A n xs) : Reads w.drew B size A n xs := h
theorem Reads.drewN (h : Reads w B size A n xs) (k : Nat) : Reads (w.drewN k) B size A n xs := h
theorem Reads.alloc (h : Reads w B size A n xs) (hB : B ≤ w.heap.size) (o : Obj) : Reads (w.alloc o) B size A n xs := h.keep fun p hp => World.cell?_alloc_lt w o p (by omega)
theorem Reads.setCell (h : Reads w B size A n xs) {p : Addr} (hB : B ≤ p.block) (u : Value) : Reads (w.setCell p u) B size A n xs :=
  h.keep fun q hq => World.cell?_setCell_other w p q u (fun e => by subst e; omega)
theorem Reads.grown (h : Reads w B size A n xs) {row : Option Nat} (hg : w.grownBy w' row) (hB : B ≤ w.heap.size) (hr : ∀ g, row = some g → B ≤ g) : Reads w' B size A n xs :=
  h.keep fun p hp => World.cell?_of_block (hg.block p.block (by omega) (fun e => by have := hr _ e.symm; omega))
theorem Reads.cut (h : Reads w B size A n xs) {k cap : Nat} (hk : k ≤ n) (hc : n ≤ cap) :
    Reads w B size (if cap = k then A else A.map (·.add (k * size))) (n - k) (xs.drop (k * size)) := by
  refine ⟨by rw [List.length_drop, h.1, Nat.sub_mul], fun hn => ?_⟩
  obtain ⟨ad, rfl, hb, hcell⟩ := h.2 (by omega)
  rw [if_neg (by omega)]
  refine ⟨ad.add (k * size), rfl, by rw [block_of_add]; exact hb, fun j u hu => ?_⟩
  rw [add_of_add]
  exact hcell _ u (by rw [← hu, List.getElem?_drop])
theorem Reads.of_own {base : Nat} {e : TypeId} {c : Nat} (h : w.ownsRow base e size (.slice A n c) n xs) : Reads w w.heap.size size A n xs := by
  refine ⟨h.1, fun hn => ?_⟩
  obtain ⟨g, cap, hv, _, hlt⟩ := h.form hn
  have hA : A = some ⟨g, 0, none⟩ := by injection hv
  subst hA
  exact ⟨_, rfl, hlt, h.cells (g := g) rfl⟩
end
theorem size_nil {l : ByteArray} (h : l.toList = []) : l.size = 0 := by
  rw [ByteArray.toList_eq] at h
  have := congrArg List.length h
  rw [Array.length_toList] at this
  exact this
theorem toList_nil {l : ByteArray} (h : l.size = 0) : l.toList = [] := by
  rw [ByteArray.toList_eq]
  exact List.eq_nil_of_length_eq_zero (by rw [Array.length_toList]; exact h)
theorem and_low (n : Int) (m : Nat) (hm : m = 15 ∨ m = 7) : ∃ a : Nat, a ≤ m ∧ bits .and .i64 n (m : Int) = (a : Int) := by
  rcases hm with rfl | rfl
  · refine ⟨(n % 16).toNat, by omega, ?_⟩
    have h127 : (BitVec.ofInt 64 15).toNat = 2 ^ 4 - 1 := by decide
    have key : (BitVec.ofInt 64 n &&& BitVec.ofInt 64 15).toNat = (n % ((2 ^ 64 : Nat) : Int)).toNat % 2 ^ 4 := by
      rw [BitVec.toNat_and, BitVec.toNat_ofInt, h127, Nat.and_two_pow_sub_one_eq_mod]
    show IntKind.i64.wrap ((BitVec.ofInt 64 n &&& BitVec.ofInt 64 15).toNat : Nat) = _
    rw [key, IntKind.wrap_i64]
    omega
  · refine ⟨(n % 8).toNat, by omega, ?_⟩
    have h127 : (BitVec.ofInt 64 7).toNat = 2 ^ 3 - 1 := by decide
    have key : (BitVec.ofInt 64 n &&& BitVec.ofInt 64 7).toNat = (n % ((2 ^ 64 : Nat) : Int)).toNat % 2 ^ 3 := by
      rw [BitVec.toNat_and, BitVec.toNat_ofInt, h127, Nat.and_two_pow_sub_one_eq_mod]
    show IntKind.i64.wrap ((BitVec.ofInt 64 n &&& BitVec.ofInt 64 7).toNat : Nat) = _
    rw [key, IntKind.wrap_i64]
    omega
/-- Element k % n of a slice of ints, as the walk wants it. -/
theorem at_mod {w wr : World} {B n k : Nat} {A : Option Addr} {zs : List Int} (h : Reads w B 1 A n (zs.map (Value.int .i64))) (hw : Below B w wr) (hn : 0 < n) :
    ∃ ad q j, A = some ad ∧ j < n ∧ wr.cell? (ad.add j) = some (.int .i64 q) ∧ (k : Int) % (n : Int) = ((j : Nat) : Int) := by
  obtain ⟨ad, z, hA, hb1, hz, hcell⟩ := h.at_ (k := k % n) (Nat.mod_lt _ hn)
  have hcell' : wr.cell? (ad.add (k % n)) = some z := (hw.cell (by rw [block_of_add]; exact hb1)).trans hcell
  rw [List.getElem?_map] at hz
  cases hy : zs[k % n]? with
  | none => simp [hy] at hz
  | some q =>
    simp [hy] at hz
    subst hz
    exact ⟨ad, q, k % n, hA, Nat.mod_lt _ hn, hcell', rfl⟩
theorem size_list (x : ByteArray) : x.data.toList.length = x.size := by simp
set_option maxRecDepth 100000 in
theorem conv_win {w : World} {v : Value} {n : Nat} {bs : List UInt8} (h : Win w 5 1 v n (bCells bs)) : (convert 60 9 v).run Try.prog w = .ok (.string ⟨bs.toArray⟩) w := by
  rcases h.2 with ⟨rfl, rfl⟩ | ⟨g, off, cap, cur, rfl, hg, hnc, hs, hm, hx⟩
  · have : bs = [] := by
      have := h.1
      simp [bCells] at this
      exact this
    subst this
    have ht : (Try.prog.underlying 60, Try.prog.underlying 5, Try.prog.underlying 9) = (some (.slice 5), some (.int .u8), some .string) := by kernel_rfl
    simp only [Prod.mk.injEq] at ht
    simp [convert, run_underlying ht.1, run_underlying ht.2.1, run_underlying ht.2.2, Conv.bytesToString]
    rfl
  · have hl : bs.length = n := by have := h.1; simpa [bCells] using this
    have hby : Lib.Bytes w g off ⟨bs.toArray⟩ := by
      intro i hi
      have hi' : i < bs.length := by simpa [ByteArray.size] using hi
      have hu : (bCells bs)[i]? = some (.int .u8 bs[i].toNat) := by simp [bCells, hi']
      rw [← hx, List.getElem?_take_of_lt (by omega), List.getElem?_drop] at hu
      simp only [World.cell?, hg]
      have hb : (⟨bs.toArray⟩ : ByteArray)[i] = bs[i] := rfl
      rw [hb]
      simpa using hu
    have := run_convert_window (P := Try.prog) w 60 5 9 Try.underlying60 Try.underlying5 Try.underlying9 g off ⟨bs.toArray⟩ hby 0 n cap (by simp [ByteArray.size]; omega)
    rw [Nat.add_zero] at this
    rw [this]
    congr 2
    apply ByteArray.ext
    apply Array.toList_inj.1
    rw [extract_data]
    show List.take _ bs = bs
    exact List.take_of_length_le (by omega)
/-- Element k of a slice of ints that came in. -/
theorem at_k {w wr : World} {B n k : Nat} {A : Option Addr} {zs : List Int} (h : Reads w B 1 A n (zs.map (Value.int .i64))) (hw : Below B w wr) (hn : k < n) :
    ∃ ad q, A = some ad ∧ wr.cell? (ad.add k) = some (.int .i64 q) := by
  obtain ⟨ad, z, hA, hb1, hz, hcell⟩ := h.at_ (k := k) hn
  have hcell' : wr.cell? (ad.add k) = some z := (hw.cell (by rw [block_of_add]; exact hb1)).trans hcell
  rw [List.getElem?_map] at hz
  cases hy : zs[k]? with
  | none => simp [hy] at hz
  | some q =>
    simp [hy] at hz
    subst hz
    exact ⟨ad, q, hA, hcell'⟩
theorem bits_range (n m : Int) (k : Nat) (hk : k < 2 ^ 63) (hm : m = k) : ∃ a : Nat, a ≤ k ∧ bits .and .i64 n m = (a : Int) := by
  subst hm
  have e1 : (BitVec.ofInt 64 (k : Int)).toNat = k := by rw [BitVec.toNat_ofInt]; omega
  refine ⟨(BitVec.ofInt 64 n &&& BitVec.ofInt 64 k).toNat, ?_, ?_⟩
  · rw [BitVec.toNat_and, e1]
    exact Nat.and_le_right
  · show IntKind.i64.wrap ((BitVec.ofInt 64 n &&& BitVec.ofInt 64 k).toNat : Nat) = _
    have : (BitVec.ofInt 64 n &&& BitVec.ofInt 64 k).toNat ≤ k := by
      rw [BitVec.toNat_and, e1]
      exact Nat.and_le_right
    rw [IntKind.wrap_i64]
    omega
theorem slice_str_lo (x : ByteArray) (a : Nat) (ha : a ≤ x.size) (W : World) : (Instr.slice 9 (.string x) (some (.int .i64 (a : Int))) none none).run Try.prog W = .ok (.string (x.extract a x.size)) W := by
  rw [run_slice_string_l W 9 x Try.underlying9 .i64 _ (by omega) (by omega)]
  simp
theorem size_of (l : List UInt8) : (⟨l.toArray⟩ : ByteArray).size = l.length := by simp [ByteArray.size]
theorem cat_of (l k : List UInt8) : (⟨l.toArray⟩ : ByteArray) ++ ⟨k.toArray⟩ = ⟨(l ++ k).toArray⟩ := by
  apply ByteArray.ext
  simp
theorem conv_new (W : World) (l : List UInt8) (cs : Array Value) (k : Nat) (hk : l.length = k) (hc : cs = (Lib.byteCells l).toArray) (x : ByteArray) (hx : x = ⟨l.toArray⟩) :
    (convert 60 9 (.slice (some ⟨W.heap.size, 0, none⟩) k k)).run Try.prog (W.alloc (.cells cs 5)) = .ok (.string x) (W.alloc (.cells cs 5)) := by
  subst hc hk hx
  have := conv_row (w := W.alloc (.cells (Lib.byteCells l).toArray 5)) (g := W.heap.size) (l := l) (heap_alloc_new W _) 0 l.length l.length (by omega)
  rw [this]
  simp
theorem wrap_u64_of (n : Int) (h0 : 0 ≤ n) (h1 : n < 18446744073709551616) : IntKind.u64.wrap n = n := by
  simp [IntKind.wrap, IntKind.bits, IntKind.signed]
  omega
theorem wrap_u8_of (n : Int) (h0 : 0 ≤ n) (h1 : n < 256) : IntKind.u8.wrap n = n := by
  simp [IntKind.wrap, IntKind.bits, IntKind.signed]
  omega
theorem wrap32 (n : Int) (h : 0 ≤ n) (h1 : n ≤ 1114111) : IntKind.i32.wrap n = n := by rw [IntKind.wrap_i32]; omega
end Go.Proofs.Ytonjdnahplphhaa
/-
  GENERAL: cells that are there, whatever they hold; cells that are all written anew.
-/
namespace Go.Proofs.Ytonjdnahplphhaa
open Go.RowKit
open Go.Lib
/-! ### Cells that are there, whatever they hold -/
/-- The n cells of block b from o on are there, none is frozen. -/
def Room (w : World) (b o n : Nat) : Prop := ∃ c t fr, w.heap[b]? = some (.cells c t fr) ∧ o + n ≤ c.size ∧ ∀ k, o ≤ k → k < o + n → w.frozen? ⟨b, k, none⟩ = false
theorem Room.cell {w : World} {b o n : Nat} (h : Room w b o n) (k : Nat) (h1 : o ≤ k) (h2 : k < o + n) : ∃ v, w.cell? ⟨b, k, none⟩ = some v ∧ w.frozen? ⟨b, k, none⟩ = false := by
  obtain ⟨c, t, fr, hc, hs, hf⟩ := h
  refine ⟨c[k]'(by omega), ?_, hf k h1 h2⟩
  unfold World.cell?
  simp only [hc]
  simp [show k < c.size by omega]
theorem Room.lt {w : World} {b o n : Nat} (h : Room w b o n) : b < w.heap.size := by
  obtain ⟨c, t, fr, hc, _⟩ := h
  exact (Array.getElem?_eq_some_iff.1 hc).1
theorem Room.sub {w w' : World} {b o n o' n' : Nat} (h : Room w b o n) (k : Sub b o' n' w w') : Room w' b o n := by
  obtain ⟨c, t, fr, hc, hs, hf⟩ := h
  obtain ⟨c', hc', hs'⟩ := k.shape c t fr hc
  exact ⟨c', t, fr, hc', by omega, fun i h1 h2 => (k.frozen c t fr hc i).trans (hf i h1 h2)⟩
theorem Room.keep {w w' : World} {b o n : Nat} (h : Room w b o n) (hk : w'.heap[b]? = w.heap[b]?) : Room w' b o n := by
  obtain ⟨c, t, fr, hc, hs, hf⟩ := h
  exact ⟨c, t, fr, hk.trans hc, hs, fun i h1 h2 => (World.frozen?_of_block (w := w) (a := ⟨b, i, none⟩) hk).trans (hf i h1 h2)⟩
theorem Room.part {w : World} {b o n o' n' : Nat} (h : Room w b o n) (h1 : o ≤ o') (h2 : o' + n' ≤ o + n) : Room w b o' n' := by
  obtain ⟨c, t, fr, hc, hs, hf⟩ := h
  exact ⟨c, t, fr, hc, by omega, fun i h3 h4 => hf i (by omega) (by omega)⟩
theorem Room.there {w : World} {b o n : Nat} (h : Room w b o n) : w.there b o n := fun j hj => by
  obtain ⟨v, hv, hf⟩ := h.cell (o + j) (by omega) (by omega)
  exact ⟨by rw [hv]; rfl, hf⟩
theorem At.room {w : World} {b o : Nat} {vs : List Value} (h : At w b o vs) (hv : vs ≠ []) : Room w b o vs.length := by
  obtain ⟨c, t, fr, hc⟩ := h.block hv
  have hl : 0 < vs.length := List.length_pos_iff.2 hv
  refine ⟨c, t, fr, hc, ?_, fun k h1 h2 => ?_⟩
  · have h1 := (h (vs.length - 1) _ (List.getElem?_eq_getElem (by omega))).1
    unfold World.cell? at h1
    simp only [hc] at h1
    have := (Array.getElem?_eq_some_iff.1 (by simpa using h1)).1
    omega
  · have h3 := (h (k - o) _ (List.getElem?_eq_getElem (by omega))).2
    rwa [show o + (k - o) = k by omega] at h3
theorem setAll_sub (b : Nat) : ∀ (vs : List Value) (w : World) (o : Nat), Sub b o vs.length w (w.setCells b o vs) := by
  intro vs
  induction vs with
  | nil => intro w o; exact Sub.refl _ _ _ _
  | cons v r ih =>
    intro w o
    exact (sub_setCell w o v (by simp only [List.length_cons]; omega)).trans ((ih _ (o + 1)).widen (by omega) (by simp only [List.length_cons]; omega))
theorem setAll_at (b : Nat) : ∀ (vs : List Value) (w : World) (o : Nat), Room w b o vs.length → At (w.setCells b o vs) b o vs := by
  intro vs
  induction vs with
  | nil => intro w o _; exact At.nil_ _ _ _
  | cons v r ih =>
    intro w o hR
    have h1 := sub_setCell (b := b) (o := o) (n := 1) w o v (by omega)
    refine at_cons ?_ (ih _ _ ((hR.sub h1).part (by omega) (by simp only [List.length_cons]; omega)))
    have hs := setAll_sub b r (w.setCell ⟨b, o, none⟩ v) (o + 1)
    obtain ⟨u, hu, hf⟩ := hR.cell o (Nat.le_refl _) (by simp only [List.length_cons]; omega)
    have hA : At w b o [u] := fun j x hx => by
      cases j with
      | zero => have : x = u := by simpa using hx.symm
                subst this; exact ⟨hu, hf⟩
      | succ j => simp at hx
    have hB : At (w.setCell ⟨b, o, none⟩ v) b o [v] := hA.set 0 (by simp) v
    exact (hB.sub hs (.inl (by simp))) 0 v rfl
/-- All cells of a variable written at once, as the walk meets it. -/
theorem wpList_store_room {P : Program} {ops : Array Oper} {rest : List Oper} {op : Oper} {a : Act} {w : World} {Q : Exit → Act → World → Prop} (hgd : op.guard = none) (ty : TypeId) (x y : Operand) (ho : op.op = .store ty x y)
    (b o : Nat) (cs : List Value) (hx : a.eval x = .pointer (some ⟨b, o, none⟩)) (hy : a.eval y = .agg cs.toArray) (hr : Room w b o cs.length) (hi : (P.info? ty).map (·.size) = some cs.length) (h1 : cs.toArray.all (·.oneCell') = true)
    (h : ∀ w', Hid (At w' b o cs ∧ Sub b o cs.length w w') → wpList P ops Q rest (a.put op.dst undef) w') : wpList P ops Q (op :: rest) a w :=
  wpList_store_mid hgd ty x y ho b o cs.toArray hx hy (by simpa using hr.there) (by simpa using hi) h1 (h _ (Lib.hid ⟨setAll_at b _ w o hr, setAll_sub b _ w o⟩))
theorem Room.alloc {w : World} {b o n : Nat} (h : Room w b o n) (x : Obj) : Room (w.alloc x) b o n := h.keep (Below.heap_alloc w x b h.lt)
theorem sub_of_below {w w' : World} {b : Nat} (h : Below w.heap.size w w') (hb : b < w.heap.size) (o n : Nat) : Sub b o n w w' :=
  ⟨⟨h.os, h.tape, h.output, h.size, fun k hk _ => h.block k hk, fun _ h => .inl h⟩, fun c _ _ hc => ⟨c, (h.block b hb).trans hc, rfl⟩, fun _ _ => World.cell?_of_block (w := w) (h.block b hb)⟩
end Go.Proofs.Ytonjdnahplphhaa
/-
  GENERAL (of the program the type api.Ev alone): a part as a plain one; a block and all that it holds; frames by steps.
-/
namespace Go.Proofs.Ytonjdnahplphhaa
open Go.RowKit
open Go.Lib
/-- A part, as a plain one. -/
def evV (e : Ev) : Value := .agg #[.int .i64 e.k, .bool e.y, .int .u64 e.m, .string e.t, .int .i64 e.c]
/-- The cells of a plain part's block. -/
theorem Blk.ev {w : World} {b : Nat} {k : Int} {y : Bool} {m : Int} {t : ByteArray} {c : Int} {T : TypeId} (h : Blk w b #[.int .i64 k, .bool y, .int .u64 m, .string t, .int .i64 c] T) :
    (w.cell? ⟨b, 0, none⟩ = some (.int .i64 k) ∧ w.cell? ⟨b, 1, none⟩ = some (.bool y) ∧ w.cell? ⟨b, 2, none⟩ = some (.int .u64 m) ∧ w.cell? ⟨b, 3, none⟩ = some (.string t) ∧ w.cell? ⟨b, 4, none⟩ = some (.int .i64 c)) ∧
    (w.frozen? ⟨b, 0, none⟩ = false ∧ w.frozen? ⟨b, 1, none⟩ = false ∧ w.frozen? ⟨b, 2, none⟩ = false ∧ w.frozen? ⟨b, 3, none⟩ = false ∧ w.frozen? ⟨b, 4, none⟩ = false) :=
  ⟨⟨h.cell 0, h.cell 1, h.cell 2, h.cell 3, h.cell 4⟩, ⟨h.froz 0, h.froz 1, h.froz 2, h.froz 3, h.froz 4⟩⟩
/-- What a plain part's call makes of a value that is none. -/
def evZ : Ev := ⟨0, false, 0, ⟨#[]⟩, 0⟩
end Go.Proofs.Ytonjdnahplphhaa
/-
  A FRAME: only two cells of a block have turned, and the blocks of its row.
-/
namespace Go.Proofs.Ytonjdnahplphhaa
open Go.RowKit
open Go.Lib
/-- Only the Writer's cells have turned, and its row. -/
structure Jf (b o : Nat) (F F' : List Nat) (w w' : World) : Prop where
  step : Step (b :: F) (b :: F') w w'
  shape : ∀ (c : Array Value) (t : TypeId) (fr : Nat × Nat), w.heap[b]? = some (.cells c t fr) → ∃ c' : Array Value, w'.heap[b]? = some (.cells c' t fr) ∧ c'.size = c.size
  cell : ∀ k, (k < o ∨ o + 2 ≤ k) → w'.cell? ⟨b, k, none⟩ = w.cell? ⟨b, k, none⟩
theorem Jf.refl (b o : Nat) (F : List Nat) (w : World) : Jf b o F F w w := ⟨Step.refl _ _, fun c _ _ h => ⟨c, h, rfl⟩, fun _ _ => rfl⟩
theorem Jf.trans {b o : Nat} {F F' F'' : List Nat} {w w1 w2 : World} (h : Jf b o F F' w w1) (k : Jf b o F' F'' w1 w2) : Jf b o F F'' w w2 :=
  ⟨h.step.trans k.step, fun c t fr hc => by
    obtain ⟨c1, h1, s1⟩ := h.shape c t fr hc
    obtain ⟨c2, h2, s2⟩ := k.shape c1 t fr h1
    exact ⟨c2, h2, s2.trans s1⟩, fun i hi => (k.cell i hi).trans (h.cell i hi)⟩
theorem Jf.of {b o : Nat} {F : List Nat} {w w' : World} (k : Below w.heap.size w w') (hb : b < w.heap.size) : Jf b o F F w w' :=
  ⟨⟨k.os, k.tape, k.output, k.size, fun i hi _ => k.block i hi, fun _ h => .inl h⟩, fun c _ _ hc => ⟨c, (k.block b hb).trans hc, rfl⟩, fun _ _ => World.cell?_of_block (w := w) (k.block b hb)⟩
theorem Jf.drewN {b o : Nat} {F F' : List Nat} {w w' : World} (h : Jf b o F F' w w') (n : Nat) : Jf b o F F' w (w'.drewN n) := ⟨h.step.drewN n, h.shape, h.cell⟩
theorem jf_set {b o : Nat} {F : List Nat} (w : World) (k : Nat) (v : Value) (hk : o ≤ k ∧ k < o + 2) : Jf b o F F w (w.setCell ⟨b, k, none⟩ v) :=
  ⟨step_setCell _ _ _ _ (by simp), (sub_setCell (b := b) (o := o) (n := 2) w k v hk).shape, (sub_setCell (b := b) (o := o) (n := 2) w k v hk).cell⟩
theorem Jf.set {b o : Nat} {F F' : List Nat} {w w' : World} (h : Jf b o F F' w w') (k : Nat) (v : Value) (hk : o ≤ k ∧ k < o + 2) : Jf b o F F' w (w'.setCell ⟨b, k, none⟩ v) := h.trans (jf_set w' k v hk)
theorem Jf.up {b o : Nat} {F F' : List Nat} {w w1 w2 : World} (h : Jf b o F F' w w1) (hb : b < w.heap.size) (k : Below w1.heap.size w1 w2) : Jf b o F F' w w2 :=
  h.trans (Jf.of k (Nat.lt_of_lt_of_le hb h.step.size))
theorem Jf.below {b o B : Nat} {F F' : List Nat} {w w' : World} (h : Jf b o F F' w w') (hb : B ≤ b) (hF : ∀ k ∈ F, B ≤ k) (hw : B ≤ w.heap.size) : Below B w w' :=
  h.step.below (fun k hk => (List.mem_cons.1 hk).elim (fun e => e ▸ hb) (fun hk => hF k hk)) hw
theorem oat_two {w : World} {b o : Nat} {v0 v1 : Value} (h : At w b o [v0, v1]) : (w.cell? ⟨b, o, none⟩ = some v0 ∧ w.frozen? ⟨b, o, none⟩ = false) ∧ (w.cell? ⟨b, o + 1, none⟩ = some v1 ∧ w.frozen? ⟨b, o + 1, none⟩ = false) :=
  ⟨h 0 v0 rfl, h 1 v1 rfl⟩
theorem jat_block {w : World} {b : Nat} {c : Array Value} {t : TypeId} (h : w.heap[b]? = some (.cells c t (0, 0))) : At w b 0 c.toList := fun j u hj => by
  refine ⟨?_, ?_⟩
  · unfold World.cell?
    simp only [h]
    simpa using hj
  · unfold World.frozen?
    simp only [h]
    simp
end Go.Proofs.Ytonjdnahplphhaa
/-
  CONTRACTS of package packout, part A: the open containers (nest) as cells: whether it is a Map, how many parts it lacks; isFull, atKey, count.
-/
namespace Go.Proofs.Ytonjdnahplphhaa
open Go.RowKit
open Go.Lib
/-- How many parts one of a known count has in all; how many it lacks. -/
def totR (b : Bx) : Nat := if b.map = true then 2 * b.c.toNat else b.c.toNat
def lakR (b : Bx) : Nat := totR b - b.have_
def rcB (m : Bool) (l : Nat) : List Value := [.bool m, .int .u64 (l : Int)]
/-- Of each open container its cells, the outermost first. -/
def rcL : List Bx → List Value
  | [] => []
  | b :: r => rcL r ++ rcB b.map (lakR b)
theorem rcL_length : ∀ s : List Bx, (rcL s).length = s.length * 2
  | [] => rfl
  | b :: r => by rw [rcL, List.length_append, rcL_length r]; simp [rcB]; omega
/-- What open containers may be: each of a known count, none has more than that says. -/
def WfR (s : List Bx) : Prop := ∀ b ∈ s, (0 ≤ b.c ∧ b.c ≤ 4294967295) ∧ b.have_ ≤ totR b
theorem WfR.tail {x : Bx} {r : List Bx} (h : WfR (x :: r)) : WfR r := fun b hb => h b (List.mem_cons_of_mem _ hb)
theorem ful_lak {b : Bx} (h : (0 ≤ b.c ∧ b.c ≤ 4294967295) ∧ b.have_ ≤ totR b) (r : List Bx) : fulT (b :: r) = decide (lakR b = 0) := by
  obtain ⟨m, c, k⟩ := b
  obtain ⟨⟨h1, _⟩, h2⟩ := h
  simp only [fulT, lakR, totR] at *
  rw [Bool.eq_iff_iff, decide_eq_true_eq, decide_eq_true_eq]
  cases m <;> simp at h2 ⊢ <;> omega
theorem key_lak {b : Bx} (h : (0 ≤ b.c ∧ b.c ≤ 4294967295) ∧ b.have_ ≤ totR b) (r : List Bx) : keyB (b :: r) = (b.map && decide (lakR b % 2 = 0)) := by
  obtain ⟨m, c, k⟩ := b
  obtain ⟨⟨h1, _⟩, h2⟩ := h
  simp only [keyB, lakR, totR] at *
  cases m
  · rfl
  · simp only [if_true] at h2
    rw [Bool.true_and, Bool.true_and, Bool.eq_iff_iff, beq_iff_eq, decide_eq_true_eq]
    simp only [if_true]
    omega
theorem shut_lak {b : Bx} (h : (0 ≤ b.c ∧ b.c ≤ 4294967295) ∧ b.have_ ≤ totR b) : decide (¬ shutB b) = decide (lakR b = 0) := by
  obtain ⟨m, c, k⟩ := b
  obtain ⟨⟨h1, _⟩, h2⟩ := h
  simp only [shutB, lakR, totR] at *
  rw [Bool.eq_iff_iff, decide_eq_true_eq, decide_eq_true_eq]
  cases m <;> simp at h2 ⊢ <;> omega
theorem lak_inc (b : Bx) : lakR ⟨b.map, b.c, b.have_ + 1⟩ = lakR b - 1 := by
  unfold lakR totR
  simp only
  omega
theorem WfR.inc {s : List Bx} (h : WfR s) (hf : fulT s = false) : WfR (incB s) := by
  cases s with
  | nil => exact h
  | cons x r =>
    intro b hb
    simp only [incB, List.mem_cons] at hb
    rcases hb with rfl | hb
    · have hx := h x (by simp)
      rw [ful_lak hx, decide_eq_false_iff_not] at hf
      refine ⟨hx.1, ?_⟩
      have h2 := hx.2
      show x.have_ + 1 ≤ totR x
      unfold lakR at hf
      omega
    · exact h b (List.mem_cons_of_mem _ hb)
theorem WfR.open_ {s : List Bx} (h : WfR s) (m : Bool) (c : Int) (hc : 0 ≤ c ∧ c ≤ 4294967295) : WfR (⟨m, c, 0⟩ :: s) := by
  intro b hb
  simp only [List.mem_cons] at hb
  rcases hb with rfl | hb
  · exact ⟨hc, Nat.zero_le _⟩
  · exact h b hb
theorem info_rc : (Try.prog.info? 115).map (fun i => (i.zero, i.size, i.bytes)) = some (some (.agg #[.bool false, .int .u64 0]), 2, 16) := by kernel_rfl
/-- The innermost one, as the walks meet it. -/
theorem rst_last {w : World} {v : Value} {m : Bool} {l : Nat} {r : List Bx} (h : Win w 115 2 v (r.length + 1) (rcL r ++ rcB m l)) :
    ∃ g off cap, v = .slice (some ⟨g, off, none⟩) (r.length + 1) cap ∧
      (w.cell? ⟨g, off + r.length * 2, none⟩ = some (.bool m) ∧ w.cell? ⟨g, off + r.length * 2 + 1, none⟩ = some (.int .u64 (l : Int))) ∧
      (w.frozen? ⟨g, off + r.length * 2, none⟩ = false ∧ w.frozen? ⟨g, off + r.length * 2 + 1, none⟩ = false) := by
  obtain ⟨g, off, cap, rfl, h1, h2, _, _, h3⟩ := h.form (by simp)
  have hl := rcL_length r
  have hx : ∀ j u, (rcB m l)[j]? = some u → w.cell? ⟨g, off + (r.length * 2 + j), none⟩ = some u ∧ w.frozen? ⟨g, off + (r.length * 2 + j), none⟩ = false := fun j u hu => by
    refine h3 _ u ?_
    rw [← hl, List.getElem?_append_right (by omega), Nat.add_sub_cancel_left]
    exact hu
  have x0 := hx 0 _ rfl
  have x1 := hx 1 _ rfl
  simp only [← Nat.add_assoc, Nat.add_zero] at x0 x1
  exact ⟨g, off, cap, rfl, ⟨x0.1, x1.1⟩, ⟨x0.2, x1.2⟩⟩
set_option maxRecDepth 100000 in
set_option maxHeartbeats 1000000 in
theorem rkey_any {w : World} {v : Value} {s : List Bx} (h : Win w 115 2 v s.length (rcL s)) (hd : s.length ≤ 1000) (hw : WfR s) :
    Calls Try.prog 42 #[v] w fun r w' => r = .returned (.bool (keyB s)) ∧ Below w.heap.size w w' := by
  cases s with
  | nil =>
    obtain ⟨a, cp, rfl, _, _⟩ := h.slice_form
    clear h
    go_enter Try.func42, Try.ntmps42
    go_wp2
    go_ret
    exact ⟨rfl, Below.refl _ _⟩
  | cons x r =>
    obtain ⟨g, off, cap, rfl, ⟨c0, c1⟩, ⟨f0, f1⟩⟩ := rst_last h
    rw [key_lak (hw x (by simp))]
    simp only [List.length_cons] at hd
    obtain ⟨m, hm⟩ : ∃ m, x.map = m := ⟨_, rfl⟩
    rw [hm] at c0 ⊢
    obtain ⟨l, hl⟩ : ∃ l, lakR x = l := ⟨_, rfl⟩
    rw [hl] at c1 ⊢
    have hz2 : ((l : Int) % 2 == 0) = decide (l % 2 = 0) := by
      rw [Bool.eq_iff_iff, beq_iff_eq, decide_eq_true_eq]
      omega
    clear h hw hm hl
    generalize r.length = n at *
    have hwn : wrap64 (n : Int) = (n : Int) := by unfold wrap64; omega
    have hwn2 : IntKind.i64.wrap (n : Int) = (n : Int) := by simp only [IntKind.wrap_i64]; omega
    have hz : ((n : Int) ≥ 0) = True := by simp
    generalize decide (l % 2 = 0) = K at *
    cases m with
    | false =>
      go_enter Try.func42, Try.ntmps42
      go_wp2
      go_ret
      exact ⟨rfl, Below.refl _ _⟩
    | true =>
      go_enter Try.func42, Try.ntmps42
      go_wp2
      go_ret
      exact ⟨by simp, Below.refl _ _⟩
set_option maxRecDepth 100000 in
set_option maxHeartbeats 1000000 in
theorem rfull_any {w : World} {v : Value} {s : List Bx} (h : Win w 115 2 v s.length (rcL s)) (hd : s.length ≤ 1000) (hw : WfR s) :
    Calls Try.prog 41 #[v] w fun r w' => r = .returned (.bool (fulT s)) ∧ Below w.heap.size w w' := by
  cases s with
  | nil =>
    obtain ⟨a, cp, rfl, _, _⟩ := h.slice_form
    clear h
    go_enter Try.func41, Try.ntmps41
    go_wp2
    go_ret
    exact ⟨rfl, Below.refl _ _⟩
  | cons x r =>
    obtain ⟨g, off, cap, rfl, ⟨c0, c1⟩, ⟨f0, f1⟩⟩ := rst_last h
    rw [ful_lak (hw x (by simp))]
    simp only [List.length_cons] at hd
    obtain ⟨l, hl⟩ : ∃ l, lakR x = l := ⟨_, rfl⟩
    rw [hl] at c1 ⊢
    have hz2 : ((l : Int) == 0) = decide (l = 0) := by
      rw [Bool.eq_iff_iff, beq_iff_eq, decide_eq_true_eq]
      omega
    clear h hw hl
    generalize r.length = n at *
    have hwn : wrap64 (n : Int) = (n : Int) := by unfold wrap64; omega
    have hwn2 : IntKind.i64.wrap (n : Int) = (n : Int) := by simp only [IntKind.wrap_i64]; omega
    have hz : ((n : Int) ≥ 0) = True := by simp
    generalize decide (l = 0) = K at *
    go_enter Try.func41, Try.ntmps41
    go_wp2
    go_ret
    exact ⟨by simp, Below.refl _ _⟩
theorem rst_store {w : World} {m : Bool} {l l' : Nat} {r : List Bx} {g off cap n : Nat} (_ : n = r.length + 1) (h : Win w 115 2 (.slice (some ⟨g, off, none⟩) n cap) n (rcL r ++ rcB m l)) :
    Win (w.setCell ⟨g, off + r.length * 2 + 1, none⟩ (.int .u64 (l' : Int))) 115 2 (.slice (some ⟨g, off, none⟩) n cap) n (rcL r ++ rcB m l') := by
  have hw := h.store (r.length * 2 + 1) (by rw [List.length_append, rcL_length]; simp [rcB]) (.int .u64 (l' : Int))
  have hx : (rcL r ++ rcB m l).set (r.length * 2 + 1) (.int .u64 (l' : Int)) = rcL r ++ rcB m l' := by
    rw [← rcL_length, List.set_append, if_neg (by omega), Nat.add_sub_cancel_left]
    rfl
  rw [hx, ← Nat.add_assoc] at hw
  exact hw
set_option maxRecDepth 100000 in
set_option maxHeartbeats 1000000 in
/-- COUNT: the innermost one has a part more. -/
theorem rcount_any {w : World} {v : Value} {s : List Bx} (h : Win w 115 2 v s.length (rcL s)) (hd : s.length ≤ 1000) (hw : WfR s) (hf : fulT s = false) :
    Calls Try.prog 45 #[v] w fun r w' => r = .returned (.tuple #[]) ∧ Win w' 115 2 v s.length (rcL (incB s)) ∧ Step (Value.owner v) (Value.owner v) w w' := by
  cases s with
  | nil =>
    have HH := Lib.hid h
    obtain ⟨a, cp, rfl, _, _⟩ := h.slice_form
    clear h
    go_enter Try.func45, Try.ntmps45
    go_wp2
    go_end0
    exact ⟨rfl, HH.out, Step.refl _ _⟩
  | cons x r =>
    obtain ⟨g, off, cap, rfl, ⟨c0, c1⟩, ⟨f0, f1⟩⟩ := rst_last h
    have hx := hw x (by simp)
    rw [ful_lak hx, decide_eq_false_iff_not] at hf
    have htot : lakR x ≤ 8589934590 := by
      obtain ⟨⟨h1, h2⟩, _⟩ := hx
      unfold lakR totR
      split <;> omega
    obtain ⟨l, hl⟩ : ∃ l, lakR x = l + 1 := ⟨lakR x - 1, by omega⟩
    simp only [List.length_cons] at hd
    simp only [List.length_cons, incB, rcL, lak_inc, hl, Nat.add_sub_cancel] at *
    rw [Int.natCast_add] at c1
    have HS := Lib.hid (rst_store (l' := l) rfl h)
    clear h hx hw hf hl
    generalize rcL r ++ rcB x.map l = XS at *
    generalize r.length = n at *
    have hw : IntKind.u64.wrap ((l : Int) + 1 - 1) = (l : Int) := by simp only [IntKind.wrap_u64]; omega
    have hw3 : IntKind.u64.wrap (l : Int) = (l : Int) := by simp only [IntKind.wrap_u64]; omega
    have hwn : wrap64 (n : Int) = (n : Int) := by unfold wrap64; omega
    have hwn2 : IntKind.i64.wrap (n : Int) = (n : Int) := by simp only [IntKind.wrap_i64]; omega
    have hz : ((n : Int) ≥ 0) = True := by simp
    go_enter Try.func45, Try.ntmps45
    go_wp2
    go_end0
    exact ⟨rfl, HS.out, step_setCell _ _ _ _ (by simp [Value.owner])⟩
end Go.Proofs.Ytonjdnahplphhaa
