/-
  CONTRACT of escape.Read: a text's inside, by a Reader and a Builder.
-/
import Derived.Test.YtpcdajhcimcedaaEscE
namespace Go.Proofs.Ytpcdajhcimcedaa
open Go.RowKit
open Go.Lib
theorem step_len {s : Ins} (hW : WfI s) (x : UInt8) : (stepI s x).2.length ≤ 4 := by
  match s with
  | .bad u => simp [stepI]
  | .text n lo hi =>
    simp only [stepI]
    repeat' split
    all_goals simp
  | .back =>
    simp only [stepI]
    repeat' split
    all_goals simp
  | .hex k v =>
    obtain ⟨hk, hv⟩ := hW
    cases hh : hexV x.toNat with
    | none => rw [step_hex_none hh]; simp
    | some d =>
      by_cases h3 : k < 3
      · rw [step_hex_mid hh h3]; simp
      · have : k = 3 := by omega
        subst this
        rw [step_hex_end hh]
        have hd := (hexV_lt hh).1
        have hcl : v * 16 + d < 65536 := by omega
        generalize v * 16 + d = c at *
        unfold endI
        by_cases q1 : 56320 ≤ c ∧ c ≤ 57343
        · rw [if_pos q1]; simp
        · rw [if_neg q1]
          by_cases q2 : 55296 ≤ c ∧ c ≤ 56319
          · rw [if_pos q2]; simp
          · rw [if_neg q2]
            have h4 := (enc_len (rune_of hcl q1 q2)).2
            generalize encL c = l at h4 ⊢
            exact h4
  | .high h k c =>
    obtain ⟨hh1, hh2, hkc⟩ := hW
    by_cases hl : lowOk k x.toNat = false
    · rw [step_high_no hl]; simp
    have hl' : lowOk k x.toNat = true := by simpa using hl
    by_cases k5 : k < 5
    · rw [step_lt hl' k5 rfl]; simp
    · have hk : k = 5 := by omega
      subst hk
      obtain ⟨d, hd⟩ := (lowOk_byte hl').2.2.2.2 (by omega)
      have hdl := (hexV_lt hd).1
      rw [step_end hl' (lowW_d (by omega) hd)]
      have h4 := (enc_len (pair_rune (h := h) (c := c * 16 + d) ⟨hh1, hh2⟩ (by omega))).2
      generalize encL (pairN h (c * 16 + d)) = l at h4 ⊢
      exact h4
/-- What Read tells: the text, and the error. -/
def readE (p : Ins × List UInt8) : Nat := if errI p.1 ≠ 0 then errI p.1 else if wholeI p.1 = true then 0 else 3
def readT (p : Ins × List UInt8) : List UInt8 := if readE p = 0 then p.2 else []
structure RIs (B : Nat) (w0 wr : World) (rb bb k : Nat) (p : Ins × List UInt8) : Prop where
  e : EAt wr rb 0 p.1
  ok : errI p.1 = 0
  blk : RBlk wr rb
  bld : IsB B bb p.2 wr
  below : Below B w0 wr
  hrb : B ≤ rb
  hbb : B ≤ bb
  hne : rb ≠ bb
  len : p.2.length ≤ 4 * k
theorem RIs.sz {B : Nat} {w0 wr : World} {rb bb k : Nat} {p : Ins × List UInt8} (h : RIs B w0 wr rb bb k p) : B ≤ wr.heap.size := Nat.le_trans h.hrb (Nat.le_of_lt h.e.lt)
theorem run_take_snoc (l : List UInt8) (k : Nat) (x : UInt8) (hx : l[k]? = some x) : runI insT (l.take (k + 1)) = ((stepI (runI insT (l.take k)).1 x).1, (runI insT (l.take k)).2 ++ (stepI (runI insT (l.take k)).1 x).2) := by
  obtain ⟨hk, hx⟩ := List.getElem?_eq_some_iff.1 hx
  have := runI_snoc insT l k hk
  rw [hx] at this
  exact this
theorem run_bad_at (l : List UInt8) (k : Nat) (h : errI (runI insT (l.take k)).1 ≠ 0) : (runI insT l).1 = (runI insT (l.take k)).1 := by
  obtain ⟨u, hu⟩ := bad_of h
  have := runI_append insT (l.take k) (l.drop k)
  rw [List.take_append_drop] at this
  rw [this, hu, runI_bad]
theorem readE_bad {p : Ins × List UInt8} (h : errI p.1 ≠ 0) : readE p = errI p.1 ∧ readT p = [] := by
  have : readE p = errI p.1 := by unfold readE; rw [if_pos h]
  exact ⟨this, by unfold readT; rw [this, if_neg h]⟩
set_option maxRecDepth 100000 in
set_option maxHeartbeats 1600000 in
/-- READ. -/
theorem read_any (s : ByteArray) (w : World) (hs : s.size ≤ 1000000) :
    Calls Try.prog 13 #[.string s] w fun e w' => e = .returned (.tuple #[.string ⟨(readT (runI insT s.data.toList)).toArray⟩, .int .i64 (readE (runI insT s.data.toList))]) ∧ Below w.heap.size w w' := by
  have hl : s.data.toList.length = s.size := size_list s
  obtain ⟨B, hB⟩ : ∃ B, B = w.heap.size := ⟨_, rfl⟩
  have H0 : Hid (RIs w.heap.size w ((w.alloc (.cells rdZero 28)).alloc (.cells #[.pointer none, .slice none 0 0] 53)) w.heap.size (w.heap.size + 1) 0 (runI insT (s.data.toList.take 0))) := Lib.hid {
    e := (eat_new w).keep (Below.heap_alloc _ _ _ (by simp))
    ok := rfl
    blk := (rblk_new w).keep (Below.heap_alloc _ _ _ (by simp))
    bld := .inl ⟨by omega, .slice none 0 0, by
      have := heap_alloc_new (w.alloc (.cells rdZero 28)) (.cells #[.pointer none, .slice none 0 0] 53)
      simpa using this, World.ownsRowF_nil _ _ _ _, by simp [Value.ownBlock]⟩
    below := ((Below.refl _ w).alloc (Nat.le_refl _) _).alloc (by simp) _
    hrb := Nat.le_refl _
    hbb := by omega
    hne := by omega
    len := by simp [runI] }
  obtain ⟨P, hP⟩ : ∃ P, P = runI insT s.data.toList := ⟨_, rfl⟩
  have HB := Lib.hid hB
  rw [← hP, ← hB]
  rw [← hB] at H0
  clear hB
  obtain ⟨Z, hZ⟩ : ∃ Z : ByteArray, Z = ⟨(readT P).toArray⟩ := ⟨_, rfl⟩
  obtain ⟨E, hE⟩ : ∃ E : Nat, E = readE P := ⟨_, rfl⟩
  rw [← hZ, ← hE]
  have HR := Lib.hid (And.intro hP (And.intro hZ hE))
  clear hP hZ hE
  go_enter Try.func13, Try.ntmps13
  go_wp2_with fail
  generalize (w.alloc (.cells rdZero 28)).alloc (.cells #[.pointer none, .slice none 0 0] 53) = W at H0 ⊢
  rw [← HB.out]
  generalize hbb : B + 1 = bb at H0 ⊢
  clear hbb HB
  go_loopw [11] (fun i wr => ∃ k : Nat, k ≤ s.size ∧ i = .int .i64 k ∧ Hid (RIs B w wr B bb k (runI insT (s.data.toList.take k)))) (fun i _ => s.size - (RowKit.intOf i).toNat)
  case atStart => exact ⟨0, Nat.zero_le _, rfl, H0⟩
  case round =>
    obtain ⟨k, hk, rfl, HC⟩ := hrel
    clear H0
    by_cases hlt : k < s.size
    · obtain ⟨x, hx⟩ : ∃ x, s[k]'hlt = x := ⟨_, rfl⟩
      have hsn := run_take_snoc s.data.toList k x (by rw [List.getElem?_eq_getElem (by omega)]; exact congrArg some hx)
      have HX := Lib.hid hsn
      have hbad := run_bad_at s.data.toList (k + 1)
      rw [hsn] at hbad
      have HBd := Lib.hid hbad
      clear hsn hbad
      generalize runI insT (s.data.toList.take k) = p at *
      go_wp2_with fail
      refine (estep_at HC.out.e x).mono ?_
      rintro e w2 ⟨rfl, he2, s2⟩
      by_cases h0 : errI (stepI p.1 x).1 = 0
      · have hlen := step_len (HC.out.e.wf HC.out.ok) x
        have HN : Hid (EAt w2 B 0 (stepI p.1 x).1 ∧ RBlk w2 B ∧ IsB B bb p.2 w2 ∧ Below B w w2) := Lib.hid
          ⟨he2, HC.out.blk.sub s2, isB_step HC.out.bld s2.step (Ne.symm HC.out.hne) HC.out.blk, HC.out.below.trans (s2.below HC.out.hrb HC.out.sz)⟩
        have HO := Lib.hid h0
        have HLl := Lib.hid hlen
        rw [h0]
        have hsz : B ≤ w2.heap.size := Nat.le_of_lt HN.out.1.lt
        clear he2 s2 h0 hlen
        generalize hl2 : (stepI p.1 x).2 = l2 at *
        generalize hs2 : (stepI p.1 x).1 = p1 at *
        obtain ⟨y, hy⟩ : ∃ y : ByteArray, y = ⟨l2.toArray⟩ := ⟨_, rfl⟩
        rw [← hy]
        have hyl : y.data.toList = l2 := by rw [hy]
        have hW := sb_write B bb p.2 y w2 HN.out.2.2.1 (by
          have := HC.out.len
          have h1 := HLl.out
          rw [← size_list y, hyl]
          omega) hsz
        rw [hyl] at hW
        have HW := Lib.hid hW
        clear hW hy hyl hl2 hs2
        go_wp2_with fail
        refine HW.out.mono ?_
        rintro e w3 ⟨rfl, hb3, bl3, ok3⟩
        have hk3 := HN.out.2.1.same ok3 (by simpa using HC.out.hne.symm)
        have HF : Hid (RIs B w w3 B bb (k + 1) (runI insT (s.data.toList.take (k + 1)))) := by
          rw [HX.out]
          refine Lib.hid { e := HN.out.1.keep hk3, ok := HO.out, blk := HN.out.2.1.keep hk3, bld := hb3, below := HN.out.2.2.2.trans bl3, hrb := HC.out.hrb, hbb := HC.out.hbb, hne := HC.out.hne, len := ?_ }
          have := HC.out.len
          have h1 := HLl.out
          simp only [List.length_append]
          omega
        clear hb3 bl3 ok3 hk3
        go_wp2
        go_roundw
        case rel => exact ⟨k + 1, by omega, by go_num, HF⟩
        case measure => simp [RowKit.intOf]; omega
      · have hfin := HBd.out h0
        have hEv : E = errI (stepI p.1 x).1 ∧ Z = ⟨#[]⟩ := by
          obtain ⟨h1, h2, h3⟩ := HR.out
          rw [← h1] at hfin
          have := readE_bad (p := P) (by rw [hfin]; exact h0)
          rw [h2, h3, this.1, this.2, hfin]
          exact ⟨rfl, rfl⟩
        have hB2 := Lib.hid (HC.out.below.trans (s2.below HC.out.hrb HC.out.sz))
        obtain ⟨hE1, hZ1⟩ := hEv
        rw [← hE1] at h0 ⊢
        have z : ((E : Int) == 0) = false := by rw [beq_eq_false_iff_ne]; omega
        subst hZ1
        clear he2 s2 hfin hE1
        generalize (stepI p.1 x).2 = l2 at *
        go_wp2
        go_ret2
        exact ⟨rfl, hB2.out⟩
    · rw [show s.data.toList.take k = s.data.toList from List.take_of_length_le (by omega)] at HC
      obtain ⟨h1, h2, h3⟩ := HR.out
      rw [← h1] at HC
      have hWh := ewhole_at HC.out.e
      have hO := HC.out.ok
      cases hq : wholeI P.1 with
      | true =>
        rw [hq] at hWh
        have hv : E = 0 ∧ Z = ⟨P.2.toArray⟩ := by
          have : readE P = 0 := by unfold readE; rw [if_neg (by rw [hO]; decide), if_pos hq]
          rw [h2, h3]
          unfold readT
          rw [this]
          exact ⟨rfl, rfl⟩
        obtain ⟨rfl, hZ⟩ := hv
        have HW := Lib.hid hWh
        have HS := Lib.hid (sb_string B bb P.2 wr HC.out.bld HC.out.sz)
        rw [← hZ] at HS
        clear h1 h2 h3 hWh hq hO HR hZ
        go_wp2_with fail
        refine HW.out.mono ?_
        rintro e w2 ⟨rfl, rfl⟩
        go_wp2_with fail
        refine HS.out.mono ?_
        rintro e w2 ⟨rfl, _, hb2, _⟩
        have HB := Lib.hid (HC.out.below.trans hb2)
        clear hb2
        go_wp2
        go_ret2
        exact ⟨rfl, HB.out⟩
      | false =>
        rw [hq] at hWh
        have hv : E = 3 ∧ Z = ⟨#[]⟩ := by
          have : readE P = 3 := by unfold readE; rw [if_neg (by rw [hO]; decide), if_neg (by rw [hq]; decide)]
          rw [h2, h3]
          unfold readT
          rw [this]
          exact ⟨rfl, rfl⟩
        obtain ⟨rfl, rfl⟩ := hv
        have HW := Lib.hid hWh
        clear h1 h2 h3 hWh hq hO HR
        go_wp2_with fail
        refine HW.out.mono ?_
        rintro e w2 ⟨rfl, rfl⟩
        go_wp2
        go_ret2
        exact ⟨rfl, HC.out.below⟩
end Go.Proofs.Ytpcdajhcimcedaa
