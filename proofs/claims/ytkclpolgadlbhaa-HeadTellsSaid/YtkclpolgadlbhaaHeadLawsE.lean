/-
  LAWS of chapter 7: HeadTells.
-/
import Derived.Test.YtkclpolgadlbhaaHeadTell
import Derived.Deep.DeepCutAuto
import Derived.BigQuiet
namespace Go.Proofs.Ytkclpolgadlbhaa
open Go.RowKit
open Go.Lib
set_option maxRecDepth 100000 in
set_option maxHeartbeats 1000000 in
theorem tells_long (s : ByteArray) (A : Option Addr) (n c : Nat) (m : Int) (v : Nat) (y : Int) (h : ¬ s.size ≤ 60 ∨ ¬ n ≤ 60) (w : World) :
    Calls Try.prog 3 #[.string s, .slice A n c, .int .i64 m, .int .u64 v, .int .i64 y] w fun e w' => e = .returned (.bool true) ∧ Below w.heap.size w w' := by
  by_cases h1 : s.size ≤ 60
  · have c0 : ((60 : Int) < (s.size : Int)) = False := by simp only [eq_iff_iff, iff_false]; omega
    have c1 : ((60 : Int) < (n : Int)) = True := by simp only [eq_iff_iff, iff_true]; omega
    clear h h1
    go_enter Try.func3, Try.ntmps3
    go_wp2_with fail
    refine (alive_any _).mono ?_
    rintro e w1 ⟨rfl, b1⟩
    go_wp2
    go_ret
    exact ⟨rfl, b1⟩
  · have c0 : ((60 : Int) < (s.size : Int)) = True := by simp only [eq_iff_iff, iff_true]; omega
    clear h h1
    go_enter Try.func3, Try.ntmps3
    go_wp2_with fail
    refine (alive_any _).mono ?_
    rintro e w1 ⟨rfl, b1⟩
    go_wp2
    go_ret
    exact ⟨rfl, b1⟩
set_option maxRecDepth 100000 in
set_option maxHeartbeats 8000000 in
theorem tells_main (s : ByteArray) (A : Option Addr) (n c : Nat) (zs : List Bool) (m : Int) (v : Nat) (y : Int) (hs : s.size ≤ 60) (hl : zs.length = n) (w : World) (hR : Reads w w.heap.size 1 A n (zs.map Value.bool)) (hn : n ≤ 60) (hv : v < 18446744073709551616) :
    Calls Try.prog 3 #[.string s, .slice A n c, .int .i64 m, .int .u64 v, .int .i64 y] w fun e w' => e = .returned (.bool true) ∧ Below w.heap.size w w' := by
  have HR := Lib.hid hR
  have HV0 := Lib.hid hv
  clear hv
  have c0 : ((60 : Int) < (s.size : Int)) = False := by simp only [eq_iff_iff, iff_false]; omega
  have c1 : ((60 : Int) < (n : Int)) = False := by simp only [eq_iff_iff, iff_false]; omega
  clear hR
  go_enter Try.func3, Try.ntmps3
  go_wp2_with fail
  refine (alive_any _).mono ?_
  rintro e w1 ⟨rfl, b1⟩
  have B1 := Lib.hid b1
  clear b1
  obtain ⟨b, hb⟩ : ∃ b, b = w1.heap.size := ⟨_, rfl⟩
  have H0 : Hid (TMid w b 0 .new [] false 0 (w1.alloc (.cells hdZero 28))) := Lib.hid (by
    rw [hb]
    exact ⟨hat_new w1, B1.out.alloc B1.out.size _, B1.out.size, ⟨rfl, rfl, rfl⟩, by simp⟩)
  have HBn := Lib.hid hb
  clear hb B1
  go_wp2
  rw [← HBn.out]
  clear HBn
  go_loopw [12, 13, 14, 15] (fun o d f i wr => ∃ (k : Nat) (st : Hd) (own : List UInt8) (dn : Bool) (bd : Nat), k ≤ s.size ∧ i = .int .i64 k ∧ o = .string ⟨own.toArray⟩ ∧ d = .bool dn ∧ f = .int .i64 bd ∧ Hid (TMid w b k st own dn bd wr)) (fun _ _ _ i _ => s.size - (RowKit.intOf i).toNat)
  case atStart => exact ⟨0, .new, [], false, 0, Nat.zero_le _, rfl, rfl, rfl, rfl, H0⟩
  case round =>
    obtain ⟨k, st, own, dn, bd, hk, rfl, rfl, rfl, rfl, HE⟩ := hrel
    clear H0
    by_cases hlt : k < s.size
    · generalize hO : (⟨own.toArray⟩ : ByteArray) = O
      have HO := Lib.hid hO
      clear hO
      go_upto_region 9 with fail
      go_cut [55] (fun z wx => ∃ zb : Bool, z = .bool zb ∧ wr = wx)
      case first => as_aux_lemma =>
        by_cases hkn : k < n
        · have hkz : k < zs.length := by omega
          obtain ⟨ad, u, rfl, hb0, hu, hcell⟩ := (HR.out.below HE.out.bl).at_ hkn
          rw [List.getElem?_map, List.getElem?_eq_getElem hkz, Option.map_some, Option.some.injEq] at hu
          subst hu
          go_wp2
          go_meet
          exact ⟨_, rfl, rfl⟩
        · go_wp2
          go_meet
          exact ⟨_, rfl, rfl⟩
      case rest =>
        obtain ⟨zb, rfl, rfl⟩ := hcut
        go_upto_if 55 with fail
        go_cut [12, 13, 14] (fun o d f wx => ∃ (st : Hd) (own : List UInt8) (dn : Bool) (bd : Nat), o = .string ⟨own.toArray⟩ ∧ d = .bool dn ∧ f = .int .i64 bd ∧ Hid (TMid w b k st own dn bd wx))
        case first => as_aux_lemma =>
          cases zb with
          | true =>
            have HC := Lib.hid (clear_at HE.out.at_)
            go_wp2_with fail
            refine HC.out.mono ?_
            rintro e w2 ⟨rfl, hP⟩
            have HE2 : Hid (TMid w b k .new [] false 0 w2) := Lib.hid ⟨hP.1, HE.out.bl.trans (hP.below HE.out.le HE.out.bl.size), HE.out.le, ⟨rfl, rfl, rfl⟩, by simp⟩
            go_wp2_with fail
            go_meet
            exact ⟨.new, [], false, 0, rfl, rfl, rfl, HE2⟩
          | false =>
            go_wp2
            go_meet
            exact ⟨st, own, dn, bd, by rw [HO.out], rfl, rfl, HE⟩
        case rest => as_aux_lemma =>
          obtain ⟨st, own, dn, bd, rfl, rfl, rfl, HE⟩ := hcut
          obtain ⟨x, hx⟩ : ∃ x, s[k]'hlt = x := ⟨_, rfl⟩
          clear HO HR
          rcases side_cases k st own dn bd x HE.out.rel HE.out.len HE.out.at_.1 with ⟨rfl, hb2⟩ | ⟨hst, rfl, rfl⟩ | ⟨rfl, rfl, rfl, hst, hd⟩ | ⟨rfl, rfl, c, t, low, N, d, hct, hL⟩
          · as_aux_lemma =>
            have hS : Hid (Calls _ _ _ _ fun e w' => e = .returned (.tuple #[.bool false, .int .i64 bd]) ∧ HPost wc b 0 (.bad bd) w') := Lib.hid (by have := hstep_at (byte_lt x) HE.out.at_; exact this)
            obtain ⟨O, hO⟩ : ∃ O : ByteArray, (⟨own.toArray⟩ : ByteArray) = O := ⟨_, rfl⟩
            have HO := Lib.hid hO
            rw [hO]
            clear hO
            rcases hb2 with rfl | rfl
            all_goals
              go_wp2_with fail
              refine hS.out.mono ?_
              rintro e w2 ⟨rfl, hP⟩
              have HM : Hid (Calls _ _ _ _ fun e w' => e = .returned (.int .i64 0) ∧ w2 = w') := Lib.hid (major_at hP.1)
              have HV : Hid (Calls _ _ _ _ fun e w' => e = .returned (.int .u64 0) ∧ w2 = w') := Lib.hid (value_at hP.1)
              have HQ : Hid (Calls _ _ _ _ fun e w' => e = .returned (.bool false) ∧ w2 = w') := Lib.hid (open_at hP.1)
              have HN := Lib.hid (And.intro hP.1 (And.intro (HE.out.bl.trans (hP.below HE.out.le HE.out.bl.size)) (And.intro HE.out.le HE.out.len)))
              clear hP hS HE
              go_wp2_with fail
              refine HM.out.mono ?_
              rintro e w3 ⟨rfl, rfl⟩
              go_wp2_with fail
              refine HV.out.mono ?_
              rintro e w3 ⟨rfl, rfl⟩
              go_wp2_with fail
              refine HQ.out.mono ?_
              rintro e w3 ⟨rfl, rfl⟩
              go_wp2
              go_roundw
              case rel =>
                exact ⟨k + 1, _, own, _, _, by omega, by go_num, by rw [HO.out], rfl, rfl, Lib.hid ⟨HN.out.1, HN.out.2.1, HN.out.2.2.1, rfl, by have := HN.out.2.2.2; omega⟩⟩
              case measure => simp [RowKit.intOf]; omega
          · as_aux_lemma =>
            have hS : Hid (Calls _ _ _ _ fun e w' => e = .returned (.tuple #[.bool false, .int .i64 14]) ∧ HPost wc b 0 (.bad 14) w') := Lib.hid (by have := hstep_at (byte_lt x) HE.out.at_; rw [hst] at this; exact this)
            clear hst
            obtain ⟨O, hO⟩ : ∃ O : ByteArray, (⟨own.toArray⟩ : ByteArray) = O := ⟨_, rfl⟩
            have HO := Lib.hid hO
            rw [hO]
            clear hO
            go_wp2_with fail
            refine hS.out.mono ?_
            rintro e w2 ⟨rfl, hP⟩
            have HM : Hid (Calls _ _ _ _ fun e w' => e = .returned (.int .i64 0) ∧ w2 = w') := Lib.hid (major_at hP.1)
            have HV : Hid (Calls _ _ _ _ fun e w' => e = .returned (.int .u64 0) ∧ w2 = w') := Lib.hid (value_at hP.1)
            have HQ : Hid (Calls _ _ _ _ fun e w' => e = .returned (.bool false) ∧ w2 = w') := Lib.hid (open_at hP.1)
            have HN := Lib.hid (And.intro hP.1 (And.intro (HE.out.bl.trans (hP.below HE.out.le HE.out.bl.size)) (And.intro HE.out.le HE.out.len)))
            clear hP hS HE
            go_wp2_with fail
            refine HM.out.mono ?_
            rintro e w3 ⟨rfl, rfl⟩
            go_wp2_with fail
            refine HV.out.mono ?_
            rintro e w3 ⟨rfl, rfl⟩
            go_wp2_with fail
            refine HQ.out.mono ?_
            rintro e w3 ⟨rfl, rfl⟩
            go_wp2
            go_roundw
            case rel =>
              exact ⟨k + 1, _, own, _, _, by omega, by go_num, by rw [HO.out], rfl, rfl, Lib.hid ⟨HN.out.1, HN.out.2.1, HN.out.2.2.1, rfl, by have := HN.out.2.2.2; omega⟩⟩
            case measure => simp [RowKit.intOf]; omega
          · as_aux_lemma =>
            have hSl := slice_byte s k hlt x hx
            obtain ⟨X, hX⟩ : ∃ X : ByteArray, X = ⟨#[x]⟩ := ⟨_, rfl⟩
            have hI0 : ∀ W, (Instr.index 9 (.string X) (.int .i64 0)).run Try.prog W = .ok (.int .u8 ((x.toNat : Nat) : Int)) W := fun W => idx_any X 0 (by rw [hX]; exact Nat.one_pos) x (by subst hX; rfl) W
            have hXs : X.size = 1 := by rw [hX]; rfl
            obtain ⟨O, hO⟩ : ∃ O : ByteArray, (⟨([] : List UInt8).toArray⟩ : ByteArray) = O := ⟨_, rfl⟩
            have hcat : O ++ X = X := by rw [← hO]; apply ByteArray.ext; simp
            have hOs : O.size = 0 := by rw [← hO]; rfl
            rw [hO]
            clear hO
            have hand := and31 x.toNat (byte_lt x)
            rw [← hX] at hSl
            have HX := Lib.hid hX
            clear hX
            have hS : Hid (Calls _ _ _ _ fun e w' => e = .returned (.tuple #[.bool false, .int .i64 2]) ∧ HPost wc b 0 (.bad 2) w') := Lib.hid (by have := hstep_at (byte_lt x) HE.out.at_; rw [hst] at this; exact this)
            clear hst
            obtain ⟨low, hlow⟩ : ∃ low, x.toNat % 32 = low := ⟨_, rfl⟩
            rw [hlow] at hand hd
            clear hlow
            rcases hd with rfl | rfl | rfl
            all_goals
              go_wp2_with fail
              refine hS.out.mono ?_
              rintro e w2 ⟨rfl, hP⟩
              have HN := Lib.hid (And.intro hP.1 (And.intro (HE.out.bl.trans (hP.below HE.out.le HE.out.bl.size)) HE.out.le))
              clear hP hS HE
              go_wp2
              go_roundw
              case rel => exact ⟨k + 1, .bad 2, [x], _, _, by omega, by go_num, by rw [HX.out], rfl, rfl, Lib.hid ⟨HN.out.1, HN.out.2.1, HN.out.2.2, rfl, by simp⟩⟩
              case measure => simp [RowKit.intOf]; omega
          · as_aux_lemma =>
            have HOW := Lib.hid (And.intro HE.out.len (And.intro HE.out.bl HE.out.le))
            have HS := hstep_at (byte_lt x) HE.out.at_
            obtain ⟨st', hst'⟩ : ∃ st', stepH st x.toNat = st' := ⟨_, rfl⟩
            rw [hst'] at hL HS
            clear hst'
            have hSl := slice_byte s k hlt x hx
            obtain ⟨X, hX⟩ : ∃ X : ByteArray, X = ⟨#[x]⟩ := ⟨_, rfl⟩
            obtain ⟨O, hO⟩ : ∃ O : ByteArray, (⟨(own).toArray⟩ : ByteArray) = O := ⟨_, rfl⟩
            obtain ⟨Z, hZ⟩ : ∃ Z : ByteArray, (⟨(c :: t).toArray⟩ : ByteArray) = Z := ⟨_, rfl⟩
            have hcat : O ++ X = Z := by
              rw [← hO, ← hZ, hX, show (⟨#[x]⟩ : ByteArray) = ⟨[x].toArray⟩ from rfl, ba_append, hct]
            have hXs : X.size = 1 := by rw [hX]; rfl
            have hOs : O.size = (own).length := by rw [← hO]; rfl
            have hZs : Z.size = t.length + 1 := by rw [← hZ, ba_size]; simp
            have hbig : (9223372036854775807 < O.size + X.size) = False := by
              have := HE.out.len
              simp only [eq_iff_iff, iff_false]
              omega
            clear hXs
            have hat : ∀ q (hq : q < (c :: t).length) (hq' : q < Z.size), Z[q]'hq' = (c :: t)[q]'hq := by
              intro q hq hq'
              subst hZ
              rfl
            have hI0 : ∀ W, (Instr.index 9 (.string Z) (.int .i64 0)).run Try.prog W = .ok (.int .u8 ((c.toNat : Nat) : Int)) W := fun W => idx_any Z 0 (by omega) c (by rw [hat 0 (by simp) (by omega)]; rfl) W
            have hand := and31 c.toNat (byte_lt c)
            rw [hL.low_] at hand
            have hl32 : low < 32 := by have := hL.form; omega
            obtain ⟨mj, hmj⟩ : ∃ mj, c.toNat / 32 = mj := ⟨_, rfl⟩
            have hme : ((mj : Int) != IntKind.i64.wrap (((c.toNat : Nat) : Int) / 32)) = false := by rw [show ((c.toNat : Nat) : Int) / 32 = (mj : Int) by omega, wrapI_i64 _ (by omega) (by have := byte_lt c; omega)]; simp
            have hS := HS
            rw [hL.end_, hL.err] at hS
            have HSS := Lib.hid hS
            have g28 : (decide ((28 : Int) ≤ (low : Int)) && decide ((low : Int) ≤ 30)) = false := by
              rw [Bool.and_eq_false_iff, decide_eq_false_iff_not, decide_eq_false_iff_not]
              have := hL.form
              omega
            rw [← hX] at hSl
            rw [hO]
            have HZ : Hid ((⟨(c :: t).toArray⟩ : ByteArray) = Z) := Lib.hid hZ
            have HAt := Lib.hid hat
            have HL := Lib.hid hL
            have HMJ := Lib.hid hmj
            have HZs := Lib.hid hZs
            have HL32 := Lib.hid hl32
            have HI0 := Lib.hid hI0
            clear hX hO hZ hat hct hL hmj hS HS HE hOs hZs
            go_wp2_with fail
            refine HSS.out.mono ?_
            rintro e w2 ⟨rfl, hP⟩
            have HM : Hid (∀ q, Calls _ _ _ _ fun e w' => e = .returned (.int .i64 mj) ∧ w' = w2.drewN q) := Lib.hid (fun q => by have := q_major hP.1 q; rwa [HL.out.maj, HMJ.out] at this)
            have HV : Hid (∀ q, Calls _ _ _ _ fun e w' => e = .returned (.int .u64 ((if d then valN low (N - 1) t else 0 : Nat) : Int)) ∧ w' = w2.drewN q) := Lib.hid (fun q => by have := q_value hP.1 q; rwa [HL.out.val] at this)
            have HQ : Hid (∀ q, Calls _ _ _ _ fun e w' => e = .returned (.bool (d && low == 31)) ∧ w' = w2.drewN q) := Lib.hid (fun q => by have := q_open hP.1 q; rwa [HL.out.opn] at this)
            have HN := Lib.hid (And.intro hP.1 (And.intro (HOW.out.2.1.trans (hP.below HOW.out.2.2 HOW.out.2.1.size)) HOW.out.2.2))
            clear hP HSS HOW
            go_upto_region 20 with fail
            go_cut [108] (fun z wx => z = .bool false ∧ w2 = wx)
            case first => as_aux_lemma =>
              have hfm := HL.out.form
              by_cases h28 : 28 ≤ low
              · have e1 : ((28 : Int) ≤ (low : Int)) = True := by simp only [eq_iff_iff, iff_true]; omega
                have e2 : ((low : Int) ≤ 30) = False := by simp only [eq_iff_iff, iff_false]; omega
                clear hfm h28
                go_wp2
                go_meet
                exact ⟨rfl, rfl⟩
              · have e1 : ((28 : Int) ≤ (low : Int)) = False := by simp only [eq_iff_iff, iff_false]; omega
                clear hfm h28
                go_wp2
                go_meet
                exact ⟨rfl, rfl⟩
            case rest => as_aux_lemma =>
              obtain ⟨rfl, rfl⟩ := hcut
              clear g28
              go_upto_region 25 with fail
              go_cut [120] (fun z wx => z = .bool (decide (24 ≤ low ∧ low ≤ 27)) ∧ w2 = wx)
              case first => as_aux_lemma =>
                by_cases h24 : 24 ≤ low
                · have e1 : ((24 : Int) ≤ (low : Int)) = True := by simp only [eq_iff_iff, iff_true]; omega
                  by_cases h27 : low ≤ 27
                  · have e2 : ((low : Int) ≤ 27) = True := by simp only [eq_iff_iff, iff_true]; omega
                    have hdc := Lib.hid (decide_eq_true (show 24 ≤ low ∧ low ≤ 27 from ⟨h24, h27⟩))
                    clear h24 h27
                    go_wp2
                    go_meet
                    exact ⟨by rw [hdc.out], rfl⟩
                  · have e2 : ((low : Int) ≤ 27) = False := by simp only [eq_iff_iff, iff_false]; omega
                    have hdc := Lib.hid (decide_eq_false (show ¬ (24 ≤ low ∧ low ≤ 27) by omega))
                    clear h24 h27
                    go_wp2
                    go_meet
                    exact ⟨by rw [hdc.out], rfl⟩
                · have e1 : ((24 : Int) ≤ (low : Int)) = False := by simp only [eq_iff_iff, iff_false]; omega
                  have hdc := Lib.hid (decide_eq_false (show ¬ (24 ≤ low ∧ low ≤ 27) by omega))
                  clear h24
                  go_wp2
                  go_meet
                  exact ⟨by rw [hdc.out], rfl⟩
              case rest => as_aux_lemma =>
                obtain ⟨rfl, rfl⟩ := hcut
                go_upto_if 120 with fail
                go_cut [19] (fun z wx => z = .int .i64 ((needN low : Nat) : Int) ∧ w2 = wx)
                case first => as_aux_lemma =>
                  by_cases h : 24 ≤ low ∧ low ≤ 27
                  · rw [decide_eq_true h]
                    have hd4 : low = 24 ∨ low = 25 ∨ low = 26 ∨ low = 27 := by omega
                    clear h HL HM HV HQ
                    rcases hd4 with rfl | rfl | rfl | rfl
                    all_goals
                      go_wp2
                      go_meet
                      exact ⟨rfl, rfl⟩
                  · rw [decide_eq_false h]
                    have hn1 : Hid (needN low = 1) := Lib.hid (by unfold needN; rw [if_neg h])
                    clear h
                    go_wp2
                    go_meet
                    exact ⟨by rw [hn1.out]; rfl, rfl⟩
                case rest => as_aux_lemma =>
                  obtain ⟨rfl, rfl⟩ := hcut
                  rw [← HL.out.need]
                  have hdd : ((Z.size : Int) == (N : Int)) = d := by
                    have h1 := HL.out.done
                    have h2 := HZs.out
                    rw [h1, Bool.eq_iff_iff, beq_iff_eq, decide_eq_true_iff]
                    omega
                  have HATC := HN.out.1
                  have HTL := Lib.hid (And.intro HL.out.need (And.intro HL.out.done HL.out.len))
                  have HFM := Lib.hid HL.out.form
                  have HBES := Lib.hid HL.out.bes
                  have HVV := Lib.hid HL.out.val
                  have HOO := Lib.hid HL.out.opn
                  have HAC := Lib.hid HATC
                  clear HATC HL HV HQ
                  cases d with
                  | false =>
                    have HV : Hid (∀ q, Calls _ _ _ _ fun e w' => e = .returned (.int .u64 0) ∧ w' = w2.drewN q) := Lib.hid (fun q => by have := q_value HAC.out q; rwa [HVV.out] at this)
                    have HQ : Hid (∀ q, Calls _ _ _ _ fun e w' => e = .returned (.bool false) ∧ w' = w2.drewN q) := Lib.hid (fun q => by have := q_open HAC.out q; rwa [HOO.out] at this)
                    go_wp2_with fail
                    go_loopw [20, 21] (fun a i wr => a = .int .u64 0 ∧ i = .int .i64 1 ∧ w2 = wr) (fun _ _ _ => 0)
                    case atStart => exact ⟨rfl, rfl, rfl⟩
                    case round => as_aux_lemma =>
                      obtain ⟨rfl, rfl, rfl⟩ := hrel
                      go_wp2_with fail
                      go_quiet ((first | (go_at_call 11; exact Calls.quiet_of_same (HM.out _)) | (go_at_call 12; exact Calls.quiet_of_same (HV.out _)) | (go_at_call 13; exact Calls.quiet_of_same (HQ.out _))))
                      go_wp2
                      go_roundw
                      case rel => exact ⟨k + 1, st', c :: t, false, 0, by omega, by go_num, by rw [HZ.out], rfl, rfl, Lib.hid ⟨HN.out.1.drewN _, below_drewN HN.out.2.1 _, HN.out.2.2, HBES.out, by have := HTL.out.2.2; simp; omega⟩⟩
                      case measure => simp [RowKit.intOf]; omega
                  | true =>
                    have hTN : t.length + 1 = N := of_decide_eq_true HTL.out.2.1.symm
                    have HTN := Lib.hid hTN
                    clear hTN
                    have HV : Hid (∀ q, Calls _ _ _ _ fun e w' => e = .returned (.int .u64 ((valN low (N - 1) t : Nat) : Int)) ∧ w' = w2.drewN q) := Lib.hid (fun q => by have := q_value HAC.out q; rwa [HVV.out] at this)
                    obtain ⟨bl, hbl⟩ : ∃ bl, (low == 31) = bl := ⟨_, rfl⟩
                    have hbi : ((low : Int) == 31) = bl := by rw [← hbl, Bool.eq_iff_iff]; simp only [beq_iff_eq]; omega
                    have hbb : (bl != bl) = false := by cases bl <;> rfl
                    have HQ : Hid (∀ q, Calls _ _ _ _ fun e w' => e = .returned (.bool bl) ∧ w' = w2.drewN q) := Lib.hid (fun q => by have := q_open HAC.out q; rwa [HOO.out, Bool.true_and, hbl] at this)
                    clear hbl
                    go_upto_region 29 with fail
                    go_cut [133] (fun z wx => z = .bool (decide (low < 24)) ∧ w2 = wx)
                    case first => as_aux_lemma =>
                      by_cases h24 : low < 24
                      · have e1 : ((low : Int) < 24) = True := by simp only [eq_iff_iff, iff_true]; omega
                        have hdc := Lib.hid (decide_eq_true h24)
                        clear h24
                        go_wp2
                        go_meet
                        exact ⟨by rw [hdc.out], rfl⟩
                      · have e1 : ((low : Int) < 24) = False := by simp only [eq_iff_iff, iff_false]; omega
                        have hdc := Lib.hid (decide_eq_false h24)
                        clear h24
                        go_wp2
                        go_meet
                        exact ⟨by rw [hdc.out], rfl⟩
                    case rest => as_aux_lemma =>
                      obtain ⟨rfl, rfl⟩ := hcut
                      go_upto_if 133 with fail
                      go_cut [20] (fun z wx => z = .int .u64 ((valN low 0 t : Nat) : Int) ∧ w2 = wx)
                      case first => as_aux_lemma =>
                        by_cases h24 : low < 24
                        · rw [decide_eq_true h24]
                          have hvl : Hid (valN low 0 t = low) := Lib.hid (by unfold valN; rw [if_pos h24])
                          have t5 : IntKind.u64.wrap (low : Int) = (low : Int) := wrapI_u64 _ (by omega) (by omega)
                          clear h24
                          go_wp2
                          go_meet
                          exact ⟨by rw [hvl.out], rfl⟩
                        · rw [decide_eq_false h24]
                          have hvl : Hid (valN low 0 t = 0) := Lib.hid (by unfold valN; rw [if_neg h24]; rfl)
                          clear h24
                          go_wp2
                          go_meet
                          exact ⟨by rw [hvl.out]; rfl, rfl⟩
                      case rest => as_aux_lemma =>
                        obtain ⟨rfl, rfl⟩ := hcut
                        go_wp2_with fail
                        go_loopw [20, 21] (fun a i wr => ∃ q : Nat, q + 1 ≤ N ∧ i = .int .i64 ((q : Int) + 1) ∧ a = .int .u64 ((valN low q t : Nat) : Int) ∧ w2 = wr) (fun _ i _ => N - (RowKit.intOf i).toNat)
                        case atStart => exact ⟨0, by have := HTN.out; omega, by simp, rfl, rfl⟩
                        case round => as_aux_lemma =>
                          obtain ⟨q, hq, rfl, rfl, rfl⟩ := hrel
                          have hN9 : N ≤ 9 := by
                            rw [HTL.out.1]
                            exact needN_le low
                          by_cases hqN : q + 1 < N
                          · have htn := HTN.out
                            have h24 : ¬ low < 24 := by
                              intro h
                              have hh := HTL.out.1
                              unfold needN at hh
                              rw [if_neg (by omega)] at hh
                              omega
                            have hql : q < t.length := by omega
                            obtain ⟨yy, hy⟩ : ∃ yy, t[q]'hql = yy := ⟨_, rfl⟩
                            have hzs := HZs.out
                            have hIq : ∀ W, (Instr.index 9 (.string Z) (.int .i64 ((q : Int) + 1))).run Try.prog W = .ok (.int .u8 ((yy.toNat : Nat) : Int)) W := fun W => by
                              have := idx_any Z (q + 1) (by omega) yy (by rw [HAt.out (q + 1) (by rw [List.length_cons]; omega) (by omega)]; exact hy) W
                              rwa [show ((q + 1 : Nat) : Int) = (q : Int) + 1 by omega] at this
                            have hnx := valN_step low q t yy hql hy h24
                            have hlt8 := valN_lt low (q + 1) t (by omega) HL32.out
                            have hy8 := byte_lt yy
                            obtain ⟨a, ha⟩ : ∃ a, valN low q t = a := ⟨_, rfl⟩
                            rw [hnx] at hlt8
                            rw [ha] at hnx hlt8 ⊢
                            have hwA : IntKind.u64.wrap ((a : Int) * 256) = (a : Int) * 256 := wrapI_u64 _ (by omega) (by omega)
                            have hwB : IntKind.u64.wrap ((yy.toNat : Nat) : Int) = ((yy.toNat : Nat) : Int) := wrapI_u64 _ (by omega) (by omega)
                            have hwC : IntKind.u64.wrap ((a : Int) * 256 + ((yy.toNat : Nat) : Int)) = (a : Int) * 256 + ((yy.toNat : Nat) : Int) := wrapI_u64 _ (by omega) (by omega)
                            have hcmp : ((q : Int) + 1 < (N : Int)) = True := by simp only [eq_iff_iff, iff_true]; omega
                            have HNX := Lib.hid hnx
                            clear hnx hlt8 hy8 ha hy htn h24 hzs
                            go_wp2
                            go_roundw
                            case rel => exact ⟨q + 1, by omega, by go_num, by rw [HNX.out]; simp, by first | rfl | trivial⟩
                            case measure => simp [RowKit.intOf]; omega
                          · obtain rfl : N = q + 1 := by omega
                            have hcmp : ((q : Int) + 1 < ((q + 1 : Nat) : Int)) = False := by simp only [eq_iff_iff, iff_false]; omega
                            obtain ⟨u, hu⟩ : ∃ u, valN low q t = u := ⟨_, rfl⟩
                            rw [show q + 1 - 1 = q by omega, hu] at HV
                            rw [hu]
                            have huu : ((u : Int) != (u : Int)) = false := by simp
                            clear hu hN9
                            go_wp2_with fail
                            go_quiet ((first | (go_at_call 11; exact Calls.quiet_of_same (HM.out _)) | (go_at_call 12; exact Calls.quiet_of_same (HV.out _)) | (go_at_call 13; exact Calls.quiet_of_same (HQ.out _))))
                            go_wp2
                            go_roundw
                            case rel => exact ⟨k + 1, st', c :: t, true, 0, by omega, by go_num, by rw [HZ.out], rfl, rfl, Lib.hid ⟨HN.out.1.drewN _, below_drewN HN.out.2.1 _, HN.out.2.2, HBES.out, by have := HTL.out.2.2; simp; omega⟩⟩
                            case measure => simp [RowKit.intOf]; omega
    · as_aux_lemma =>
        obtain ⟨XB, hXB1, hXB2⟩ := bigs_any v y HV0.out
        obtain ⟨XH, hXH⟩ : ∃ XH : ByteArray, (⟨(headB (m % 8).toNat v).toArray⟩ : ByteArray) = XH := ⟨_, rfl⟩
        have hP1 := fun W => put_any m v HV0.out W
        have hP2 := fun W => rhead_any m v HV0.out W
        rw [hXH] at hP1 hP2
        have P1 := Lib.hid hP1
        have P2 := Lib.hid hP2
        have Q1 := Lib.hid hXB1
        have Q2 := Lib.hid hXB2
        have hq1 : (XH.toList == XH.toList) = true := by simp
        have hq2 : (XB.toList == XB.toList) = true := by simp
        clear hP1 hP2 hXB1 hXB2 hXH HV0 HR
        go_wp2_with fail
        refine (hd_nil _).2.2.2.1.mono ?_
        rintro e w2 ⟨rfl, rfl⟩
        go_wp2_with fail
        refine (step_nil1 _).mono ?_
        rintro e w2 ⟨rfl, rfl⟩
        go_wp2_with fail
        refine (P1.out _).mono ?_
        rintro e w2 ⟨rfl, b2⟩
        have B2 := Lib.hid (HE.out.bl.trans (b2.mono HE.out.bl.size))
        clear b2
        go_wp2_with fail
        refine (P2.out _).mono ?_
        rintro e w3 ⟨rfl, b3⟩
        have B3 := Lib.hid (B2.out.trans (b3.mono B2.out.size))
        clear b3
        go_wp2_with fail
        refine (Q1.out _).mono ?_
        rintro e w4 ⟨rfl, b4⟩
        have B4 := Lib.hid (B3.out.trans (b4.mono B3.out.size))
        clear b4
        go_wp2_with fail
        refine (Q2.out _).mono ?_
        rintro e w5 ⟨rfl, b5⟩
        have B5 := Lib.hid (B4.out.trans (b5.mono B4.out.size))
        clear b5
        go_wp2_with fail
        refine (hd_nil _).1.mono ?_
        rintro e w6 ⟨rfl, rfl⟩
        go_wp2_with fail
        refine (hd_nil _).2.1.mono ?_
        rintro e w6 ⟨rfl, rfl⟩
        go_wp2_with fail
        refine (hd_nil _).2.2.1.mono ?_
        rintro e w6 ⟨rfl, rfl⟩
        go_wp2
        go_ret
        exact ⟨rfl, B5.out⟩
theorem tells_any (s : ByteArray) (A : Option Addr) (n c : Nat) (zs : List Bool) (m : Int) (v : Nat) (y : Int) (hl : zs.length = n) (w : World) (hR : Reads w w.heap.size 1 A n (zs.map Value.bool)) (hv : v < 18446744073709551616) :
    Calls Try.prog 3 #[.string s, .slice A n c, .int .i64 m, .int .u64 v, .int .i64 y] w fun e w' => e = .returned (.bool true) ∧ Below w.heap.size w w' := by
  by_cases hs : s.size ≤ 60
  · by_cases hn : n ≤ 60
    · exact tells_main s A n c zs m v y hs hl w hR hn hv
    · exact tells_long s A n c m v y (.inr hn) w
  · exact tells_long s A n c m v y (.inl hs) w
end Go.Proofs.Ytkclpolgadlbhaa
