/-
  THE HELPERS' BOOK OF LISTS OF INTS, PART 2: the kinds of which it holds none; stillInts, markedInts.
-/
import Derived.Test.YtpmbpcinfakckaaDoorBookA
import Derived.BigQuiet
namespace Go.Proofs.YtpmbpcinfakckaaDoor
open Go.RowKit
open Go.Lib
theorem stillTexts_none (w : World) (b : Nat) (hc : w.cell? ⟨b, 0, none⟩ = some (.slice none 0 0)) :
    Calls Tryd.prog 28 #[.pointer (some ⟨b, 0, none⟩)] w fun e w' => e = .returned (.bool true) ∧ w = w' := by
  go_enter Tryd.func28, Tryd.ntmps28
  go_wp2
  refine wp_loop_rounds 1 ?_
  rw [rounds_succ]
  go_wp2
  go_ret
  exact ⟨rfl, rfl⟩
theorem putTexts_none (w : World) (b : Nat) (hc : w.cell? ⟨b, 0, none⟩ = some (.slice none 0 0)) :
    Calls Tryd.prog 31 #[.pointer (some ⟨b, 0, none⟩)] w fun e w' => e = .returned (.tuple #[]) ∧ w = w' := by
  go_enter Tryd.func31, Tryd.ntmps31
  go_wp2
  refine wp_loop_rounds 1 ?_
  rw [rounds_succ]
  go_wp2
  refine bodyPost_end (results_none rfl _ _ _) rfl ?_
  exact ⟨rfl, rfl⟩
theorem growTexts_none (w : World) (b : Nat) (hc : w.cell? ⟨b, 0, none⟩ = some (.slice none 0 0)) :
    Calls Tryd.prog 34 #[.pointer (some ⟨b, 0, none⟩)] w fun e w' => e = .returned (.slice none 0 0) ∧ w = w' := by
  go_enter Tryd.func34, Tryd.ntmps34
  go_wp2
  refine wp_loop_rounds 1 ?_
  rw [rounds_succ]
  go_wp2
  go_ret
  exact ⟨rfl, rfl⟩
theorem markedTexts_none (w : World)  :
    Calls Tryd.prog 37 #[.slice none 0 0] w fun e w' => e = .returned (.bool true) ∧ w = w' := by
  go_enter Tryd.func37, Tryd.ntmps37
  go_wp2
  refine wp_loop_rounds 1 ?_
  rw [rounds_succ]
  go_wp2
  go_ret
  exact ⟨rfl, rfl⟩
theorem stillEvs_none (w : World) (b : Nat) (hc : w.cell? ⟨b, 4, none⟩ = some (.slice none 0 0)) :
    Calls Tryd.prog 30 #[.pointer (some ⟨b, 0, none⟩)] w fun e w' => e = .returned (.bool true) ∧ w = w' := by
  go_enter Tryd.func30, Tryd.ntmps30
  go_wp2
  refine wp_loop_rounds 1 ?_
  rw [rounds_succ]
  go_wp2
  go_ret
  exact ⟨rfl, rfl⟩
theorem putEvs_none (w : World) (b : Nat) (hc : w.cell? ⟨b, 4, none⟩ = some (.slice none 0 0)) :
    Calls Tryd.prog 33 #[.pointer (some ⟨b, 0, none⟩)] w fun e w' => e = .returned (.tuple #[]) ∧ w = w' := by
  go_enter Tryd.func33, Tryd.ntmps33
  go_wp2
  refine wp_loop_rounds 1 ?_
  rw [rounds_succ]
  go_wp2
  refine bodyPost_end (results_none rfl _ _ _) rfl ?_
  exact ⟨rfl, rfl⟩
theorem growEvs_none (w : World) (b : Nat) (hc : w.cell? ⟨b, 4, none⟩ = some (.slice none 0 0)) :
    Calls Tryd.prog 36 #[.pointer (some ⟨b, 0, none⟩)] w fun e w' => e = .returned (.slice none 0 0) ∧ w = w' := by
  go_enter Tryd.func36, Tryd.ntmps36
  go_wp2
  refine wp_loop_rounds 1 ?_
  rw [rounds_succ]
  go_wp2
  go_ret
  exact ⟨rfl, rfl⟩
theorem markedEvs_none (w : World)  :
    Calls Tryd.prog 39 #[.slice none 0 0] w fun e w' => e = .returned (.bool true) ∧ w = w' := by
  go_enter Tryd.func39, Tryd.ntmps39
  go_wp2
  refine wp_loop_rounds 1 ?_
  rw [rounds_succ]
  go_wp2
  go_ret
  exact ⟨rfl, rfl⟩
theorem IWin.heap {w W : World} {v : Value} {xs : List Int} (h : IWin w v xs) (e : W.heap = w.heap) : IWin W v xs := Win.keep h fun k _ => by rw [e]
/-- Each of these slices shows its list. -/
def Fam (w : World) (vs : List Value) (xss : List (List Int)) : Prop := vs.length = xss.length ∧ ∀ (i : Nat) (v : Value) (xs : List Int), vs[i]? = some v → xss[i]? = some xs → IWin w v xs
theorem Fam.at_ {w : World} {vs : List Value} {xss : List (List Int)} (h : Fam w vs xss) (i : Nat) (hi : i < vs.length) : ∃ v xs, vs[i]? = some v ∧ xss[i]? = some xs ∧ IWin w v xs := by
  have h1 : vs[i]? = some vs[i] := List.getElem?_eq_getElem hi
  have hi2 : i < xss.length := by have := h.1; omega
  have h2 : xss[i]? = some xss[i] := List.getElem?_eq_getElem hi2
  exact ⟨_, _, h1, h2, h.2 i _ _ h1 h2⟩
theorem Fam.new {w w' : World} {vs : List Value} {xss : List (List Int)} (h : Fam w vs xss) (hb : Below w.heap.size w w') : Fam w' vs xss := ⟨h.1, fun i v xs h1 h2 => (h.2 i v xs h1 h2).new hb⟩
theorem Fam.heap {w W : World} {vs : List Value} {xss : List (List Int)} (h : Fam w vs xss) (e : W.heap = w.heap) : Fam W vs xss := ⟨h.1, fun i v xs h1 h2 => (h.2 i v xs h1 h2).heap e⟩
/-- A slice of such slices. -/
def LWin (w : World) (v : Value) (vs : List Value) : Prop := Win w 39 1 v vs.length vs
theorem LWin.new {w w' : World} {v : Value} {vs : List Value} (h : LWin w v vs) (hb : Below w.heap.size w w') : LWin w' v vs := Win.keep h fun k hk => hb.block k (Win.lt h k hk)
theorem LWin.at_ {w : World} {v : Value} {vs : List Value} (h : LWin w v vs) (i : Nat) (hi : i < vs.length) : ∃ g off cap, v = .slice (some ⟨g, off, none⟩) vs.length cap ∧ g < w.heap.size ∧ Value.owner v = [g] ∧ ∀ j u, vs[j]? = some u → w.cell? ⟨g, off + j, none⟩ = some u := by
  obtain ⟨g, off, cap, e, _, _, hl, ho, h2⟩ := Win.form h (by omega)
  exact ⟨g, off, cap, e, hl, ho, fun j u hu => (h2 j u hu).1⟩
set_option maxHeartbeats 1000000 in
/-- stillInts: each list is what its copy is. -/
theorem still_any {w : World} {b : Nat} {vi wi : Value} {vs ws : List Value} {xss : List (List Int)} (h2 : w.cell? ⟨b, 2, none⟩ = some vi) (h3 : w.cell? ⟨b, 3, none⟩ = some wi) (hv : LWin w vi vs) (hw : LWin w wi ws) (hl : ws.length = vs.length)
    (fv : Fam w vs xss) (fw : Fam w ws xss) (hn : ∀ xs ∈ xss, xs.length ≤ 1000000) (hm : vs.length ≤ 1000) :
    Calls Tryd.prog 29 #[.pointer (some ⟨b, 0, none⟩)] w fun e w' => e = .returned (.bool true) ∧ ∃ q, w' = w.drewN q := by
  have HV := Lib.hid hv
  have HW := Lib.hid hw
  have FV := Lib.hid fv
  have FW := Lib.hid fw
  have HN := Lib.hid hn
  obtain ⟨a, c, rfl, _, _⟩ := Win.slice_form hv
  obtain ⟨a', c', rfl, _, _⟩ := Win.slice_form hw
  clear hv hw fv fw hn
  go_enter Tryd.func29, Tryd.ntmps29
  go_wp2
  go_loopw [3] (fun i wr => ∃ k : Nat, k ≤ vs.length ∧ i = .int .i64 k ∧ Hid (∃ q, wr = w.drewN q)) (fun i _ => vs.length - (RowKit.intOf i).toNat)
  case atStart => exact ⟨0, Nat.zero_le _, rfl, Lib.hid ⟨0, rfl⟩⟩
  case round =>
    obtain ⟨k, hk, rfl, HQ⟩ := hrel
    have hh : wr.heap = w.heap := by
      obtain ⟨q, e⟩ := HQ.out
      rw [e]
      rfl
    have hce : ∀ p, wr.cell? p = w.cell? p := fun p => by
      obtain ⟨q, e⟩ := HQ.out
      rw [e]
      rfl
    have h2' := (hce ⟨b, 2, none⟩).trans h2
    have h3' := (hce ⟨b, 3, none⟩).trans h3
    clear h2 h3
    by_cases hlt : k < vs.length
    · obtain ⟨v, xs, e1, e2, iw⟩ := FV.out.at_ k hlt
      obtain ⟨u, xs', e3, e4, iw'⟩ := FW.out.at_ k (by omega)
      obtain rfl : xs' = xs := Option.some.inj (e4.symm.trans e2)
      obtain ⟨g, off, cap, f1, _, _, hc⟩ := HV.out.at_ k hlt
      obtain ⟨g', off', cap', f2, _, _, hc'⟩ := HW.out.at_ k (by omega)
      injection f1 with f1 _ f1'
      injection f2 with f2 _ f2'
      subst f1; subst f2; subst f1'; subst f2'
      have d1 := (hce _).trans (hc k _ e1)
      have d2 := (hce _).trans (hc' k _ e3)
      have hxl := HN.out xs' (List.mem_of_getElem? e2)
      have HS := Lib.hid (fun r => same_wins (w := wr.drewN r) (iw.heap hh) (iw'.heap hh) hxl)
      have hll : ws.length = vs.length := hl
      clear hc hc' e1 e2 e3 e4 iw iw' HV HW FV FW HN hl hh hce
      go_wp2
      go_quiet ((first | (go_at_call 20; exact Calls.quiet_of (HS.out _))))
      have HQ2 : Hid (∃ q, wr.drewN nq = w.drewN q) := by
        obtain ⟨q, e⟩ := HQ.out
        exact Lib.hid ⟨q + nq, by rw [e]; simp only [World.drewN]; rw [Nat.add_assoc]⟩
      clear HQ
      go_wp2
      go_roundw
      case rel => exact ⟨k + 1, by omega, by go_num, HQ2⟩
      case measure => simp [RowKit.intOf]; omega
    · clear hce hh
      go_wp2
      go_ret
      exact ⟨rfl, HQ.out⟩
theorem mark0 (i n : Nat) (hi : i ≤ 1000) (hn : n ≤ 100000) (w : World) :
    Calls Tryd.prog 45 #[.int .i64 i, .int .i64 0, .int .i64 n] w fun e w' => ∃ v, e = .returned v ∧ IWin w' v (marks i 0 n) ∧ Fresh w w' v := mark_any i 0 n hi (by omega) hn w
/-- What of a value that lies in a list is known ahead of the walk. -/
theorem marks_wins {w : World} {i n : Nat} {v u : Value} {xs : List Int} (h : IWin w v xs) (hx : xs = marks i 0 n) (k : IWin w u (marks i 0 n)) (hn : n ≤ 100000) :
    Calls Tryd.prog 20 #[v, u] w fun e w' => e = .returned (.bool true) ∧ ∃ q, w' = w.drewN q := by
  subst hx
  exact same_wins h k (by rw [marks_length]; omega)
set_option maxHeartbeats 1000000 in
/-- markedInts: each list is its marks. -/
theorem marked_any {w : World} {l : Value} {vs : List Value} (ns : List Nat) (hv : LWin w l vs) (hl : ns.length = vs.length) (fv : Fam w vs (ns.zipIdx.map fun p => marks p.2 0 p.1)) (hn : ∀ n ∈ ns, n ≤ 100000) (hm : vs.length ≤ 1000) :
    Calls Tryd.prog 38 #[l] w fun e w' => e = .returned (.bool true) ∧ Below w.heap.size w w' := by
  have HV := Lib.hid hv
  have FV := Lib.hid fv
  have HN := Lib.hid hn
  obtain ⟨a, c, rfl, _, _⟩ := Win.slice_form hv
  clear hv fv hn
  go_enter Tryd.func38, Tryd.ntmps38
  go_wp2
  go_loopw [3] (fun i wr => ∃ k : Nat, k ≤ vs.length ∧ i = .int .i64 k ∧ Hid (Below w.heap.size w wr)) (fun i _ => vs.length - (RowKit.intOf i).toNat)
  case atStart => exact ⟨0, Nat.zero_le _, rfl, Lib.hid (Below.refl _ _)⟩
  case round =>
    obtain ⟨k, hk, rfl, HB⟩ := hrel
    by_cases hlt : k < vs.length
    · obtain ⟨v, xs, e1, e2, iw⟩ := (FV.out.new HB.out).at_ k hlt
      obtain ⟨g, off, cap, f1, hgl, _, hc⟩ := (HV.out.new HB.out).at_ k hlt
      injection f1 with f1 _ f1'
      subst f1; subst f1'
      have d1 := hc k _ e1
      obtain ⟨n, hnk, hxs⟩ : ∃ n, n ∈ ns ∧ xs = marks k 0 n := by
        rw [List.getElem?_map, List.getElem?_zipIdx] at e2
        cases hq : ns[k]? with
        | none => rw [hq] at e2; cases e2
        | some n =>
          rw [hq] at e2
          simp at e2
          exact ⟨n, List.mem_of_getElem? hq, e2.symm⟩
      have hnb := HN.out n hnk
      have hxl : xs.length = n := by rw [hxs, marks_length]
      have IW := Lib.hid iw
      have HX := Lib.hid hxs
      obtain ⟨va, vc, rfl, _, _⟩ := Win.slice_form iw
      rw [hxl] at d1 IW
      have HM := Lib.hid (mark0 k n (by omega) hnb)
      have IWd : Hid (IWin wr.drew (.slice va n vc) xs) := IW
      clear hc e1 e2 iw HV FV HN hnk hxs
      go_wp2
      go_region_with (first
        | (go_at_call 45; (with_reducible refine (HM.out _).mono ?_); rintro e v1 ⟨u, rfl, iu, fu⟩; have dd1 : v1.cell? ⟨g, off + k, none⟩ = _ := (fu.1.cell (p := ⟨g, off + k, none⟩) hgl).trans d1; have HSm := Lib.hid (marks_wins (IWin.new IWd.out fu.1) HX.out iu hnb); obtain ⟨ua, uc, rfl, _, _⟩ := Win.slice_form iu; clear iu)
        | (go_at_call 20; (refine HSm.out.mono ?_); rintro e v2 ⟨rfl, q, rfl⟩))
      all_goals
        have HB2 : Hid (Below w.heap.size w (v1.drewN q)) := Lib.hid (below_drewN (HB.out.drew.trans (fu.1.mono HB.out.size)) q)
        clear HSm dd1 fu HB
        go_wp2
        go_roundw
        case rel => exact ⟨k + 1, by omega, by go_num, HB2⟩
        case measure => simp [RowKit.intOf]; omega
    · go_wp2
      go_ret
      exact ⟨rfl, HB.out⟩
end Go.Proofs.YtpmbpcinfakckaaDoor
