/-
  Parts: CinNestD, Head, CinPa, BasePure, JoutPure, Jf, JoutA, JoutB, Ev, As.
-/
import Derived.Test.YtpaciekgbhoncaaGreatG0i
import Derived.Deep.RegionWith
import Derived.Test.YtpaciekgbhoncaaGreatG0h
import Derived.Test.YtpaciekgbhoncaaGreatG0b
import Derived.Test.YtpaciekgbhoncaaGreatG0a
import Derived.Deep.QuietTactic
set_option maxRecDepth 100000
set_option maxHeartbeats 16000000
open Go.Lib (hid)
namespace Go.Proofs.YtpaciekgbhoncaaGreat
section
open Go.RowKit
open Go.Lib
theorem zii {w W w3:World} {b o n:Nat} {v v3:Value} {xs ys:List Value} {ob:Obj} (h:Nst W b o v n xs) (hS:Subg (Value.owner v) b o 1 w W) (hb:b<w.heap.size)
  (hW:Win w3 250 3 v3 (n+1) (xs++ys)) (hG:(W.alloc ob).drew.grownBy w3 v.ownBlock) (hO:v3.ownBlock=v.ownBlock∨v3.ownBlock=some (W.alloc ob).drew.heap.size∧(W.alloc ob).drew.heap.size<w3.heap.size) :
  (w3.cell? ⟨b,o,none⟩=some v∧w3.frozen? ⟨b,o,none⟩=false)∧Nst (w3.setCell ⟨b,o,none⟩ v3) b o v3 (n+1) (xs++ys)∧(∀k∈Value.owner v3,k∈Value.owner v∨w.heap.size≤k)∧Subg (Value.owner v) b o 1 w (w3.setCell ⟨b,o,none⟩ v3):=by
 have hbW:b<W.heap.size:=Nat.lt_of_lt_of_le hb hS.size;have hnb:v.ownBlock≠some b:=fun e=>h.far ((zad _ _).1 e)
 have hblk:w3.heap[b]? = W.heap[b]? :=(hG.block b (by show b<(W.alloc ob).heap.size;simp;omega) (fun e=>hnb e.symm)).trans (Below.heap_alloc W ob b hbW);have hA:=h.ptr.keep hblk;have hown:∀k∈Value.owner v3,k∈Value.owner v∨W.heap.size≤k:=by
  intro k hk;rcases hO with e|⟨e,_⟩
  ·exact .inl ((zad _ _).1 (e▸(zad _ _).2 hk))
  ·have h2:=(zad _ _).2 hk
   rw[e] at h2;cases h2;exact .inr (by show W.heap.size≤(W.alloc ob).heap.size;simp)
 have hfar:b∉Value.owner v3:=fun hk=>(hown b hk).elim h.far (fun h=>by omega)
 refine⟨hA 0 _ rfl,⟨hA.set 0 (by simp) v3,hW.setCell_far hfar _,hfar⟩,fun k hk=>(hown k hk).imp id (fun h=>Nat.le_trans hS.size h),?_⟩;have h1:Subg (Value.owner v) b o 1 W w3:=by
  have h2:Subg (Value.owner v) b o 1 W (W.alloc ob).drew:=(zae (zbj ((Below.refl _ W).alloc (Nat.le_refl _) ob)) hbW _ _ _)
  exact h2.tr (zc6 hG (fun k hk=>(zad _ _).1 hk) hnb (by show b<(W.alloc ob).heap.size;simp;omega))
 exact(hS.tr h1).tr ((zac w3 o v3 (by omega)).subg _)
theorem zaih {w:World} {b o:Nat} {v:Value} {n:Nat} {xs:List Value} (h:Nst w b o v n xs) (hd:n<16) (c:Int) :
  Calls Tryz.prog 189 #[.pointer (some ⟨b,o,none⟩),.agg #[.bool false,.int .i64 c]] w fun e w'=>e= .returned (.tuple #[])∧∃v',Nst w' b o v' (n+1) (xs++[.bool false,.int .i64 (c),.int .i64 0])∧(∀k∈Value.owner v',k∈Value.owner v∨w.heap.size≤k)∧Subg (Value.owner v) b o 1 w w':=by
 have hb:=h.ptr.lt (by simp);have hbel:Below w.heap.size w ((w.alloc (.cells #[.bool false,.int .i64 c] 166)).alloc (.cells #[.bool false,.int .i64 c,.int .i64 0] 250)):=zaa (zaa (Below.refl _ _) _) _;have E2:Hid (Blk ((w.alloc (.cells #[.bool false,.int .i64 c] 166)).alloc (.cells #[.bool false,.int .i64 c,.int .i64 0] 250)) (w.heap.size+1) #[.bool false,.int .i64 (c),.int .i64 0] 250):=hid (by
  have h0:=zag (w.alloc (.cells #[.bool false,.int .i64 c] 166)) #[.bool false,.int .i64 c,.int .i64 0] 250
  rwa [show∀x,(w.alloc x).heap.size=w.heap.size+1 from fun x=>by simp] at h0)
 have hN:=h.keep hbel;have HN:=hid hN;have hS:=zae hbel hb (Value.owner v) o 1;obtain⟨a,cp,rfl,_,_⟩:=h.win.slice_form;have WD:∀x,Hid (Win ((((w.alloc (.cells #[.bool false,.int .i64 c] 166)).alloc (.cells #[.bool false,.int .i64 c,.int .i64 0] 250))).alloc x).drew 250 3 (.slice a n cp) n xs):=fun x=>hid (hN.win.alloc x)
 have h5:(((w.alloc (.cells #[.bool false,.int .i64 c] 166)).alloc (.cells #[.bool false,.int .i64 c,.int .i64 0] 250))).cell? ⟨b,o,none⟩=some (.slice a n cp):=(hN.ptr 0 _ rfl).1;have f5:∀x,((((w.alloc (.cells #[.bool false,.int .i64 c] 166)).alloc (.cells #[.bool false,.int .i64 c,.int .i64 0] 250))).alloc x).cell? ⟨b,o,none⟩=some (.slice a n cp):=fun x=>((hN.ptr.alloc (by simp) x) 0 _ rfl).1
 have h0:(((w.alloc (.cells #[.bool false,.int .i64 c] 166)).alloc (.cells #[.bool false,.int .i64 c,.int .i64 0] 250))).cell? ⟨w.heap.size+1,0,none⟩=some (.bool false):=E2.out.cell 0;have h1:(((w.alloc (.cells #[.bool false,.int .i64 c] 166)).alloc (.cells #[.bool false,.int .i64 c,.int .i64 0] 250))).cell? ⟨w.heap.size+1,1,none⟩=some (.int .i64 (c)):=E2.out.cell 1;have h2:(((w.alloc (.cells #[.bool false,.int .i64 c] 166)).alloc (.cells #[.bool false,.int .i64 c,.int .i64 0] 250))).cell? ⟨w.heap.size+1,2,none⟩=some (.int .i64 0):=E2.out.cell 2;have e0:∀x,((((w.alloc (.cells #[.bool false,.int .i64 c] 166)).alloc (.cells #[.bool false,.int .i64 c,.int .i64 0] 250))).alloc x).cell? ⟨w.heap.size+1,0,none⟩=some (.bool false):=fun x=>(E2.out.alloc x).cell 0
 have e1:∀x,((((w.alloc (.cells #[.bool false,.int .i64 c] 166)).alloc (.cells #[.bool false,.int .i64 c,.int .i64 0] 250))).alloc x).cell? ⟨w.heap.size+1,1,none⟩=some (.int .i64 (c)):=fun x=>(E2.out.alloc x).cell 1
 have e2:∀x,((((w.alloc (.cells #[.bool false,.int .i64 c] 166)).alloc (.cells #[.bool false,.int .i64 c,.int .i64 0] 250))).alloc x).cell? ⟨w.heap.size+1,2,none⟩=some (.int .i64 0):=fun x=>(E2.out.alloc x).cell 2
 have HE:=hid (fun(w3:World) (a3:Option Addr) (c3:Nat) ob hW hG hO=>zii (w:=w) (W:=((w.alloc (.cells #[.bool false,.int .i64 c] 166)).alloc (.cells #[.bool false,.int .i64 c,.int .i64 0] 250))) (w3:=w3) (v3:= .slice a3 (n+1) c3) (ys:=[.bool false,.int .i64 (c),.int .i64 0]) (ob:=ob) hN hS hb hW hG hO);clear h hbel hN hb hS E2;go_enter Tryz.func189,Tryz.ntmps189;go_wp2;generalize ((w.alloc (.cells #[.bool false,.int .i64 c] 166)).alloc (.cells #[.bool false,.int .i64 c,.int .i64 0] 250))=W at *
 go_region_law (first
  |(refine zax rfl _ _ _ rfl Tryz.underlying146 zji rfl rfl (WD _).out _ rfl 1 _ (zcl _ Tryz.underlying146 3 1 [.bool false,.int .i64 (c),.int .i64 0] 250 _ rfl (by simp[Value.oneCell']) (heap_alloc_new _ _)) (by unfold maxLen;omega) (by omega) ?_;intro v3 w3 hW3 hG3 hO3;obtain⟨a3,c3,rfl,_,_⟩:=Win.slice_form hW3.out;have HP:=hid (HE.out w3 a3 c3 _ hW3.out hG3.out hO3.out);have g0:=HP.out.1.1;have g1:=HP.out.1.2;clear hW3 hG3 hO3))
 all_goals
  go_wp2
  go_end0
  exact⟨rfl,_,HP.out.2⟩
theorem zagw {w:World} {b o:Nat} {v:Value} {n:Nat} {xs:List Value} (h:Nst w b o v n xs) (hd:n<16) :
  Calls Tryz.prog 189 #[.pointer (some ⟨b,o,none⟩),.agg #[.bool true,.int .i64 (-1)]] w fun e w'=>e= .returned (.tuple #[])∧∃v',Nst w' b o v' (n+1) (xs++[.bool true,.int .i64 (-1),.int .i64 0])∧(∀k∈Value.owner v',k∈Value.owner v∨w.heap.size≤k)∧Subg (Value.owner v) b o 1 w w':=by
 have hb:=h.ptr.lt (by simp);have hbel:Below w.heap.size w ((w.alloc (.cells #[.bool true,.int .i64 (-1)] 166)).alloc (.cells #[.bool true,.int .i64 (-1),.int .i64 0] 250)):=zaa (zaa (Below.refl _ _) _) _;have E2:Hid (Blk ((w.alloc (.cells #[.bool true,.int .i64 (-1)] 166)).alloc (.cells #[.bool true,.int .i64 (-1),.int .i64 0] 250)) (w.heap.size+1) #[.bool true,.int .i64 (-1),.int .i64 0] 250):=hid (by
  have h0:=zag (w.alloc (.cells #[.bool true,.int .i64 (-1)] 166)) #[.bool true,.int .i64 (-1),.int .i64 0] 250
  rwa [show∀x,(w.alloc x).heap.size=w.heap.size+1 from fun x=>by simp] at h0)
 have hN:=h.keep hbel;have HN:=hid hN;have hS:=zae hbel hb (Value.owner v) o 1;obtain⟨a,cp,rfl,_,_⟩:=h.win.slice_form;have WD:∀x,Hid (Win ((((w.alloc (.cells #[.bool true,.int .i64 (-1)] 166)).alloc (.cells #[.bool true,.int .i64 (-1),.int .i64 0] 250))).alloc x).drew 250 3 (.slice a n cp) n xs):=fun x=>hid (hN.win.alloc x)
 have h5:(((w.alloc (.cells #[.bool true,.int .i64 (-1)] 166)).alloc (.cells #[.bool true,.int .i64 (-1),.int .i64 0] 250))).cell? ⟨b,o,none⟩=some (.slice a n cp):=(hN.ptr 0 _ rfl).1;have f5:∀x,((((w.alloc (.cells #[.bool true,.int .i64 (-1)] 166)).alloc (.cells #[.bool true,.int .i64 (-1),.int .i64 0] 250))).alloc x).cell? ⟨b,o,none⟩=some (.slice a n cp):=fun x=>((hN.ptr.alloc (by simp) x) 0 _ rfl).1
 have h0:(((w.alloc (.cells #[.bool true,.int .i64 (-1)] 166)).alloc (.cells #[.bool true,.int .i64 (-1),.int .i64 0] 250))).cell? ⟨w.heap.size+1,0,none⟩=some (.bool true):=E2.out.cell 0;have h1:(((w.alloc (.cells #[.bool true,.int .i64 (-1)] 166)).alloc (.cells #[.bool true,.int .i64 (-1),.int .i64 0] 250))).cell? ⟨w.heap.size+1,1,none⟩=some (.int .i64 (-1)):=E2.out.cell 1;have h2:(((w.alloc (.cells #[.bool true,.int .i64 (-1)] 166)).alloc (.cells #[.bool true,.int .i64 (-1),.int .i64 0] 250))).cell? ⟨w.heap.size+1,2,none⟩=some (.int .i64 0):=E2.out.cell 2;have e0:∀x,((((w.alloc (.cells #[.bool true,.int .i64 (-1)] 166)).alloc (.cells #[.bool true,.int .i64 (-1),.int .i64 0] 250))).alloc x).cell? ⟨w.heap.size+1,0,none⟩=some (.bool true):=fun x=>(E2.out.alloc x).cell 0
 have e1:∀x,((((w.alloc (.cells #[.bool true,.int .i64 (-1)] 166)).alloc (.cells #[.bool true,.int .i64 (-1),.int .i64 0] 250))).alloc x).cell? ⟨w.heap.size+1,1,none⟩=some (.int .i64 (-1)):=fun x=>(E2.out.alloc x).cell 1
 have e2:∀x,((((w.alloc (.cells #[.bool true,.int .i64 (-1)] 166)).alloc (.cells #[.bool true,.int .i64 (-1),.int .i64 0] 250))).alloc x).cell? ⟨w.heap.size+1,2,none⟩=some (.int .i64 0):=fun x=>(E2.out.alloc x).cell 2
 have HE:=hid (fun(w3:World) (a3:Option Addr) (c3:Nat) ob hW hG hO=>zii (w:=w) (W:=((w.alloc (.cells #[.bool true,.int .i64 (-1)] 166)).alloc (.cells #[.bool true,.int .i64 (-1),.int .i64 0] 250))) (w3:=w3) (v3:= .slice a3 (n+1) c3) (ys:=[.bool true,.int .i64 (-1),.int .i64 0]) (ob:=ob) hN hS hb hW hG hO);clear h hbel hN hb hS E2;go_enter Tryz.func189,Tryz.ntmps189;go_wp2;generalize ((w.alloc (.cells #[.bool true,.int .i64 (-1)] 166)).alloc (.cells #[.bool true,.int .i64 (-1),.int .i64 0] 250))=W at *
 go_region_law (first
  |(refine zax rfl _ _ _ rfl Tryz.underlying146 zji rfl rfl (WD _).out _ rfl 1 _ (zcl _ Tryz.underlying146 3 1 [.bool true,.int .i64 (-1),.int .i64 0] 250 _ rfl (by simp[Value.oneCell']) (heap_alloc_new _ _)) (by unfold maxLen;omega) (by omega) ?_;intro v3 w3 hW3 hG3 hO3;obtain⟨a3,c3,rfl,_,_⟩:=Win.slice_form hW3.out;have HP:=hid (HE.out w3 a3 c3 _ hW3.out hG3.out hO3.out);have g0:=HP.out.1.1;have g1:=HP.out.1.2;clear hW3 hG3 hO3))
 all_goals
  go_wp2
  go_end0
  exact⟨rfl,_,HP.out.2⟩
theorem zaii {w:World} {b o:Nat} {v:Value} {n:Nat} {xs:List Value} (h:Nst w b o v n xs) (hd:n<16) {c:Int} (hc:0≤c∧c≤1000000) :
  Calls Tryz.prog 189 #[.pointer (some ⟨b,o,none⟩),.agg #[.bool true,.int .i64 c]] w fun e w'=>e= .returned (.tuple #[])∧∃v',Nst w' b o v' (n+1) (xs++[.bool true,.int .i64 (c*2),.int .i64 0])∧(∀k∈Value.owner v',k∈Value.owner v∨w.heap.size≤k)∧Subg (Value.owner v) b o 1 w w':=by
 have hb:=h.ptr.lt (by simp);have hw:wrap64 (c*2)=c*2:=by unfold wrap64;omega
 have hw2:IntKind.i64.wrap (c*2)=c*2:=by simp only[IntKind.wrap_i64];omega
 have hz:(c != -1)=true:=by rw[bne_iff_ne];omega
 have hbel:Below w.heap.size w ((w.alloc (.cells #[.bool true,.int .i64 c] 166)).alloc (.cells #[.bool true,.int .i64 (c*2),.int .i64 0] 250)):=zaa (zaa (Below.refl _ _) _) _;have E2:Hid (Blk ((w.alloc (.cells #[.bool true,.int .i64 c] 166)).alloc (.cells #[.bool true,.int .i64 (c*2),.int .i64 0] 250)) (w.heap.size+1) #[.bool true,.int .i64 (c*2),.int .i64 0] 250):=hid (by
  have h0:=zag (w.alloc (.cells #[.bool true,.int .i64 c] 166)) #[.bool true,.int .i64 (c*2),.int .i64 0] 250
  rwa [show∀x,(w.alloc x).heap.size=w.heap.size+1 from fun x=>by simp] at h0)
 have hN:=h.keep hbel;have HN:=hid hN;have hS:=zae hbel hb (Value.owner v) o 1;obtain⟨a,cp,rfl,_,_⟩:=h.win.slice_form;have WD:∀x,Hid (Win ((((w.alloc (.cells #[.bool true,.int .i64 c] 166)).alloc (.cells #[.bool true,.int .i64 (c*2),.int .i64 0] 250))).alloc x).drew 250 3 (.slice a n cp) n xs):=fun x=>hid (hN.win.alloc x)
 have h5:(((w.alloc (.cells #[.bool true,.int .i64 c] 166)).alloc (.cells #[.bool true,.int .i64 (c*2),.int .i64 0] 250))).cell? ⟨b,o,none⟩=some (.slice a n cp):=(hN.ptr 0 _ rfl).1;have f5:∀x,((((w.alloc (.cells #[.bool true,.int .i64 c] 166)).alloc (.cells #[.bool true,.int .i64 (c*2),.int .i64 0] 250))).alloc x).cell? ⟨b,o,none⟩=some (.slice a n cp):=fun x=>((hN.ptr.alloc (by simp) x) 0 _ rfl).1
 have h0:(((w.alloc (.cells #[.bool true,.int .i64 c] 166)).alloc (.cells #[.bool true,.int .i64 (c*2),.int .i64 0] 250))).cell? ⟨w.heap.size+1,0,none⟩=some (.bool true):=E2.out.cell 0;have h1:(((w.alloc (.cells #[.bool true,.int .i64 c] 166)).alloc (.cells #[.bool true,.int .i64 (c*2),.int .i64 0] 250))).cell? ⟨w.heap.size+1,1,none⟩=some (.int .i64 (c*2)):=E2.out.cell 1;have h2:(((w.alloc (.cells #[.bool true,.int .i64 c] 166)).alloc (.cells #[.bool true,.int .i64 (c*2),.int .i64 0] 250))).cell? ⟨w.heap.size+1,2,none⟩=some (.int .i64 0):=E2.out.cell 2;have e0:∀x,((((w.alloc (.cells #[.bool true,.int .i64 c] 166)).alloc (.cells #[.bool true,.int .i64 (c*2),.int .i64 0] 250))).alloc x).cell? ⟨w.heap.size+1,0,none⟩=some (.bool true):=fun x=>(E2.out.alloc x).cell 0
 have e1:∀x,((((w.alloc (.cells #[.bool true,.int .i64 c] 166)).alloc (.cells #[.bool true,.int .i64 (c*2),.int .i64 0] 250))).alloc x).cell? ⟨w.heap.size+1,1,none⟩=some (.int .i64 (c*2)):=fun x=>(E2.out.alloc x).cell 1
 have e2:∀x,((((w.alloc (.cells #[.bool true,.int .i64 c] 166)).alloc (.cells #[.bool true,.int .i64 (c*2),.int .i64 0] 250))).alloc x).cell? ⟨w.heap.size+1,2,none⟩=some (.int .i64 0):=fun x=>(E2.out.alloc x).cell 2
 have HE:=hid (fun(w3:World) (a3:Option Addr) (c3:Nat) ob hW hG hO=>zii (w:=w) (W:=((w.alloc (.cells #[.bool true,.int .i64 c] 166)).alloc (.cells #[.bool true,.int .i64 (c*2),.int .i64 0] 250))) (w3:=w3) (v3:= .slice a3 (n+1) c3) (ys:=[.bool true,.int .i64 (c*2),.int .i64 0]) (ob:=ob) hN hS hb hW hG hO);clear h hbel hN hb hS E2;go_enter Tryz.func189,Tryz.ntmps189;go_wp2;generalize ((w.alloc (.cells #[.bool true,.int .i64 c] 166)).alloc (.cells #[.bool true,.int .i64 (c*2),.int .i64 0] 250))=W at *
 go_region_law (first
  |(refine zax rfl _ _ _ rfl Tryz.underlying146 zji rfl rfl (WD _).out _ rfl 1 _ (zcl _ Tryz.underlying146 3 1 [.bool true,.int .i64 (c*2),.int .i64 0] 250 _ rfl (by simp[Value.oneCell']) (heap_alloc_new _ _)) (by unfold maxLen;omega) (by omega) ?_;intro v3 w3 hW3 hG3 hO3;obtain⟨a3,c3,rfl,_,_⟩:=Win.slice_form hW3.out;have HP:=hid (HE.out w3 a3 c3 _ hW3.out hG3.out hO3.out);have g0:=HP.out.1.1;have g1:=HP.out.1.2;clear hW3 hG3 hO3))
 all_goals
  go_wp2
  go_end0
  exact⟨rfl,_,HP.out.2⟩
theorem zak2 {c:Int} (hc:0≤c):cntB ⟨true,c,0⟩=c*2:=by unfold cntB;simp only[if_neg (Int.not_lt.2 hc),if_true];omega
theorem zald {c:Int} (hc: -1≤c):cntB ⟨false,c,0⟩=c:=by
 show(if c<0 then(-1:Int) else if false=true then 2*c else c)=c;split
 ·omega
 ·rfl
theorem zr6 {w:World} {b o:Nat} {v:Value} {s:List Bx} (h:Nst w b o v s.length (inL s)) (hd:s.length<16) (m:Bool) (c:Int) (hc: -1≤c∧c≤1000000) :
    Calls Tryz.prog 189 #[.pointer (some ⟨b,o,none⟩),.agg #[.bool m,.int .i64 c]] w fun e w'=>e= .returned (.tuple #[])∧∃v',Nst w' b o v' (s.length+1) (inL (⟨m,c,0⟩::incB s))∧(∀k∈Value.owner v',k∈Value.owner v∨w.heap.size≤k)∧Subg (Value.owner v) b o 1 w w':=by
  simp only[inL,zlt,ccB];cases m with
  | false =>
    rw[zald hc.1];exact zaih h hd c
  | true =>
    by_cases hn:c= -1
    · subst hn
      exact zagw h hd
    · rw[zak2 (by omega)]
      exact zaii h hd ⟨by omega,hc.2⟩
end
section
open Go.RowKit
open Go.Lib
theorem zbn {w:World} {b o:Nat} {s:Hd} (h:HAt w b o s) :
  Calls Tryz.prog 174 #[.pointer (some ⟨b,o,none⟩)] w fun e w'=>e= .returned (.int .i64 (majH s))∧w=w':=by
 have hc:w.cell? ⟨b,o+2,none⟩=some (.int .i64 (majH s)):=by cases s <;>exact(At.six h.2).2.2.1.1
 clear h;go_enter Tryz.func174,Tryz.ntmps174;go_wp2;go_ret;exact⟨rfl,rfl⟩
theorem zfu {w:World} {b o:Nat} {s:Hd} (h:HAt w b o s) :
  Calls Tryz.prog 183 #[.pointer (some ⟨b,o,none⟩)] w fun e w'=>e= .returned (.bool (opnH s))∧w=w':=by
 have hc:w.cell? ⟨b,o+3,none⟩=some (.bool (opnH s)):=by cases s <;>exact(At.six h.2).2.2.2.1.1
 clear h;go_enter Tryz.func183,Tryz.ntmps183;go_wp2;go_ret;exact⟨rfl,rfl⟩
end
section
open Go.RowKit
open Go.Lib
structure CP (w:World) (b o D pl:Nat) (h:Hd) (mj:Nat) (ch:Bool) (lk:Nat) (vt:Value) (t:List UInt8) (u:Option (Nat×Nat×Nat)) (vs:Value) (n:Nat) (xs:List Value):Prop where
 a:At w b o [.int .i64 0,.int .i64 D,.int .i64 pl]
 hd:HAt w b (o+3) h
 tx:At w b (o+9) [.int .i64 mj,.bool ch,.int .i64 lk,vt]
 ck:CAt w b (o+13) u
 op:Nst w b (o+17) vs n xs
 wt:Win w 5 1 vt t.length (zbe t)
 ft:b∉Value.owner vt
theorem CP.lt {w:World} {b o D pl:Nat} {h:Hd} {mj:Nat} {ch:Bool} {lk:Nat} {vt:Value} {t:List UInt8} {u:Option (Nat×Nat×Nat)} {vs:Value} {n:Nat} {xs:List Value} (c:CP w b o D pl h mj ch lk vt t u vs n xs):b<w.heap.size:=c.hd.lt
theorem CP.go {w w':World} {b o D pl:Nat} {h:Hd} {mj:Nat} {ch:Bool} {lk:Nat} {vt:Value} {t:List UInt8} {u:Option (Nat×Nat×Nat)} {vs:Value} {n:Nat} {xs:List Value} (c:CP w b o D pl h mj ch lk vt t u vs n xs) (k:Below w.heap.size w w'):CP w' b o D pl h mj ch lk vt t u vs n xs:=by
 have hk:=k.block b c.lt;exact⟨c.a.keep hk,c.hd.keep hk,c.tx.keep hk,c.ck.keep hk,c.op.keep k,c.wt.keep fun i hi=>k.block i (c.wt.lt i hi),c.ft⟩
theorem CP.apart {w:World} {b o D pl:Nat} {h:Hd} {mj:Nat} {ch:Bool} {lk:Nat} {vt:Value} {t:List UInt8} {u:Option (Nat×Nat×Nat)} {vs:Value} {n:Nat} {xs:List Value} (c:CP w b o D pl h mj ch lk vt t u vs n xs):∀k∈Value.owner vs,k∉Value.owner vt:=c.wt.apart2 c.op.win (by decide)
theorem CP.cells {w:World} {b o D pl:Nat} {h:Hd} {mj:Nat} {ch:Bool} {lk:Nat} {vt:Value} {t:List UInt8} {u:Option (Nat×Nat×Nat)} {vs:Value} {n:Nat} {xs:List Value} (c:CP w b o D pl h mj ch lk vt t u vs n xs) :
  ((w.cell? ⟨b,o,none⟩=some (.int .i64 0)∧w.frozen? ⟨b,o,none⟩=false)∧(w.cell? ⟨b,o+1,none⟩=some (.int .i64 D)∧w.frozen? ⟨b,o+1,none⟩=false)∧(w.cell? ⟨b,o+2,none⟩=some (.int .i64 pl)∧w.frozen? ⟨b,o+2,none⟩=false)) ∧
  ((w.cell? ⟨b,o+9,none⟩=some (.int .i64 mj)∧w.frozen? ⟨b,o+9,none⟩=false)∧(w.cell? ⟨b,o+9+1,none⟩=some (.bool ch)∧w.frozen? ⟨b,o+9+1,none⟩=false)∧(w.cell? ⟨b,o+9+2,none⟩=some (.int .i64 lk)∧w.frozen? ⟨b,o+9+2,none⟩=false)∧(w.cell? ⟨b,o+9+3,none⟩=some vt∧w.frozen? ⟨b,o+9+3,none⟩=false)) ∧
  (w.cell? ⟨b,o+17,none⟩=some vs∧w.frozen? ⟨b,o+17,none⟩=false) :=
 ⟨⟨c.a 0 _ rfl,c.a 1 _ rfl,c.a 2 _ rfl⟩,⟨c.tx 0 _ rfl,c.tx 1 _ rfl,c.tx 2 _ rfl,c.tx 3 _ rfl⟩,c.op.ptr 0 _ rfl⟩
theorem zafw (h:Hd):∃e p m q l v,zgx h=hd6 e p m q l v:=by
 cases h with
 | bad e=>exact⟨_,_,_,_,_,_,rfl⟩
 | new=>exact⟨_,_,_,_,_,_,rfl⟩
 | mid m n v=>exact⟨_,_,_,_,_,_,rfl⟩
 | fin m v o=>exact⟨_,_,_,_,_,_,rfl⟩
theorem zb8 {h:Hd} (hW:WfH h) {e p m:Nat} {q:Bool} {l v:Nat} (hc:zgx h=hd6 e p m q l v) (w:World) (T:TypeId):HAt (w.alloc (.cells #[.int .i64 e,.int .i64 p,.int .i64 m,.bool q,.int .i64 l,.int .u64 v] T)) w.heap.size 0 h:=by
 refine⟨hW,?_⟩;rw[hc];have hB:=zag w #[.int .i64 e,.int .i64 p,.int .i64 m,.bool q,.int .i64 l,.int .u64 v] T;intro j u hj;refine⟨?_,hB.froz _⟩;rw[hB.cell,Nat.zero_add];simpa [hd6] using hj
def brkH (h:Hd):Bool:=decide (majH h=7)&&opnH h
theorem zi8 {h:Hd} (hW:WfH h) {e p m:Nat} {q:Bool} {l v:Nat} (hc:zgx h=hd6 e p m q l v) (w:World) :
    Calls Tryz.prog 169 #[.agg #[.int .i64 e,.int .i64 p,.int .i64 m,.bool q,.int .i64 l,.int .u64 v]] w fun r w'=>r= .returned (.bool (brkH h))∧Below w.heap.size w w':=by
  have HH:=hid (zb8 hW hc w 142);unfold brkH;have HM:=hid (zbn HH.out);have HO:=hid (zfu HH.out);have hz:((majH h:Int)==7)=decide (majH h=7):=by
    rw[Bool.eq_iff_iff,beq_iff_eq,decide_eq_true_eq];omega
  generalize majH h=M at *
  generalize opnH h=O at *
  clear hW hc;cases hd:decide (M=7) with
  | false =>
    rw[hd] at hz;clear hd;go_enter Tryz.func169,Tryz.ntmps169;(go_wp2_with fail);refine HM.out.mono ?_;rintro r w1 ⟨rfl,rfl⟩;go_wp2;go_ret;exact⟨rfl,zaa (Below.refl _ _) _⟩
  | true =>
    rw[hd] at hz;clear hd;go_enter Tryz.func169,Tryz.ntmps169;(go_wp2_with fail);refine HM.out.mono ?_;rintro r w1 ⟨rfl,rfl⟩;(go_wp2_with fail);refine HO.out.mono ?_;rintro r w1 ⟨rfl,rfl⟩;go_wp2;go_ret;exact⟨by simp,zaa (Below.refl _ _) _⟩
theorem zot (m:Nat) (w:World):Calls Tryz.prog 185 #[.int .i64 (m:Int)] w fun r w'=>r= .returned (.bool (decide (2≤m∧m≤5)))∧w=w':=by
 by_cases h1:2≤m
 ·have hz1:((m:Int)≥2)=True:=by simp;omega
  by_cases h2:m≤5
  ·have hz2:((m:Int)≤5)=True:=by simp;omega
   have hd:decide (2≤m∧m≤5)=true:=by simp;omega
   rw[hd];clear h1 h2 hd;go_enter Tryz.func185,Tryz.ntmps185;go_wp2;go_ret;exact⟨rfl,rfl⟩
  ·have hz2:((m:Int)≤5)=False:=by simp;omega
   have hd:decide (2≤m∧m≤5)=false:=by simp;omega
   rw[hd];clear h1 h2 hd;go_enter Tryz.func185,Tryz.ntmps185;go_wp2;go_ret;exact⟨rfl,rfl⟩
 ·have hz1:((m:Int)≥2)=False:=by simp;omega
  have hd:decide (2≤m∧m≤5)=false:=by simp;omega
  rw[hd];clear h1 hd;go_enter Tryz.func185,Tryz.ntmps185;go_wp2;go_ret;exact⟨rfl,rfl⟩
def othE (l:Nat):Nat:=if l=22∨l=20∨l=21 then 0 else if 25≤l∧l≤27 then 6 else 8
theorem zv0 (l:Nat) (w:World):Calls Tryz.prog 187 #[.int .u8 (l:Int)] w fun r w'=>r= .returned (.int .i64 (othE l:Nat))∧w=w':=by
 by_cases h:l=20∨l=21∨l=22∨l=25∨l=26∨l=27
 ·rcases h with rfl|rfl|rfl|rfl|rfl|rfl
  all_goals
   go_enter Tryz.func187,Tryz.ntmps187;go_wp2;go_ret;exact⟨rfl,rfl⟩
 ·have hd:othE l=8:=by
   unfold othE;rw[if_neg (by omega),if_neg (by omega)]
  have z0:((l:Int)==20)=false:=by rw[beq_eq_false_iff_ne];omega
  have z1:((l:Int)==21)=false:=by rw[beq_eq_false_iff_ne];omega
  have z2:((l:Int)==22)=false:=by rw[beq_eq_false_iff_ne];omega
  have z3:((l:Int)==25)=false:=by rw[beq_eq_false_iff_ne];omega
  have z4:((l:Int)==26)=false:=by rw[beq_eq_false_iff_ne];omega
  have z5:((l:Int)==27)=false:=by rw[beq_eq_false_iff_ne];omega
  rw[hd];clear h hd;go_enter Tryz.func187,Tryz.ntmps187;go_wp2;go_ret;exact⟨rfl,rfl⟩
end
section
open Go.Lib
def sgnN (d:Nat):Nat:=if d<26 then 65+d else if d<52 then 71+d else if d<62 then d-4 else if d=62 then 45 else 95
def sgn (d:Nat):UInt8:=UInt8.ofNat (sgnN d)
def putS:List UInt8→List UInt8
 | []=>[]
 | [a]=>[sgn (a.toNat/4),sgn (a.toNat%4*16)]
 | [a,b]=>[sgn (a.toNat/4),sgn (a.toNat%4*16+b.toNat/16),sgn (b.toNat%16*4)]
 | a::b::c::r=>sgn (a.toNat/4)::sgn (a.toNat%4*16+b.toNat/16)::sgn (b.toNat%16*4+c.toNat/64)::sgn (c.toNat%64)::putS r
theorem zmp (b:UInt8):b.toNat<256:=b.toNat_lt
theorem zi2 {P:List UInt8→Prop} (h0:P []) (h1:∀a,P [a]) (h2:∀a b,P [a,b]) (h3:∀a b c r,P r→P (a::b::c::r)):∀l,P l
 | []=>h0
 | [a]=>h1 a
 | [a,b]=>h2 a b
 | a::b::c::r=>h3 a b c r (zi2 h0 h1 h2 h3 r)
theorem zh5 (l:List UInt8):(putS l).length=(4*l.length+2)/3:=by
 refine zi2 (P:=fun l=>(putS l).length=(4*l.length+2)/3) rfl (fun _=>by simp[putS]) (fun _ _=>by simp[putS]) ?_ l;intro a b c r ih;simp only[putS,List.length_cons,ih];omega
def signs64:ByteArray:=⟨#[65,66,67,68,69,70,71,72,73,74,75,76,77,78,79,80,81,82,83,84,85,86,87,88,89,90,97,98,99,100,101,102,103,104,105,106,107,108,109,110,111,112,113,114,115,116,117,118,119,120,121,122,48,49,50,51,52,53,54,55,56,57,45,95]⟩
theorem zul:∀d:Fin 64,signs64.data.toList[d.val]? = some (sgn d.val):=by decide +kernel
end
section
open Go.Lib
structure Os where
 s:List Bx
 dn:Bool
def outB (e:Ev):List UInt8:=if e.k=4 then 34::putS e.t.data.toList++[34] else outW e
def zem (o:Os) (e:Ev):(List UInt8×Nat)×Os :=
  if¬mayE e∨o.dn=true then(([],14),o)
  else if e.k=7 then
    match o.s with
    | []=>(([],14),o)
    | b::r=>if b.map=true∧b.have_%2=1 then(([],14),o) else(([if b.map=true then 125 else 93],0),⟨r,r.isEmpty⟩)
  else if keyB o.s=true∧e.k≠3 then(([],8),o)
  else if e.k=5∨e.k=6 then((sepW o.s++[if e.k=6 then 123 else 91],0),⟨⟨decide (e.k=6),e.c,0⟩::incB o.s,false⟩)
  else((sepW o.s++outB e,0),⟨incB o.s,o.s.isEmpty⟩)
theorem zzr (o:Os) (e:Ev) (h:¬mayE e∨o.dn=true):zem o e=(([],14),o):=if_pos h
theorem zzz {b:Bx} {r:List Bx} {e:Ev} (hm:mayE e) (h7:e.k=7) (h:¬(b.map=true∧b.have_%2=1)):zem ⟨b::r,false⟩ e=(([if b.map=true then 125 else 93],0),⟨r,r.isEmpty⟩):=by
 unfold zem;rw[if_neg (by simp[hm]),if_pos h7];simp only;rw[if_neg h]
theorem zyv {b:Bx} {r:List Bx} {e:Ev} (hm:mayE e) (h7:e.k=7) (h:b.map=true∧b.have_%2=1):zem ⟨b::r,false⟩ e=(([],14),⟨b::r,false⟩):=by
 unfold zem;rw[if_neg (by simp[hm]),if_pos h7];simp only;rw[if_pos h]
theorem zs7 {e:Ev} (hm:mayE e) (h7:e.k=7):zem ⟨[],false⟩ e=(([],14),⟨[],false⟩):=by
 unfold zem;rw[if_neg (by simp[hm]),if_pos h7]
theorem zz6 {s:List Bx} {e:Ev} (hm:mayE e) (h7:e.k≠7) (hk:keyB s=true) (h3:e.k≠3):zem ⟨s,false⟩ e=(([],8),⟨s,false⟩):=by
 unfold zem;rw[if_neg (by simp[hm]),if_neg h7,if_pos ⟨hk,h3⟩]
theorem ztn {s:List Bx} {e:Ev} (hm:mayE e) (h56:e.k=5∨e.k=6) (hk:keyB s=false):zem ⟨s,false⟩ e=((sepW s++[if e.k=6 then 123 else 91],0),⟨⟨decide (e.k=6),e.c,0⟩::incB s,false⟩):=by
 unfold zem;rw[if_neg (by simp[hm]),if_neg (by omega),if_neg (by simp[hk]),if_pos h56]
theorem zabb {s:List Bx} {e:Ev} (hm:mayE e) (h7:e.k≠7) (h56:¬(e.k=5∨e.k=6)) (hk:¬(keyB s=true∧e.k≠3)):zem ⟨s,false⟩ e=((sepW s++outB e,0),⟨incB s,s.isEmpty⟩):=by
 unfold zem;rw[if_neg (by simp[hm]),if_neg h7,if_neg hk,if_neg h56]
end
section
open Go.RowKit
open Go.Lib
structure Jf (b o:Nat) (F F':List Nat) (w w':World):Prop where
 step:Step (b::F) (b::F') w w'
 shape:∀(c:Array Value) (t:TypeId) (fr:Nat×Nat),w.heap[b]? = some (.cells c t fr)→∃c':Array Value,w'.heap[b]? = some (.cells c' t fr)∧c'.size=c.size
 cell:∀k,(k<o∨o+2≤k)→w'.cell? ⟨b,k,none⟩=w.cell? ⟨b,k,none⟩
theorem Jf.refl (b o:Nat) (F:List Nat) (w:World):Jf b o F F w w:=⟨Step.refl _ _,fun c _ _ h=>⟨c,h,rfl⟩,fun _ _=>rfl⟩
theorem Jf.trans {b o:Nat} {F F' F'':List Nat} {w w1 w2:World} (h:Jf b o F F' w w1) (k:Jf b o F' F'' w1 w2):Jf b o F F'' w w2 :=
 ⟨h.step.trans k.step,fun c t fr hc=>by
  obtain⟨c1,h1,s1⟩:=h.shape c t fr hc;obtain⟨c2,h2,s2⟩:=k.shape c1 t fr h1;exact⟨c2,h2,s2.trans s1⟩,fun i hi=>(k.cell i hi).trans (h.cell i hi)⟩
theorem Jf.of {b o:Nat} {F:List Nat} {w w':World} (k:Below w.heap.size w w') (hb:b<w.heap.size):Jf b o F F w w' :=
 ⟨⟨k.os,k.tape,k.output,k.size,fun i hi _=>k.block i hi,fun _ h=> .inl h⟩,fun c _ _ hc=>⟨c,(k.block b hb).trans hc,rfl⟩,fun _ _=>World.cell?_of_block (w:=w) (k.block b hb)⟩
theorem Jf.drewN {b o:Nat} {F F':List Nat} {w w':World} (h:Jf b o F F' w w') (n:Nat):Jf b o F F' w (w'.drewN n):=⟨h.step.drewN n,h.shape,h.cell⟩
theorem zafr {b o:Nat} {F:List Nat} (w:World) (k:Nat) (v:Value) (hk:o≤k∧k<o+2):Jf b o F F w (w.setCell ⟨b,k,none⟩ v) :=
 ⟨zal _ _ _ _ (by simp),(zac (b:=b) (o:=o) (n:=2) w k v hk).shape,(zac (b:=b) (o:=o) (n:=2) w k v hk).cell⟩
theorem Jf.set {b o:Nat} {F F':List Nat} {w w':World} (h:Jf b o F F' w w') (k:Nat) (v:Value) (hk:o≤k∧k<o+2):Jf b o F F' w (w'.setCell ⟨b,k,none⟩ v):=h.trans (zafr w' k v hk)
theorem Jf.up {b o:Nat} {F F':List Nat} {w w1 w2:World} (h:Jf b o F F' w w1) (hb:b<w.heap.size) (k:Below w1.heap.size w1 w2):Jf b o F F' w w2 :=
 h.trans (Jf.of k (Nat.lt_of_lt_of_le hb h.step.size))
theorem Jf.below {b o B:Nat} {F F':List Nat} {w w':World} (h:Jf b o F F' w w') (hb:B≤b) (hF:∀k∈F,B≤k) (hw:B≤w.heap.size):Below B w w' :=
 h.step.below (fun k hk=>(List.mem_cons.1 hk).elim (fun e=>e▸hb) (fun hk=>hF k hk)) hw
theorem zb6 {w:World} {b o:Nat} {v0 v1:Value} (h:At w b o [v0,v1]):(w.cell? ⟨b,o,none⟩=some v0∧w.frozen? ⟨b,o,none⟩=false)∧(w.cell? ⟨b,o+1,none⟩=some v1∧w.frozen? ⟨b,o+1,none⟩=false) :=
 ⟨h 0 v0 rfl,h 1 v1 rfl⟩
theorem zjf {w:World} {b:Nat} {c:Array Value} {t:TypeId} (h:w.heap[b]? = some (.cells c t (0,0))):At w b 0 c.toList:=fun j u hj=>by
 refine⟨?_,?_⟩
 ·unfold World.cell?
  simp only[h];simpa using hj
 ·unfold World.frozen?
  simp only[h];simp
end
section
open Go.RowKit
open Go.Lib
def plO (q:Os):Nat :=
 match q.s with
 | []=>if q.dn=true then 2 else 0
 | b::_=>if b.map=true∧b.have_%2=1 then 1 else if b.have_=0 then 0 else 2
def topM:List Bx→Bool
 | []=>false
 | x::_=>x.map
def zgl (s:List Bx):List Value:=s.reverse.map fun b=> .bool b.map
theorem zcc (s:List Bx):(zgl s).length=s.length:=by simp[zgl]
theorem zg0 (b:Bx) (r:List Bx):zgl (b::r)=zgl r++[.bool b.map]:=by simp[zgl]
theorem zjw (s:List Bx):zgl (incB s)=zgl s:=by cases s <;>simp[zgl,incB]
theorem zt7 (b:Bx) (r:List Bx):(zgl (b::r))[r.length]? = some (.bool b.map):=by
 rw[zg0,List.getElem?_append_right (by rw[zcc];omega),zcc,Nat.sub_self];rfl
def WfO:List Bx→Prop
 | []=>True
 | _::r=>∀b∈r,b.have_≠0∧¬(b.map=true∧b.have_%2=1)
theorem WfO.inc {s:List Bx} (h:WfO s):WfO (incB s):=by cases s <;>exact h
theorem WfO.tail {x:Bx} {r:List Bx} (h:WfO (x::r)):WfO r:=by
 cases r with
 | nil=>trivial
 | cons y r=>exact fun b hb=>h b (List.mem_cons_of_mem _ hb)
theorem WfO.open_ {s:List Bx} (h:WfO s) (hk:keyB s=false) (m:Bool) (c:Int):WfO (⟨m,c,0⟩::incB s):=by
  cases s with
  | nil=>simp[WfO,incB]
  | cons x r =>
    intro b hb;simp only[incB,List.mem_cons] at hb;rcases hb with rfl|hb
    · refine⟨by simp,?_⟩
      rintro ⟨h1,h2⟩;simp only at h1 h2;simp only[keyB,h1,Bool.true_and,beq_eq_false_iff_ne] at hk;omega
    · exact h b hb
structure JAt (w:World) (b o:Nat) (F:List Nat) (q:Os):Prop where
 cells:∃a cp,At w b o [.int .i64 (plO q),.slice a q.s.length cp]∧Win w 4 1 (.slice a q.s.length cp) q.s.length (zgl q.s)∧Value.owner (.slice a q.s.length cp)=F
 blk:∃cs t fr,w.heap[b]? = some (.cells cs t fr)∧t≠4
 fin:q.dn=true→q.s=[]
 wf:WfO q.s
theorem JAt.lt {w:World} {b o:Nat} {F:List Nat} {q:Os} (h:JAt w b o F q):b<w.heap.size:=by
 obtain⟨cs,t,fr,hc,_⟩:=h.blk;exact(Array.getElem?_eq_some_iff.1 hc).1
theorem JAt.row {w:World} {b o:Nat} {F:List Nat} {q:Os} (h:JAt w b o F q):∀k∈F,k<w.heap.size∧k≠b∧∃cur,w.heap[k]? = some (.cells cur 4 (0,0)):=by
 obtain⟨a,cp,_,hW,hF⟩:=h.cells;obtain⟨cs,t,fr,hc,ht⟩:=h.blk;subst hF;exact fun k hk=>⟨hW.lt k hk,fun e=>hW.apart hc (fun e'=>ht e'.symm) (e▸hk),hW.typed k hk⟩
theorem JAt.keep {w w':World} {b o:Nat} {F:List Nat} {q:Os} (h:JAt w b o F q) (hk:∀k,k=b∨k∈F→w'.heap[k]? = w.heap[k]?):JAt w' b o F q:=by
 obtain⟨a,cp,hA,hW,hF⟩:=h.cells;obtain⟨cs,t,fr,hc,ht⟩:=h.blk;exact⟨⟨a,cp,hA.keep (hk b (.inl rfl)),hW.keep (fun k ho=>hk k (.inr (hF▸ho))),hF⟩,⟨cs,t,fr,(hk b (.inl rfl)).trans hc,ht⟩,h.fin,h.wf⟩
theorem JAt.go {w w':World} {b o:Nat} {F:List Nat} {q:Os} (h:JAt w b o F q) (k:Below w.heap.size w w'):JAt w' b o F q :=
 h.keep fun i hi=>k.block i (hi.elim (fun e=>e▸h.lt) (fun hi=>(h.row i hi).1))
theorem JAt.drewN {w:World} {b o:Nat} {F:List Nat} {q:Os} (h:JAt w b o F q) (n:Nat):JAt (w.drewN n) b o F q:=h.keep fun _ _=>rfl
theorem JAt.alloc {w:World} {b o:Nat} {F:List Nat} {q:Os} (h:JAt w b o F q) (x:Obj):JAt (w.alloc x) b o F q:=h.go (zaa (Below.refl _ _) x)
theorem JAt.place {w:World} {b o:Nat} {F:List Nat} {q q':Os} (h:JAt w b o F q) (hm:zgl q'.s=zgl q.s) (hf:q'.dn=true→q'.s=[]) (hw:WfO q'.s) :
  JAt (w.setCell ⟨b,o,none⟩ (.int .i64 (plO q'))) b o F q'∧Jf b o F F w (w.setCell ⟨b,o,none⟩ (.int .i64 (plO q'))):=by
 obtain⟨a,cp,hA,hW,hF⟩:=h.cells;obtain⟨cs,t,fr,hc,ht⟩:=h.blk;have hl:q'.s.length=q.s.length:=by rw[← zcc,hm,zcc]
 have hap:b∉Value.owner (.slice a q.s.length cp):=hW.apart hc (fun e=>ht e.symm);have hset:=hA.set 0 (by simp) (.int .i64 (plO q'));refine⟨⟨⟨a,cp,?_,?_,?_⟩,⟨_,t,fr,zai w ⟨b,o,none⟩ _ _ _ _ rfl hc,ht⟩,hf,hw⟩,zafr w o _ (by omega)⟩
 ·rw[hl]
  simpa using hset
 ·rw[hl,hm]
  exact hW.setCell_far hap _
 ·rw[hl]
  exact hF
theorem zzp {w:World} {b o:Nat} {F:List Nat} {q:Os} (h:JAt w b o F q) (hs:q.s.length≤1000) :
    Calls Tryz.prog 227 #[.pointer (some ⟨b,o,none⟩)] w fun r w'=>r= .returned (.bool (topM q.s))∧w=w':=by
  obtain⟨a,cp,hA,hW,hF⟩:=h.cells;obtain⟨⟨c0,_⟩,⟨c1,_⟩⟩:=zb6 hA;obtain⟨s,dn⟩:=q;simp only at *
  cases s with
  | nil =>
    simp only[List.length_nil] at c1;clear h hA hW hF hs c0;go_enter Tryz.func227,Tryz.ntmps227;go_wp2;go_ret;exact⟨rfl,rfl⟩
  | cons x r =>
    obtain⟨g,off,c2,hv,_,_,_,_,h3⟩:=hW.form (by simp);obtain⟨y0,_⟩:=h3 r.length _ (zt7 x r)
    injection hv with hv1 hv2 hv3
    subst hv1 hv3;simp only[List.length_cons,topM] at c1 hs ⊢;obtain⟨xm,xc,xh⟩:=x;simp only at y0 ⊢;generalize r.length=n at *
    have hw:IntKind.i64.wrap ((n:Int)+1-1)=(n:Int):=by simp only[IntKind.wrap_i64];omega
    have h0:(0<(n:Int)+1)=True:=by simp
    clear h hA hW hF h3 c0 hv2;go_enter Tryz.func227,Tryz.ntmps227;go_wp2;go_ret;exact⟨rfl,rfl⟩
end
section
open Go.RowKit
open Go.Lib
theorem zahe (q:Os) (hf:q.dn=true→q.s=[]):keyB q.s=true↔(plO q≠1∧topM q.s=true):=by
  obtain⟨s,dn⟩:=q;cases s with
  | nil=>simp[keyB,topM]
  | cons b r =>
    simp only[keyB,plO,topM,Bool.and_eq_true,beq_iff_eq];constructor
    · rintro ⟨h1,h2⟩
      refine⟨?_,h1⟩;rw[if_neg (by omega)];split <;>omega
    · rintro ⟨h1,h2⟩
      refine⟨h2,?_⟩;by_cases h3:b.have_%2=1
      · rw[if_pos ⟨h2,h3⟩] at h1
        omega
      · omega
theorem zyf {w:World} {b o:Nat} {F:List Nat} {q:Os} (h:JAt w b o F q) (hs:q.s.length≤1000) :
    Calls Tryz.prog 222 #[.pointer (some ⟨b,o,none⟩)] w fun r w'=>r= .returned (.bool (keyB q.s))∧w=w':=by
  have hM0:=zzp h hs;have hk:=zahe q h.fin;obtain⟨a,cp,hA,hW,hF⟩:=h.cells;obtain⟨⟨c0,_⟩,_⟩:=zb6 hA;generalize hm:topM q.s=m at *
  have hp:plO q=0∨plO q=1∨plO q=2:=by
    unfold plO
    repeat' split
    all_goals simp
  generalize plO q=p at *
  have hkk:keyB q.s=(decide (p≠1)&&m):=by
    cases hq:keyB q.s with
    | true=>have:=hk.1 hq;simp[this.1,this.2]
    | false =>
      cases hb:(decide (p≠1)&&m) with
      | false=>rfl
      | true =>
        have:keyB q.s=true:=hk.2 (by simpa using hb);rw[hq] at this;cases this
  rw[hkk];have HM:=hid hM0;clear h hA hW hF hk hkk hm hM0;rcases hp with rfl|rfl|rfl
  all_goals
    go_enter Tryz.func222,Tryz.ntmps222
    first
    | (go_wp2_with fail
       refine HM.out.mono ?_;rintro r w1 ⟨rfl,rfl⟩;go_wp2;go_ret;exact⟨by simp,rfl⟩)
    | (go_wp2
       go_ret;exact⟨by simp,rfl⟩)
theorem zair (q:Os) (hf:q.dn=false):sepW q.s=if plO q=1 then [58] else if plO q=2 then [44] else []:=by
  obtain⟨s,dn⟩:=q;obtain rfl:dn=false:=hf;cases s with
  | nil=>simp[sepW,plO]
  | cons b r =>
    simp only[sepW];by_cases h1:b.map=true∧b.have_%2=1
    · have e:plO ⟨b::r,false⟩=1:=by
        unfold plO;simp only;rw[if_pos h1]
      rw[e,if_neg (by omega),if_pos h1];rfl
    · by_cases h0:b.have_=0
      · have e:plO ⟨b::r,false⟩=0:=by
          unfold plO;simp only;rw[if_neg h1,if_pos h0]
        rw[e,if_pos h0];rfl
      · have e:plO ⟨b::r,false⟩=2:=by
          unfold plO;simp only;rw[if_neg h1,if_neg h0]
        rw[e,if_neg h0,if_neg h1];rfl
theorem zajg {w:World} {b o:Nat} {F:List Nat} {q:Os} (h:JAt w b o F q) (hd:q.dn=false) :
  Calls Tryz.prog 224 #[.pointer (some ⟨b,o,none⟩)] w fun r w'=>r= .returned (.string ⟨(sepW q.s).toArray⟩)∧w=w':=by
 rw[zair q hd];obtain⟨a,cp,hA,hW,hF⟩:=h.cells;obtain⟨⟨c0,_⟩,_⟩:=zb6 hA;have hp:plO q=0∨plO q=1∨plO q=2:=by
  unfold plO
  repeat' split
  all_goals simp
 generalize plO q=p at *
 clear h hA hW hF;rcases hp with rfl|rfl|rfl
 all_goals
  go_enter Tryz.func224,Tryz.ntmps224;go_wp2;go_ret;exact⟨rfl,rfl⟩
theorem zalg {w:World} {b o:Nat} {F:List Nat} {q:Os} (h:JAt w b o F q) :
    Calls Tryz.prog 217 #[.pointer (some ⟨b,o,none⟩)] w fun r w'=>r= .returned (.bool q.dn)∧w=w':=by
  obtain⟨a,cp,hA,hW,hF⟩:=h.cells;obtain⟨⟨c0,_⟩,⟨c1,_⟩⟩:=zb6 hA;have hf:=h.fin;obtain⟨s,dn⟩:=q;simp only at *
  clear h hA hW hF;cases s with
  | nil =>
    simp only[List.length_nil,plO] at c0 c1;cases dn with
    | true =>
      simp only[if_true] at c0;go_enter Tryz.func217,Tryz.ntmps217;go_wp2
      all_goals go_ret
      all_goals exact⟨rfl,rfl⟩
    | false =>
      simp only[Bool.false_eq_true,if_false] at c0;go_enter Tryz.func217,Tryz.ntmps217;go_wp2
      all_goals go_ret
      all_goals exact⟨rfl,rfl⟩
  | cons x r =>
    have hdn:dn=false:=by
      cases dn with
      | false=>rfl
      | true=>simp at hf
    subst hdn;simp only[List.length_cons] at c1;generalize plO _=p at *
    generalize r.length=n at *
    have hz:((n:Int)+1==0)=false:=by rw[beq_eq_false_iff_ne];omega
    go_enter Tryz.func217,Tryz.ntmps217;go_wp2
    all_goals go_ret
    all_goals exact⟨rfl,rfl⟩
theorem zke:(Tryz.prog.info? 4).map (fun i=>(i.zero,i.size,i.bytes))=some (some (.bool false),1,1):=by kernel_rfl
theorem zajv {w:World} {b o:Nat} {F:List Nat} {q:Os} (h:JAt w b o F q) (_hd:q.dn=false) (hs:q.s.length≤1000) (hk:keyB q.s=false) (m:Bool) (c:Int) :
    Calls Tryz.prog 225 #[.pointer (some ⟨b,o,none⟩),.bool m] w fun r w'=>r= .returned (.string ⟨#[if m=true then 123 else 91]⟩)∧∃F',JAt w' b o F' ⟨⟨m,c,0⟩::incB q.s,false⟩∧Jf b o F F' w w':=by
  obtain⟨a,cp,hA,hW,hF⟩:=h.cells;obtain⟨⟨c0,f0⟩,⟨c1,f1⟩⟩:=zb6 hA;have HH:=hid h;have HA:=hid hA;have HF:=hid hF;obtain⟨n,hn⟩:∃n,q.s.length=n:=⟨_,rfl⟩
  rw [hn] at c1 hW hs;have Hn:=hid hn;have HW:=hid hW;have hfin:∀(v3:Value) (w3:World),Hid (Win w3 4 1 v3 (n+1) (zgl q.s++[.bool m]))→Hid ((w.alloc (.cells #[.bool m] 4)).grownBy w3 (Value.slice a n cp).ownBlock) →
      Hid (v3.ownBlock=(Value.slice a n cp).ownBlock∨v3.ownBlock=some (w.heap.size+1)∧w.heap.size+1<w3.heap.size) →
      ∃a3 c3,v3= .slice a3 (n+1) c3∧((∃u,w3.cell? ⟨b,o,none⟩=some u∧w3.frozen? ⟨b,o,none⟩=false)∧(∃u,w3.cell? ⟨b,o+1,none⟩=some u)∧w3.frozen? ⟨b,o+1,none⟩=false) ∧
      Hid (∃F',JAt ((w3.setCell ⟨b,o+1,none⟩ (.slice a3 (n+1) c3)).setCell ⟨b,o,none⟩ (.int .i64 0)) b o F' ⟨⟨m,c,0⟩::incB q.s,false⟩∧Jf b o F F' w ((w3.setCell ⟨b,o+1,none⟩ (.slice a3 (n+1) c3)).setCell ⟨b,o,none⟩ (.int .i64 0))):=by
    intro v3 w3 hW3 hG3 hO3;obtain⟨a3,c3,rfl,_,_⟩:=Win.slice_form hW3.out;obtain⟨cs,t,fr,hc,ht⟩:=HH.out.blk;have hbl:=HH.out.lt;have hap:b∉Value.owner (.slice a n cp):=HW.out.apart hc (fun e=>ht e.symm);have hblk:w3.heap[b]? = w.heap[b]? :=(hG3.out.block b (by simp;omega) (fun e=>hap ((zad _ _).1 e.symm))).trans (Below.heap_alloc w _ b hbl);have A3:=HA.out.keep hblk;obtain⟨⟨p0,g0⟩,⟨p1,g1⟩⟩:=zb6 A3;have hw3:w3.heap[b]? = some (.cells cs t fr):=hblk.trans hc;have hap3:b∉Value.owner (.slice a3 (n+1) c3):=hW3.out.apart hw3 (fun e=>ht e.symm);refine⟨a3,c3,rfl,⟨⟨_,p0,g0⟩,⟨_,p1⟩,g1⟩,hid ⟨Value.owner (.slice a3 (n+1) c3),?_,?_⟩⟩
    · have hset:=(A3.set 1 (by simp) (.slice a3 (n+1) c3)).set 0 (by simp) (.int .i64 0)
      have hl:((⟨m,c,0⟩:Bx)::incB q.s).length=n+1:=by rw[← Hn.out,List.length_cons];cases q.s <;>rfl
      refine⟨⟨a3,c3,?_,?_,?_⟩,⟨_,t,fr,zai _ ⟨b,o,none⟩ _ _ _ _ rfl (zai w3 ⟨b,o+1,none⟩ _ _ _ _ rfl hw3),ht⟩,fun e=>(by cases e),HH.out.wf.open_ hk m c⟩
      · simp only[hl]
        have hpl:plO ⟨⟨m,c,0⟩::incB q.s,false⟩=0:=by simp[plO]
        rw[hpl];simpa using hset
      · simp only[hl]
        rw[zg0,zjw];exact(hW3.out.setCell_far hap3 _).setCell_far hap3 _
      · simp only[hl]
    · have hstep:Step (b::F) (b::Value.owner (.slice a3 (n+1) c3)) w w3:=by
        refine⟨hG3.out.os,hG3.out.tape,hG3.out.output,Nat.le_trans (by simp) hG3.out.size,fun k hk hkF=> ?_,fun k hk=> ?_⟩
        · refine(hG3.out.block k (by simp;omega) (fun e=>hkF ?_)).trans (Below.heap_alloc w _ k hk)
          refine List.mem_cons_of_mem _ ?_;rw[← HF.out,Hn.out];exact(zad _ _).1 e.symm
        · rcases List.mem_cons.1 hk with rfl|hk
          · exact .inl (by simp)
          · rcases hO3.out with e|⟨e,_⟩
            · left
              refine List.mem_cons_of_mem _ ?_;rw[← HF.out,Hn.out];exact(zad _ _).1 (e▸(zad _ _).2 hk)
            · right
              have:=(zad _ _).2 hk;rw[e] at this;cases this;omega
      have hj:Jf b o F (Value.owner (.slice a3 (n+1) c3)) w w3:=⟨hstep,fun c1 t1 fr1 h1=>⟨c1,hblk.trans h1,rfl⟩,fun k _=>World.cell?_of_block (w:=w) hblk⟩
      exact(hj.set (o+1) _ (by omega)).set o _ (by omega)
  have FIN:=hid hfin;clear h hA hF hn hfin hW hk;cases m with
  | false =>
    go_enter Tryz.func225,Tryz.ntmps225
    go_wp2_with (at_builtin;refine zaj rfl _ _ _ rfl Tryz.underlying101 zke rfl rfl (HW.out.alloc _) _ rfl 1 [.bool false] (zfp _ Tryz.underlying101 _ _ _ rfl rfl) ?e1 ?e2 ?_)
    case e1=>unfold maxLen;omega
    case e2=>omega
    intro v3 w3 hW3 hG3 hO3;obtain⟨a3,c3,rfl,⟨⟨u0,p0,g0⟩,⟨u1,p1⟩,g1⟩,HFI⟩:=FIN.out v3 w3 hW3 hG3 (hid (by simpa using hO3.out));clear hW3 hG3 hO3;go_wp2;go_ret;exact⟨rfl,HFI.out⟩
  | true =>
    go_enter Tryz.func225,Tryz.ntmps225
    go_wp2_with (at_builtin;refine zaj rfl _ _ _ rfl Tryz.underlying101 zke rfl rfl (HW.out.alloc _) _ rfl 1 [.bool true] (zfp _ Tryz.underlying101 _ _ _ rfl rfl) ?e1 ?e2 ?_)
    case e1=>unfold maxLen;omega
    case e2=>omega
    intro v3 w3 hW3 hG3 hO3;obtain⟨a3,c3,rfl,⟨⟨u0,p0,g0⟩,⟨u1,p1⟩,g1⟩,HFI⟩:=FIN.out v3 w3 hW3 hG3 (hid (by simpa using hO3.out));clear hW3 hG3 hO3;go_wp2;go_ret;exact⟨rfl,HFI.out⟩
theorem zajj {x:Bx} {r:List Bx} (h:WfO (x::r)):plO ⟨r,r.isEmpty⟩=2:=by
  cases r with
  | nil=>rfl
  | cons y r =>
    obtain⟨h1,h2⟩:=h y (by simp);simp only[plO];rw[if_neg h2,if_neg h1]
theorem zajz {w:World} {b o:Nat} {F:List Nat} {x:Bx} {r:List Bx} {a':Option Addr} {c':Nat} (h:JAt w b o F ⟨x::r,false⟩) (hW:Win w 4 1 (.slice a' r.length c') r.length (zgl r)) (hO:Value.owner (.slice a' r.length c')=F) :
  JAt ((w.setCell ⟨b,o+1,none⟩ (.slice a' r.length c')).setCell ⟨b,o,none⟩ (.int .i64 2)) b o F ⟨r,r.isEmpty⟩∧Jf b o F F w ((w.setCell ⟨b,o+1,none⟩ (.slice a' r.length c')).setCell ⟨b,o,none⟩ (.int .i64 2)):=by
 obtain⟨a,cp,hA,_,_⟩:=h.cells;obtain⟨cs,t,fr,hc,ht⟩:=h.blk;have hap:b∉Value.owner (.slice a' r.length c'):=hW.apart hc (fun e=>ht e.symm);have hset:=(hA.set 1 (by simp) (.slice a' r.length c')).set 0 (by simp) (.int .i64 2);refine⟨⟨⟨a',c',?_,(hW.setCell_far hap _).setCell_far hap _,hO⟩,⟨_,t,fr,zai _ ⟨b,o,none⟩ _ _ _ _ rfl (zai w ⟨b,o+1,none⟩ _ _ _ _ rfl hc),ht⟩,fun e=> ?_,h.wf.tail⟩,((Jf.refl b o F w).set (o+1) _ (by omega)).set o _ (by omega)⟩
 ·have hp:=zajj h.wf
  simp only at hp ⊢;rw[hp];simpa using hset
 ·simpa using e
theorem endO {w:World} {b o:Nat} {F:List Nat} {x:Bx} {r:List Bx} (h:JAt w b o F ⟨x::r,false⟩) (hs:r.length≤999) :
    Calls Tryz.prog 223 #[.pointer (some ⟨b,o,none⟩)] w fun q w'=>q= .returned (.string ⟨#[if x.map=true then 125 else 93]⟩)∧JAt w' b o F ⟨r,r.isEmpty⟩∧Jf b o F F w w':=by
  have HM:=hid (zzp h (by simpa using hs));simp only[topM] at HM;have HJ:=hid h;have hfin:∃a cp,(w.drew.cell? ⟨b,o+1,none⟩=some (.slice a (r.length+1) cp)∧w.drew.frozen? ⟨b,o+1,none⟩=false∧(∃u,w.drew.cell? ⟨b,o,none⟩=some u)∧w.drew.frozen? ⟨b,o,none⟩=false) ∧
      ∃ a' c',(∀W,(Instr.slice 101 (.slice a (r.length+1) cp) none (some (.int .i64 (r.length:Int))) none).run Tryz.prog W= .ok (.slice a' r.length c') W) ∧
        ∀W,W=((w.setCell ⟨b,o+1,none⟩ (.slice a' r.length c')).setCell ⟨b,o,none⟩ (.int .i64 2)).drew→JAt W b o F ⟨r,r.isEmpty⟩∧Jf b o F F w W:=by
    obtain⟨a,cp,hA,hW,hF⟩:=h.cells;obtain⟨⟨c0,f0⟩,⟨c1,f1⟩⟩:=zb6 hA;obtain⟨v',hsl,hw',ho'⟩:=hW.hi (P:=Tryz.prog) (t:=101) Tryz.underlying101 (fun w=>by kernel_rfl) r.length (by simp);simp only at hw' hsl;rw[Nat.mul_one,zg0,← zcc,List.take_left,zcc] at hw';obtain⟨a',c',rfl,_,_⟩:=hw'.slice_form;refine⟨a,cp,⟨c1,f1,⟨_,c0⟩,f0⟩,a',c',hsl,fun W e=> ?_⟩;subst e;have hk:=zajz h hw' (ho'.trans hF);exact⟨hk.1.drewN 1,hk.2.drewN 1⟩
  have HFI:=hid hfin;obtain⟨xm,xc,xh⟩:=x;simp only at *
  have hl:IntKind.i64.wrap (r.length:Int)=(r.length:Int):=by simp only[IntKind.wrap_i64];omega
  generalize r.length=n' at *
  clear h hfin;cases xm with
  | false =>
    go_enter Tryz.func223,Tryz.ntmps223;(go_wp2_with fail);refine HM.out.mono ?_;rintro e w1 ⟨rfl,rfl⟩;obtain⟨a,cp,⟨x1,x2,⟨u,x3⟩,x4⟩,a',c',hsl,hE⟩:=HFI.out;have y1:w.cell? ⟨b,o+1,none⟩=some (.slice a (n'+1) cp):=x1;have y2:w.frozen? ⟨b,o+1,none⟩=false:=x2;have y3:w.cell? ⟨b,o,none⟩=some u:=x3;have y4:w.frozen? ⟨b,o,none⟩=false:=x4;have HE:=hid hE;clear hE;(go_wp2_with fail);refine za4 12 (by kernel_rfl) (by kernel_rfl) ?_;simp only[List.take_succ_cons,List.take_zero,List.drop_succ_cons,List.drop_zero]
    repeat still_step
    refine wpStill_nil ?_;go_wp2;go_ret;exact⟨rfl,HE.out _ rfl⟩
  | true =>
    go_enter Tryz.func223,Tryz.ntmps223;(go_wp2_with fail);refine HM.out.mono ?_;rintro e w1 ⟨rfl,rfl⟩;obtain⟨a,cp,⟨x1,x2,⟨u,x3⟩,x4⟩,a',c',hsl,hE⟩:=HFI.out;have y1:w.cell? ⟨b,o+1,none⟩=some (.slice a (n'+1) cp):=x1;have y2:w.frozen? ⟨b,o+1,none⟩=false:=x2;have y3:w.cell? ⟨b,o,none⟩=some u:=x3;have y4:w.frozen? ⟨b,o,none⟩=false:=x4;have HE:=hid hE;clear hE;(go_wp2_with fail);refine za4 12 (by kernel_rfl) (by kernel_rfl) ?_;simp only[List.take_succ_cons,List.take_zero,List.drop_succ_cons,List.drop_zero]
    repeat still_step
    refine wpStill_nil ?_;go_wp2;go_ret;exact⟨rfl,HE.out _ rfl⟩
end
section
open Go.RowKit
open Go.Lib
theorem zop (b:Bool) (c:Int) (w:World):Calls Tryz.prog 74 #[.agg #[.bool b,.int .i64 c]] w fun r w'=>r= .returned (.tuple #[if -1≤c then evV ⟨if b then 6 else 5,false,0,⟨#[]⟩,c⟩ else evV evZ,.bool (decide (-1≤c))])∧Below w.heap.size w w':=by
 by_cases h: -1≤c
 ·have h1:(-1≤c)=True:=by simp[h]
  cases b
  all_goals
   go_enter Tryz.func74,Tryz.ntmps74;go_wp2
   all_goals simp[bodyPost,results,Tryz.results74,go_sem,evV]
   all_goals exact((Below.refl _ _).alloc (Nat.le_refl _) _).alloc (by simp) _
 ·have h1:(-1≤c)=False:=by simp;omega
  go_enter Tryz.func74,Tryz.ntmps74;go_wp2
  all_goals simp[bodyPost,results,Tryz.results74,go_sem,evV,evZ]
  all_goals exact((Below.refl _ _).alloc (Nat.le_refl _) _).alloc (by simp) _
theorem zfo (b:Bool) (c:Int) (w:World):Calls Tryz.prog 71 #[.iface 166 (.agg #[.bool b,.int .i64 c])] w fun r w'=>r= .returned (.tuple #[if -1≤c then evV ⟨if b then 6 else 5,false,0,⟨#[]⟩,c⟩ else evV evZ,.bool (decide (-1≤c))])∧Below w.heap.size w w':=by
 have n0:=zpu;have n1:=zwc;have a1:=zjn;have a2:=ze7;have a3:=zfq;have a4:=zik;have a5:=zf5;have a6:=zl4;have b1:=fun d h=>zf3 d h
 have b2:=fun d h=>zbv d h
 have b3:=fun d h=>zb4 d h
 have b4:=fun d h=>zf2 d h
 have b5:=fun d h=>zcx d h
 obtain⟨X,hX⟩:∃X:Ev,X=if -1≤c then⟨if b then 6 else 5,false,0,⟨#[]⟩,c⟩ else evZ:=⟨_,rfl⟩
 have hV:(if -1≤c then evV ⟨if b then 6 else 5,false,0,⟨#[]⟩,c⟩ else evV evZ)=evV X:=by rw[hX];split <;>rfl
 have hP:∀w,Calls Tryz.prog 74 #[.agg #[.bool b,.int .i64 c]] w fun r w'=>r= .returned (.tuple #[evV X,.bool (decide (-1≤c))])∧Below w.heap.size w w':=fun w=>by
  have:=zop b c w;rw[hV] at this;exact this
 rw[hV];clear hX hV;generalize decide (-1≤c)=D at *
 obtain⟨k,y,m,t,c'⟩:=X;have HP:=hid hP;clear hP;go_enter Tryz.func71,Tryz.ntmps71;(go_wp2_with fail);refine(HP.out _).mono ?_;rintro e w1 ⟨rfl,hb⟩;obtain⟨⟨z0,z1,z2,z3,z4⟩,⟨y0,y1,y2,y3,y4⟩⟩:=((((zag w _ _).alloc _).alloc _).go hb).ev;have h1:=hid hb;clear hb;simp only[evV];go_wp2;simp[bodyPost,results,Tryz.results71,go_sem,z0,z1,z2,z3,z4];refine⟨rfl,zx8 ?_ _ _ _ _ _⟩;exact zab (zaa (zaa (zaa (Below.refl _ _) _) _) _) h1.out
theorem zabf (e:Ev) (he:mayE e) (w:World):Calls Tryz.prog 71 #[valE e] w fun r w'=>r= .returned (.tuple #[evV (zfi e),.bool true])∧Below w.heap.size w w':=by
 have n0:=zpu;have n1:=zwc;have a1:=zjn;have a2:=ze7;have a3:=zfq;have a4:=zik;have a5:=zf5;have a6:=zl4;have b1:=fun d h=>zf3 d h
 have b2:=fun d h=>zbv d h
 have b3:=fun d h=>zb4 d h
 have b4:=fun d h=>zf2 d h
 have b5:=fun d h=>zcx d h
 obtain⟨k,y,m,t,c⟩:=e;have hk:k=5∨k=6∨k=0∨k=1∨k=2∨k=3∨k=4∨k=7:=by
  have h1:0≤k:=he.1;have h2:k≤7:=he.2.1;omega
 have hc:k=5∨k=6→ -1≤c:=he.2.2;clear he;rcases hk with rfl|rfl|hk
 ·have h:=zfo false c w
  rw[if_pos (hc (by decide)),decide_eq_true (hc (by decide))] at h;exact h
 ·have h:=zfo true c w
  rw[if_pos (hc (by decide)),decide_eq_true (hc (by decide))] at h;exact h
 clear hc;rcases hk with rfl|rfl|rfl|rfl|rfl|rfl
 all_goals simp only[valE,zfi]
 all_goals
  go_enter Tryz.func71,Tryz.ntmps71;go_wp2
 all_goals try simp[bodyPost,results,Tryz.results71,go_sem,evV]
 all_goals repeat (first | exact Below.refl _ _|assumption|refine zaa ?_ _)
theorem zadm (v:Value) (X:Ev) (D:Bool) (hP:∀w,Calls Tryz.prog 71 #[v] w fun r w'=>r= .returned (.tuple #[evV X,.bool D])∧Below w.heap.size w w') (w:World) :
  Calls Tryz.prog 67 #[v] w fun r w'=>r= .returned (.tuple #[evV X,.bool D])∧Below w.heap.size w w':=by
 obtain⟨k,y,m,t,c'⟩:=X;have HP:=hid hP;clear hP;go_enter Tryz.func67,Tryz.ntmps67;(go_wp2_with fail);refine(HP.out _).mono ?_;rintro e w1 ⟨rfl,hb⟩;obtain⟨⟨z0,z1,z2,z3,z4⟩,⟨y0,y1,y2,y3,y4⟩⟩:=((zag w _ _).go hb).ev;have h1:=hid hb;clear hb;simp only[evV];go_wp2;simp[bodyPost,results,Tryz.results67,go_sem,z0,z1,z2,z3,z4];refine⟨rfl,zx8 ?_ _ _ _ _ _⟩;exact zab (zaa (Below.refl _ _) _) h1.out
theorem zgf (e:Ev) (he:mayE e) (w:World):Calls Tryz.prog 67 #[valE e] w fun r w'=>r= .returned (.tuple #[evV (zfi e),.bool true])∧Below w.heap.size w w' :=
 zadm _ _ _ (zabf e he) w
end
section
open Go.RowKit
open Go.Lib
theorem zm6 {e:Ev} (hm:mayE e):e.k=0∨e.k=1∨e.k=2∨e.k=3∨e.k=4∨e.k=5∨e.k=6∨e.k=7:=by
 have h1:=hm.1;have h2:=hm.2.1;omega
theorem zct (e:Ev) (hm:mayE e) (W:World):(Instr.typeAssert (valE e) 20 169 true).run Tryz.prog W= .ok (.tuple #[.agg #[],.bool (decide (e.k=7))]) W:=by
 obtain⟨k,y,m,t,c⟩:=e;rcases zm6 hm with h|h|h|h|h|h|h|h <;>(simp only at h;subst h)
 ·kernel_rfl
 ·exact zd4 _ (by decide) _ _
 ·exact zd4 _ (by decide) _ _
 ·exact zd4 _ (by decide) _ _
 ·exact zd4 _ (by decide) _ _
 ·exact zd4 _ (by decide) _ _
 ·exact zd4 _ (by decide) _ _
 ·exact zl4 _ _
theorem zom (e:Ev) (hm:mayE e) (W:World):(Instr.typeAssert (valE e) 20 179 true).run Tryz.prog W= .ok (.tuple #[.string (if e.k=3 then e.t else⟨#[]⟩),.bool (decide (e.k=3))]) W:=by
 obtain⟨k,y,m,t,c⟩:=e;rcases zm6 hm with h|h|h|h|h|h|h|h <;>(simp only at h;subst h)
 ·kernel_rfl
 ·exact zb4 _ (by decide) _ _
 ·exact zb4 _ (by decide) _ _
 ·exact zfq _ _
 ·exact zb4 _ (by decide) _ _
 ·exact zb4 _ (by decide) _ _
 ·exact zb4 _ (by decide) _ _
 ·exact zb4 _ (by decide) _ _
theorem zdi (e:Ev) (hm:mayE e) (W:World):(Instr.typeAssert (valE e) 20 166 true).run Tryz.prog W= .ok (.tuple #[.agg #[.bool (decide (e.k=6)),.int .i64 (if e.k=5∨e.k=6 then e.c else 0)],.bool (decide (e.k=5∨e.k=6))]) W:=by
 obtain⟨k,y,m,t,c⟩:=e;rcases zm6 hm with h|h|h|h|h|h|h|h <;>(simp only at h;subst h)
 ·kernel_rfl
 ·exact zcx _ (by decide) _ _
 ·exact zcx _ (by decide) _ _
 ·exact zcx _ (by decide) _ _
 ·exact zcx _ (by decide) _ _
 ·exact zf5 _ _
 ·exact zf5 _ _
 ·exact zcx _ (by decide) _ _
end
end Go.Proofs.YtpaciekgbhoncaaGreat
