/-
  Parts: RefPr, RefPs, PipOw, RefPlen, RefPwh, RefPout, PipOwB, PipLh.
-/
import Derived.Test.YtpaciekgbhoncaaGreatG0l
import Derived.Test.YtpaciekgbhoncaaGreatJa
import Derived.Test.YtpaciekgbhoncaaGreatJb
import Derived.Deep.RegionWith
import Derived.Deep.QuietTactic
import Derived.StillTail
import Derived.Deep.RegionLaw
import Derived.Test.YtpaciekgbhoncaaGreatHHeadRh
import Derived.Test.YtpaciekgbhoncaaGreatG0c
import Derived.Test.YtpaciekgbhoncaaGreatG2c
set_option maxRecDepth 100000
set_option maxHeartbeats 16000000
open Go.Lib (hid)
namespace Go.Proofs.YtpaciekgbhoncaaGreat
section
open Go.RowKit
open Go.Lib
structure WmAt (M B:Nat) (w:World) (b:Nat) (s:List Bx) (dn:Bool):Prop where
 cells:∃a cp,At w b 0 [.int .i64 3,.slice a s.length cp,.bool dn]∧Stk M 0 w s (.slice a s.length cp)
 blk:∃cs,w.heap[b]? = some (.cells cs 47 (0,0))
 low:B≤w.heap.size
theorem WmAt.lt {M B:Nat} {w:World} {b:Nat} {s:List Bx} {dn:Bool} (h:WmAt M B w b s dn):b<w.heap.size:=by
 obtain⟨cs,hc⟩:=h.blk;exact(Array.getElem?_eq_some_iff.1 hc).1
theorem WmAt.go {M B:Nat} {w w':World} {b:Nat} {s:List Bx} {dn:Bool} (h:WmAt M B w b s dn) (k:Below w.heap.size w w'):WmAt M B w' b s dn:=by
 have hk:=k.block b h.lt;obtain⟨a,cp,h1,h2⟩:=h.cells;obtain⟨cs,hc⟩:=h.blk;exact⟨⟨a,cp,h1.keep hk,h2.go k⟩,⟨cs,hk.trans hc⟩,Nat.le_trans h.low k.size⟩
theorem WmAt.fin {M B:Nat} {w:World} {b:Nat} {s:List Bx} {dn:Bool} (h:WmAt M B w b s dn) (q:Bool):WmAt M B (w.setCell ⟨b,2,none⟩ (.bool q)) b s q∧Bew B b w (w.setCell ⟨b,2,none⟩ (.bool q)):=by
 obtain⟨a,cp,h1,h2⟩:=h.cells;obtain⟨cs,hc⟩:=h.blk;have hap:b∉Value.owner (.slice a s.length cp):=h2.win.apart (t:=47) hc (by decide);have hset:=h1.set 2 (by simp) (.bool q);refine⟨⟨⟨a,cp,by simpa using hset,⟨h2.win.setCell_far hap _,h2.vB,h2.ok,h2.deep,h2.most⟩⟩,⟨_,zai w ⟨b,2,none⟩ _ _ _ _ rfl hc⟩,by simpa [World.setCell] using h.low⟩,(Below.refl B w).bew.set _ _⟩
end
section
open Go.RowKit
open Go.Lib
theorem zaoa {M B b:Nat} {w:World} (h:WmAt M B w b [] false) (e:Ev) (hk:e.k=0∨e.k=1∨e.k=2∨e.k=3∨e.k=4) (X:ByteArray) (hX:X.size≤100000)
  (hP:∀W,Calls Tryz.prog 35 #[.int .i64 3,evV e] W fun r w'=>r= .returned (.tuple #[.string X,.int .i64 0])∧Below W.heap.size W w') :
  Calls Tryz.prog 21 #[.pointer (some ⟨b,0,none⟩),evV e] w fun q w'=>q= .returned (.tuple #[.string X,.int .i64 0])∧WmAt M B w' b [] true∧Bew B b w w':=by
 obtain⟨a,cp,hA,hS⟩:=h.cells;have hBw:B≤w.heap.size:=h.low;have HM:Hid (∀X,Calls Tryz.prog 32 #[evV e] (w.alloc X) fun r w'=>r= .returned (.bool true)∧Below (w.alloc X).heap.size (w.alloc X) w'):=hid fun X=>by
  have:=zamn e (w.alloc X)
  rwa [decide_eq_true (show mayE e from⟨by omega,by omega,by omega⟩)] at this
 have HP:=hid hP;obtain⟨k,y,m,t,c⟩:=e;simp only[evV] at HM HP hk ⊢;have n7:(k==7)=false:=by rw[beq_eq_false_iff_ne];omega
 have n5:(k==5)=false:=by rw[beq_eq_false_iff_ne];omega
 have n6:(k==6)=false:=by rw[beq_eq_false_iff_ne];omega
 have HH:=hid h;have HS:=hid hS;have HA:=hid hA;have hA0:=(hA.alloc (by simp) (.cells #[.int .i64 k,.bool y,.int .u64 m,.string t,.int .i64 c] 43))
 obtain⟨⟨k0,_⟩,⟨k1,_⟩,⟨k2,_⟩⟩:=zalp hA0;simp only[List.length_nil] at k1 HA HS;clear h hA hS hA0 hP hk;go_enter Tryz.func21,Tryz.ntmps21;(go_wp2_with fail);refine(HM.out _).mono ?_;rintro e w1 ⟨rfl,hb1⟩;have E1:=hid ((zag w _ _).go hb1);obtain⟨⟨e0,e1,e2,e3,e4⟩,ef⟩:=E1.out.ev;have hbw1:=zab (zaa (Below.refl w.heap.size w) (.cells #[.int .i64 k,.bool y,.int .u64 m,.string t,.int .i64 c] 43)) hb1;have A1:=hid (HA.out.keep (hbw1.block b HH.out.lt));have HB1:=hid hbw1;clear hb1 ef k0 k1 k2 hbw1;obtain⟨⟨k0,q0⟩,⟨k1,q1⟩,⟨k2,q2⟩⟩:=zalp A1.out;go_wp2
 go_region_with (go_at_call 35;refine(HP.out _).mono ?_;rintro r w2 ⟨rfl,hb2⟩)
 all_goals
  have hW1:=HH.out.go HB1.out;have hb2':Below w1.heap.size w1 w2:=⟨hb2.os,hb2.tape,hb2.output,hb2.size,hb2.block⟩
  have A2:=A1.out.keep (hb2'.block b hW1.lt);have HW2:=hid (hW1.go hb2');have HBB:=hid (zab HB1.out hb2');have HA2:=hid A2;obtain⟨⟨p0,r0⟩,⟨p1,r1⟩,⟨p2,r2⟩⟩:=zalp A2;have hcat:(⟨#[]⟩:ByteArray)++X=X:=by apply ByteArray.ext;simp
  have HC:=hid hcat;have hE2:w2.cell? ⟨w.heap.size,0,none⟩=some (.int .i64 k):=(World.cell?_of_block (w:=w1) (a:=⟨w.heap.size,0,none⟩) (hb2'.block _ E1.out.lt)).trans e0;have hne:w.heap.size≠b:=by have:=HH.out.lt;omega
  have hE3:(w2.setCell ⟨b,2,none⟩ (.bool true)).cell? ⟨w.heap.size,0,none⟩=some (.int .i64 k):=by
   rw[World.cell?_setCell_other _ _ _ _ (fun e=>hne (congrArg Addr.block e).symm)];exact hE2
  clear A2 hb2 hb2' hW1 hcat e0 e1 e2 e3 e4 k0 k1 k2 q0 q1 q2 hE2;go_wp2;go_ret2;refine⟨by rw[HC.out];rfl,(HW2.out.fin true).1,?_⟩;exact(HBB.out.mono hBw).bew.trans (HW2.out.fin true).2
end
section
open Go.RowKit
open Go.Lib
theorem zamb (m:Bool) (l:List UInt8):(zby m l).k=3∨(zby m l).k=4:=by cases m <;>simp[zby]
theorem zans (m:Bool) (l:List UInt8):(zby m l).t.size=l.length:=zbd l
theorem zanw {t:Int} (ht:fmtP t) (m:Bool) (l:List UInt8) (hl:l.length≤1000):(oneT t (zby m l)).length≤100000:=by
 have hk:=zamb m l;have hz:=zans m l;rcases ht with rfl|rfl|rfl
 ·exact ziv (zby m l) (by omega) (by simp[zby]) (by omega)
 ·obtain⟨q,hq⟩:=zamc (t:=2) (fun _ _=>[]) m l
  have h:=zu7 ⟨[],false⟩ (zby m l) (by omega);have:(zb0 ⟨[],false⟩ (zby m l)).1.1=oneT 2 (zby m l):=congrArg (fun x=>x.1.1) hq;rw[this] at h;omega
 ·obtain⟨q,hq⟩:=zamc (t:=3) (fun _ _=>[]) m l
  have h:=zow ⟨[],false⟩ (zby m l) (by omega);have:(zbp ⟨[],false⟩ (zby m l)).1.1=oneT 3 (zby m l):=congrArg (fun x=>x.1.1) hq;rw[this] at h;omega
theorem zao1 {t:Int} (ht:fmtP t) (m:Bool) (l:List UInt8) (hl:l.length≤1000) (hp:∀W,Calls Tryz.prog 35 #[.int .i64 t,evV (zby m l)] W fun r w'=>r= .returned (.tuple #[.string ⟨(oneT t (zby m l)).toArray⟩,.int .i64 0])∧Below W.heap.size W w') (w:World) {n:Nat} (hn:w.heap.size=n) :
  Calls Tryz.prog 21 #[.pointer (some ⟨n,0,none⟩),evV (zby m l)] (w.alloc (.cells #[.int .i64 t,.slice none 0 0,.bool false] 47)) fun q w' =>
   q= .returned (.tuple #[.string ⟨(oneT t (zby m l)).toArray⟩,.int .i64 0])∧Below w.heap.size w w':=by
 subst hn;have hk:=zamb m l;have hX:(⟨(oneT t (zby m l)).toArray⟩:ByteArray).size≤100000:=by rw[zbd];exact zanw ht m l hl
 have hb:Below w.heap.size w (w.alloc (.cells #[.int .i64 t,.slice none 0 0,.bool false] 47)):=zaa (Below.refl _ _) _;have hlow:w.heap.size≤(w.alloc (.cells #[.int .i64 t,.slice none 0 0,.bool false] 47)).heap.size:=hb.size;rcases ht with rfl|rfl|rfl
 ·refine(zaob (M:=0) (B:=w.heap.size) ⟨⟨none,0,zmj (heap_alloc_new w _),⟨Win.nil_ _ _ _,fun k hk=>by simp[Value.owner] at hk,fun b hb=>by simp at hb,by simp,by omega⟩⟩,⟨_,heap_alloc_new w _⟩,hlow⟩ (zby m l) (by omega) _ hX hp).mono ?_
  rintro q w' ⟨h1,_,h3⟩;exact⟨h1,hb.trans (h3.below (Nat.le_refl _) (Nat.le_refl _))⟩
 ·refine(zan9 (M:=0) (B:=w.heap.size) ⟨⟨none,0,zmj (heap_alloc_new w _),⟨Win.nil_ _ _ _,fun k hk=>by simp[Value.owner] at hk,fun b hb=>by simp at hb,by simp,by omega⟩⟩,⟨_,heap_alloc_new w _⟩,hlow⟩ (zby m l) (by omega) _ hX hp).mono ?_
  rintro q w' ⟨h1,_,h3⟩;exact⟨h1,hb.trans (h3.below (Nat.le_refl _) (Nat.le_refl _))⟩
 ·refine(zaoa (M:=0) (B:=w.heap.size) ⟨⟨none,0,zmj (heap_alloc_new w _),⟨Win.nil_ _ _ _,fun k hk=>by simp[Value.owner] at hk,fun b hb=>by simp at hb,by simp,by omega⟩⟩,⟨_,heap_alloc_new w _⟩,hlow⟩ (zby m l) (by omega) _ hX hp).mono ?_
  rintro q w' ⟨h1,_,h3⟩;exact⟨h1,hb.trans (h3.below (Nat.le_refl _) (Nat.le_refl _))⟩
end
section
open Go.RowKit
open Go.Lib
theorem zao2 (one two four v:Nat) (h1:one<256) (_:two<256) (_:four<256) (hv:v<18446744073709551616) (h0:0<one) (hK:v<256) (w:World) :
  Calls Tryz.prog 34 #[.int .u64 v,.int .u8 one,.int .u8 two,.int .u8 four] w fun e w'=>e= .returned (.string ⟨(zjs one two four v).toArray⟩)∧Below w.heap.size w w':=by
 have hc:(one:Int)=(((UInt8.ofNat one).toNat:Nat):Int):=by simp;omega
 have hcv:=fun W=>zalu W (UInt8.ofNat one) (one:Int) hc
 have hcd:=zalr w (UInt8.ofNat one) (one:Int) hc;have HO:=hid (fun(W W2:World) hb=>zalw (w:=W) (w2:=W2) (UInt8.ofNat one) (one:Int) hc hb);have HB:=hid (fun W=>zaly v 1 1 rfl hv (by omega) (by omega) _ rfl W);have e:(⟨(zjs one two four v).toArray⟩:ByteArray)=(⟨#[UInt8.ofNat one]⟩:ByteArray)++⟨(bigB 1 v).toArray⟩:=by
  rw[show(⟨#[UInt8.ofNat one]⟩:ByteArray)=⟨[UInt8.ofNat one].toArray⟩ from rfl,zn8];unfold zjs;rw[if_pos ⟨by omega,hK⟩];rfl
 rw[e];have s2:(⟨(bigB 1 v).toArray⟩:ByteArray).size=1:=by rw[zo6,zbo]
 have s1:(⟨#[UInt8.ofNat one]⟩:ByteArray).size=1:=rfl;generalize (⟨#[UInt8.ofNat one]⟩:ByteArray)=X at *
 generalize (⟨(bigB 1 v).toArray⟩:ByteArray)=Y at *
 have hsum:(9223372036854775807<X.size+Y.size)=False:=by simp only[eq_iff_iff,iff_false];omega
 have z0:(0<(one:Int))=True:=by simp only[eq_iff_iff,iff_true];omega
 have z1:((v:Int)<256)=True:=by simp only[eq_iff_iff,iff_true];omega
 clear e hc;go_enter Tryz.func34,Tryz.ntmps34;(go_wp2_with fail)
 go_region_with ((go_at_call 47);(with_reducible refine(HB.out _).mono ?_);(rintro e w1 ⟨rfl,b1⟩);(first |(have hcx:=HO.out w w1 b1)|skip))
 all_goals
  go_wp2;go_ret;refine⟨rfl,?_⟩
  first
   | exact zal9 b1
   | exact zama _ b1
theorem zan1 (one two four v:Nat) (_:one<256) (h2:two<256) (_:four<256) (hv:v<18446744073709551616) (h0:one=0) (hK:v<65536) (w:World) :
  Calls Tryz.prog 34 #[.int .u64 v,.int .u8 one,.int .u8 two,.int .u8 four] w fun e w'=>e= .returned (.string ⟨(zjs one two four v).toArray⟩)∧Below w.heap.size w w':=by
 have hc:(two:Int)=(((UInt8.ofNat two).toNat:Nat):Int):=by simp;omega
 have hcv:=fun W=>zalu W (UInt8.ofNat two) (two:Int) hc
 have hcd:=zalr w (UInt8.ofNat two) (two:Int) hc;have HO:=hid (fun(W W2:World) hb=>zalw (w:=W) (w2:=W2) (UInt8.ofNat two) (two:Int) hc hb);have HB:=hid (fun W=>zaly v 2 2 rfl hv (by omega) (by omega) _ rfl W);have e:(⟨(zjs one two four v).toArray⟩:ByteArray)=(⟨#[UInt8.ofNat two]⟩:ByteArray)++⟨(bigB 2 v).toArray⟩:=by
  rw[show(⟨#[UInt8.ofNat two]⟩:ByteArray)=⟨[UInt8.ofNat two].toArray⟩ from rfl,zn8];unfold zjs;rw[if_neg (by omega),if_pos hK];rfl
 rw[e];have s2:(⟨(bigB 2 v).toArray⟩:ByteArray).size=2:=by rw[zo6,zbo]
 have s1:(⟨#[UInt8.ofNat two]⟩:ByteArray).size=1:=rfl;generalize (⟨#[UInt8.ofNat two]⟩:ByteArray)=X at *
 generalize (⟨(bigB 2 v).toArray⟩:ByteArray)=Y at *
 have hsum:(9223372036854775807<X.size+Y.size)=False:=by simp only[eq_iff_iff,iff_false];omega
 have z0:(0<(one:Int))=False:=by simp only[eq_iff_iff,iff_false];omega
 have z2:((v:Int)<65536)=True:=by simp only[eq_iff_iff,iff_true];omega
 clear e hc;go_enter Tryz.func34,Tryz.ntmps34;(go_wp2_with fail)
 go_region_with ((go_at_call 47);(with_reducible refine(HB.out _).mono ?_);(rintro e w1 ⟨rfl,b1⟩);(first |(have hcx:=HO.out w w1 b1)|skip))
 all_goals
  go_wp2;go_ret;refine⟨rfl,?_⟩
  first
   | exact zal9 b1
   | exact zama _ b1
theorem zan2 (one two four v:Nat) (h1:one<256) (h2:two<256) (_:four<256) (hv:v<18446744073709551616) (h0:0<one) (hK:256≤v∧v<65536) (w:World) :
  Calls Tryz.prog 34 #[.int .u64 v,.int .u8 one,.int .u8 two,.int .u8 four] w fun e w'=>e= .returned (.string ⟨(zjs one two four v).toArray⟩)∧Below w.heap.size w w':=by
 have hc:(two:Int)=(((UInt8.ofNat two).toNat:Nat):Int):=by simp;omega
 have hcv:=fun W=>zalu W (UInt8.ofNat two) (two:Int) hc
 have hcd:=zalr w (UInt8.ofNat two) (two:Int) hc;have HO:=hid (fun(W W2:World) hb=>zalw (w:=W) (w2:=W2) (UInt8.ofNat two) (two:Int) hc hb);have HB:=hid (fun W=>zaly v 2 2 rfl hv (by omega) (by omega) _ rfl W);have e:(⟨(zjs one two four v).toArray⟩:ByteArray)=(⟨#[UInt8.ofNat two]⟩:ByteArray)++⟨(bigB 2 v).toArray⟩:=by
  rw[show(⟨#[UInt8.ofNat two]⟩:ByteArray)=⟨[UInt8.ofNat two].toArray⟩ from rfl,zn8];unfold zjs;rw[if_neg (by omega),if_pos hK.2];rfl
 rw[e];have s2:(⟨(bigB 2 v).toArray⟩:ByteArray).size=2:=by rw[zo6,zbo]
 have s1:(⟨#[UInt8.ofNat two]⟩:ByteArray).size=1:=rfl;generalize (⟨#[UInt8.ofNat two]⟩:ByteArray)=X at *
 generalize (⟨(bigB 2 v).toArray⟩:ByteArray)=Y at *
 have hsum:(9223372036854775807<X.size+Y.size)=False:=by simp only[eq_iff_iff,iff_false];omega
 have z0:(0<(one:Int))=True:=by simp only[eq_iff_iff,iff_true];omega
 have z1:((v:Int)<256)=False:=by simp only[eq_iff_iff,iff_false];omega
 have z2:((v:Int)<65536)=True:=by simp only[eq_iff_iff,iff_true];omega
 clear e hc;go_enter Tryz.func34,Tryz.ntmps34;(go_wp2_with fail)
 go_region_with ((go_at_call 47);(with_reducible refine(HB.out _).mono ?_);(rintro e w1 ⟨rfl,b1⟩);(first |(have hcx:=HO.out w w1 b1)|skip))
 all_goals
  go_wp2;go_ret;refine⟨rfl,?_⟩
  first
   | exact zal9 b1
   | exact zama _ b1
theorem zan3 (one two four v:Nat) (_:one<256) (_:two<256) (h4:four<256) (hv:v<18446744073709551616) (h0:one=0) (hK:65536≤v) (w:World) :
  Calls Tryz.prog 34 #[.int .u64 v,.int .u8 one,.int .u8 two,.int .u8 four] w fun e w'=>e= .returned (.string ⟨(zjs one two four v).toArray⟩)∧Below w.heap.size w w':=by
 have hc:(four:Int)=(((UInt8.ofNat four).toNat:Nat):Int):=by simp;omega
 have hcv:=fun W=>zalu W (UInt8.ofNat four) (four:Int) hc
 have hcd:=zalr w (UInt8.ofNat four) (four:Int) hc;have HO:=hid (fun(W W2:World) hb=>zalw (w:=W) (w2:=W2) (UInt8.ofNat four) (four:Int) hc hb);have HB:=hid (fun W=>zaly v 4 4 rfl hv (by omega) (by omega) _ rfl W);have e:(⟨(zjs one two four v).toArray⟩:ByteArray)=(⟨#[UInt8.ofNat four]⟩:ByteArray)++⟨(bigB 4 v).toArray⟩:=by
  rw[show(⟨#[UInt8.ofNat four]⟩:ByteArray)=⟨[UInt8.ofNat four].toArray⟩ from rfl,zn8];unfold zjs;rw[if_neg (by omega),if_neg (by omega)];rfl
 rw[e];have s2:(⟨(bigB 4 v).toArray⟩:ByteArray).size=4:=by rw[zo6,zbo]
 have s1:(⟨#[UInt8.ofNat four]⟩:ByteArray).size=1:=rfl;generalize (⟨#[UInt8.ofNat four]⟩:ByteArray)=X at *
 generalize (⟨(bigB 4 v).toArray⟩:ByteArray)=Y at *
 have hsum:(9223372036854775807<X.size+Y.size)=False:=by simp only[eq_iff_iff,iff_false];omega
 have z0:(0<(one:Int))=False:=by simp only[eq_iff_iff,iff_false];omega
 have z2:((v:Int)<65536)=False:=by simp only[eq_iff_iff,iff_false];omega
 clear e hc;go_enter Tryz.func34,Tryz.ntmps34;(go_wp2_with fail)
 go_region_with ((go_at_call 47);(with_reducible refine(HB.out _).mono ?_);(rintro e w1 ⟨rfl,b1⟩);(first |(have hcx:=HO.out w w1 b1)|skip))
 all_goals
  go_wp2;go_ret;refine⟨rfl,?_⟩
  first
   | exact zal9 b1
   | exact zama _ b1
theorem zan4 (one two four v:Nat) (h1:one<256) (_:two<256) (h4:four<256) (hv:v<18446744073709551616) (h0:0<one) (hK:65536≤v) (w:World) :
  Calls Tryz.prog 34 #[.int .u64 v,.int .u8 one,.int .u8 two,.int .u8 four] w fun e w'=>e= .returned (.string ⟨(zjs one two four v).toArray⟩)∧Below w.heap.size w w':=by
 have hc:(four:Int)=(((UInt8.ofNat four).toNat:Nat):Int):=by simp;omega
 have hcv:=fun W=>zalu W (UInt8.ofNat four) (four:Int) hc
 have hcd:=zalr w (UInt8.ofNat four) (four:Int) hc;have HO:=hid (fun(W W2:World) hb=>zalw (w:=W) (w2:=W2) (UInt8.ofNat four) (four:Int) hc hb);have HB:=hid (fun W=>zaly v 4 4 rfl hv (by omega) (by omega) _ rfl W);have e:(⟨(zjs one two four v).toArray⟩:ByteArray)=(⟨#[UInt8.ofNat four]⟩:ByteArray)++⟨(bigB 4 v).toArray⟩:=by
  rw[show(⟨#[UInt8.ofNat four]⟩:ByteArray)=⟨[UInt8.ofNat four].toArray⟩ from rfl,zn8];unfold zjs;rw[if_neg (by omega),if_neg (by omega)];rfl
 rw[e];have s2:(⟨(bigB 4 v).toArray⟩:ByteArray).size=4:=by rw[zo6,zbo]
 have s1:(⟨#[UInt8.ofNat four]⟩:ByteArray).size=1:=rfl;generalize (⟨#[UInt8.ofNat four]⟩:ByteArray)=X at *
 generalize (⟨(bigB 4 v).toArray⟩:ByteArray)=Y at *
 have hsum:(9223372036854775807<X.size+Y.size)=False:=by simp only[eq_iff_iff,iff_false];omega
 have z0:(0<(one:Int))=True:=by simp only[eq_iff_iff,iff_true];omega
 have z1:((v:Int)<256)=False:=by simp only[eq_iff_iff,iff_false];omega
 have z2:((v:Int)<65536)=False:=by simp only[eq_iff_iff,iff_false];omega
 clear e hc;go_enter Tryz.func34,Tryz.ntmps34;(go_wp2_with fail)
 go_region_with ((go_at_call 47);(with_reducible refine(HB.out _).mono ?_);(rintro e w1 ⟨rfl,b1⟩);(first |(have hcx:=HO.out w w1 b1)|skip))
 all_goals
  go_wp2;go_ret;refine⟨rfl,?_⟩
  first
   | exact zal9 b1
   | exact zama _ b1
theorem zann (one two four v:Nat) (h1:one<256) (h2:two<256) (h4:four<256) (hv:v<18446744073709551616) (w:World) :
  Calls Tryz.prog 34 #[.int .u64 v,.int .u8 one,.int .u8 two,.int .u8 four] w fun e w'=>e= .returned (.string ⟨(zjs one two four v).toArray⟩)∧Below w.heap.size w w':=by
 by_cases h0:one=0
 ·by_cases hK:v<65536
  ·exact zan1 one two four v h1 h2 h4 hv h0 hK w
  ·exact zan3 one two four v h1 h2 h4 hv h0 (by omega) w
 ·by_cases ha:v<256
  ·exact zao2 one two four v h1 h2 h4 hv (by omega) ha w
  ·by_cases hK:v<65536
   ·exact zan2 one two four v h1 h2 h4 hv (by omega) (by omega) w
   ·exact zan4 one two four v h1 h2 h4 hv (by omega) (by omega) w
end
section
open Go.RowKit
open Go.Lib
end
section
open Go.RowKit
open Go.Lib
theorem zam8 (one two four v:Nat):(zjs one two four v).length≤5:=by
 unfold zjs;split
 ·simp[zbo]
 split <;>simp[zbo]
theorem zap0 (y:Bool) (m:Nat) (t:ByteArray) (c:Int) (htx:t.size≤1000) (w:World) :
  Calls Tryz.prog 35 #[.int .i64 3,evV ⟨4,y,m,t,c⟩] w fun e w'=>e= .returned (.tuple #[.string ⟨(txPk false t.size++t.data.toList).toArray⟩,.int .i64 0])∧Below w.heap.size w w':=by
 simp only[evV];have HB0:=hid (fun x=>(Below.refl w.heap.size w).alloc (Nat.le_refl _) x);have e:txPk false t.size=zjs 196 197 198 t.size:=by
  unfold txPk;rw[if_neg (by decide)]
 have hX:(⟨(zjs 196 197 198 t.size++t.data.toList).toArray⟩:ByteArray)=⟨(zjs 196 197 198 t.size).toArray⟩++t:=by
  apply ByteArray.ext;simp
 rw[e,hX];have hXs:(⟨(zjs 196 197 198 t.size).toArray⟩:ByteArray).size≤5:=by
  rw[zbd];exact zam8 _ _ _ _
 have hP:=fun W=>zann 196 197 198 t.size (by decide) (by decide) (by decide) (by omega) W
 generalize (⟨(zjs 196 197 198 t.size).toArray⟩:ByteArray)=X at *
 have HP:=hid hP;have HB:=HB0;have hw:IntKind.u64.wrap (t.size:Int)=t.size:=by simp[IntKind.wrap,IntKind.bits,IntKind.signed];omega
 have z1:¬9223372036854775807<X.size+t.size:=by omega
 have hb0:=zag w #[.int .i64 4,.bool y,.int .u64 m,.string t,.int .i64 c] 43;have HE:=hid hb0;have k3:=hb0.cell 3;clear hP e hX hb0;go_enter Tryz.func35,Tryz.ntmps35;(go_wp2_with fail)
 go_region_with (go_at_call 34;refine(HP.out _).mono ?_;rintro r w1 ⟨rfl,hb⟩;have hb':Below (w.alloc (.cells #[.int .i64 4,.bool y,.int .u64 m,.string t,.int .i64 c] 43)).heap.size (w.alloc (.cells #[.int .i64 4,.bool y,.int .u64 m,.string t,.int .i64 c] 43)) w1:=⟨hb.os,hb.tape,hb.output,hb.size,hb.block⟩;have g3:=(HE.out.go hb').cell 3;have HB1:=hid (zab (HB.out _) hb');clear hb hb')
 all_goals
  go_wp2;go_ret2;exact⟨rfl,HB1.out⟩
end
section
open Go.RowKit
open Go.Lib
theorem zan5 (y:Bool) (m:Nat) (t:ByteArray) (c:Int) (w:World) (ht:t.size≤1000):Calls Tryz.prog 35 #[.int .i64 1,evV ⟨4,y,m,t,c⟩] w fun r w'=>r= .returned (.tuple #[.string ⟨(outB ⟨4,y,m,t,c⟩).toArray⟩,.int .i64 0])∧Below w.heap.size w w':=by
 simp only[evV];have ho:outB ⟨4,y,m,t,c⟩=34::putS t.data.toList++[34]:=by simp[outB]
 rw[ho];have HB:=hid (fun x=>(Below.refl w.heap.size w).alloc (Nat.le_refl _) x);have hWr:=fun W0=>zant t W0 (by omega)
 obtain⟨X,hX⟩:∃X:ByteArray,(⟨(putS t.data.toList).toArray⟩:ByteArray)=X:=⟨_,rfl⟩
 have hXs:X.size≤6000:=by
  rw[← hX,zbd];have h1:=zh5 t.data.toList;have h2:t.data.toList.length=t.size:=Array.length_toList;omega
 obtain⟨U,hU⟩:∃U,(⟨#[34]⟩:ByteArray)++X=U:=⟨_,rfl⟩
 obtain⟨Y,hY⟩:∃Y,U++(⟨#[34]⟩:ByteArray)=Y:=⟨_,rfl⟩
 have hUs:U.size≤6001:=by rw[← hU,ByteArray.size_append];show 1+X.size≤6001;omega
 have hYe:(⟨(34::putS t.data.toList++[34]).toArray⟩:ByteArray)=Y:=by
  rw[← hY,← hU,← hX];have e1:=zc8 [34] (putS t.data.toList);have e2:=zc8 ([34]++putS t.data.toList) [34];exact(by rw[show(⟨#[34]⟩:ByteArray)=⟨[(34:UInt8)].toArray⟩ from rfl,e1,e2];rfl)
 rw[hYe];rw[hX] at hWr;have HWr:=hid hWr;have z1:¬9223372036854775807<1+X.size:=by omega
 have z2:¬9223372036854775807<U.size+1:=by omega
 clear ho hWr hX hYe;go_enter Tryz.func35,Tryz.ntmps35;(go_wp2_with fail);refine(HWr.out _).mono ?_;rintro r w1 ⟨rfl,rfl⟩;go_wp2;go_ret2;exact⟨rfl,HB.out _⟩
theorem zaoc {t:Int} (ht:fmtP t) (l:List UInt8) (hl:l.length≤1000) (w:World) {n:Nat} (hn:w.heap.size=n) :
  Calls Tryz.prog 21 #[.pointer (some ⟨n,0,none⟩),evV (zby false l)] (w.alloc (.cells #[.int .i64 t,.slice none 0 0,.bool false] 47)) fun q w' =>
   q= .returned (.tuple #[.string ⟨(oneT t (zby false l)).toArray⟩,.int .i64 0])∧Below w.heap.size w w':=by
 refine zao1 ht false l hl (fun W=> ?_) w hn;have hz:=zans false l;rcases ht with rfl|rfl|rfl
 ·exact zan5 false 0 ⟨l.toArray⟩ 0 W (by rw[zbd];exact hl)
 ·exact zano zanb (zby false l) (zamb false l) (by omega) W
 ·have h:=zap0 false 0 ⟨l.toArray⟩ 0 (by rw[zbd];exact hl) W
  rw[zbd] at h;exact h
theorem zaoi {f t:Int} (hf:f=2∨f=3) (lim:Nat) (pr:Bool→Nat→List UInt8) {l:List UInt8} (hl:l.length≤200):zau 1 lim (pp0 pr f t) (oneT f (zby false l))=(oneT t (zby false l),0)∧(oneT f (zby false l)).length≤425:=by
 rcases hf with rfl|rfl
 ·refine⟨zal5 pr false l (zamz false hl (fun h=>by cases h)),?_⟩
  have hw:oneT 2 (zby false l)=zcd 2 l.length++l:=by simp[oneT,zbl,zby]
  have:=zf6 2 l.length;rw[hw,List.length_append];omega
 ·refine⟨zal5 pr false l (zam0 false hl (fun h=>by cases h)),?_⟩
  have hw:oneT 3 (zby false l)=txPk false l.length++l:=by simp[oneT,zcb,zby]
  have h1:=zl2 false l.length;rw[hw,List.length_append];omega
end
section
open Go.RowKit
open Go.Lib
theorem zaou (B:ByteArray) (f t:Int) (w:World) (hP:PrintX w) :
  Calls Tryz.prog 9 #[.string B,.int .i64 f,.int .i64 t] w fun r w'=>r= .returned (.bool true)∧Below w.heap.size w w':=by
 have HAL:=hid (fun(W:World) (k:Below w.heap.size w W)=>zamo (hP.up k));by_cases hc0:200<B.size
 ·clear hP
  go_enter Tryz.func9,Tryz.ntmps9;(go_wp2_with fail);refine(HAL.out _ (Below.refl _ _)).mono ?_;rintro r w1 ⟨rfl,b1⟩;have B1:=hid b1;clear b1;go_wp2;go_ret;exact⟨rfl,B1.out⟩
 by_cases hc1:f<2
 ·clear hP
  go_enter Tryz.func9,Tryz.ntmps9;(go_wp2_with fail);refine(HAL.out _ (Below.refl _ _)).mono ?_;rintro r w1 ⟨rfl,b1⟩;have B1:=hid b1;clear b1;go_wp2;go_ret;exact⟨rfl,B1.out⟩
 by_cases hc2:3<f
 ·clear hP
  go_enter Tryz.func9,Tryz.ntmps9;(go_wp2_with fail);refine(HAL.out _ (Below.refl _ _)).mono ?_;rintro r w1 ⟨rfl,b1⟩;have B1:=hid b1;clear b1;go_wp2;go_ret;exact⟨rfl,B1.out⟩
 by_cases hc3:t<1
 ·clear hP
  go_enter Tryz.func9,Tryz.ntmps9;(go_wp2_with fail);refine(HAL.out _ (Below.refl _ _)).mono ?_;rintro r w1 ⟨rfl,b1⟩;have B1:=hid b1;clear b1;go_wp2;go_ret;exact⟨rfl,B1.out⟩
 by_cases hc4:3<t
 ·clear hP
  go_enter Tryz.func9,Tryz.ntmps9;(go_wp2_with fail);refine(HAL.out _ (Below.refl _ _)).mono ?_;rintro r w1 ⟨rfl,b1⟩;have B1:=hid b1;clear b1;go_wp2;go_ret;exact⟨rfl,B1.out⟩
 obtain⟨pr,hPr,_⟩:=hP;have hl:B.data.toList.length≤200:=by
  have:B.data.toList.length=B.size:=Array.length_toList;omega
 have hf:f=2∨f=3:=by omega
 have hff:fmtP f:=by unfold fmtP;omega
 have htt:fmtP t:=by unfold fmtP;omega
 have hR:zbf f t (1:Nat) (0:Nat) 0:=⟨hff,htt,by unfold inP3;omega,by unfold inP3;omega,by unfold inP3;omega⟩
 have hev:evV (zby false B.data.toList)= .agg #[.int .i64 4,.bool false,.int .u64 0,.string B,.int .i64 0]:=by
  have:=zgs B;simp[evV,zby,this]
 have hbb:=zaoi (t:=t) hf 0 pr hl;have HS1:=hid (fun(W:World) (n:Nat) (hn:W.heap.size=n)=>zaoc hff B.data.toList (by omega) W hn);have HS2:=hid (fun(W:World) (n:Nat) (hn:W.heap.size=n)=>zaoc htt B.data.toList (by omega) W hn);have HB:=hid (fun(W:World) (k:Below w.heap.size w W)=>zi0 (hPr.up k) f t 0 1 0 hR _ hbb.2);rw[hbb.1] at HB;rw[hev] at HS1 HS2;have hone:t=1→(⟨(oneT t (zby false B.data.toList)).toArray⟩:ByteArray)=((⟨#[34]⟩:ByteArray)++⟨(putS B.data.toList).toArray⟩)++⟨#[34]⟩:=fun h=>by
  subst h;have e1:=zc8 [34] (putS B.data.toList);have e2:=zc8 ([34]++putS B.data.toList) [34];rw[show(⟨#[34]⟩:ByteArray)=⟨[(34:UInt8)].toArray⟩ from rfl,e1,e2];simp[oneT,outB,zby]
 have HBA:=hid (fun W=>zant B W (by omega));have hps:=zh5 B.data.toList;have hXs:(⟨(putS B.data.toList).toArray⟩:ByteArray).size≤6000:=by rw[zbd];omega
 generalize (⟨(oneT f (zby false B.data.toList)).toArray⟩:ByteArray)=S at *
 generalize (⟨(oneT t (zby false B.data.toList)).toArray⟩:ByteArray)=T at *
 generalize (⟨(putS B.data.toList).toArray⟩:ByteArray)=X at *
 simp only[suV,show((1:Nat):Int)=1 from rfl,show((0:Nat):Int)=0 from rfl] at HB;have z1:¬9223372036854775807<1+X.size:=by omega
 obtain⟨U,hU⟩:∃U,(⟨#[34]⟩:ByteArray)++X=U:=⟨_,rfl⟩
 have hUs:U.size≤6001:=by rw[← hU,ByteArray.size_append];show 1+X.size≤6001;omega
 have z2:¬9223372036854775807<U.size+1:=by omega
 rw[hU] at hone;have HONE:=hid hone;clear hPr hl hR hev hbb hone hps hXs hff htt hUs;go_enter Tryz.func9,Tryz.ntmps9;(go_wp2_with fail);refine(HAL.out _ (Below.refl _ _)).mono ?_;rintro r w1 ⟨rfl,b1⟩;have B1:=hid (zaa b1 (.cells #[.int .i64 4,.bool false,.int .u64 0,.string B,.int .i64 0] 43));have E1:Hid (Blk (w1.alloc (.cells #[.int .i64 4,.bool false,.int .u64 0,.string B,.int .i64 0] 43)) w1.heap.size #[.int .i64 4,.bool false,.int .u64 0,.string B,.int .i64 0] 43):=hid (zag _ _ _);clear b1;(go_wp2_with fail);refine(HS1.out (w1.alloc (.cells #[.int .i64 4,.bool false,.int .u64 0,.string B,.int .i64 0] 43)) _ (by simp)).mono ?_;rintro r w2 ⟨rfl,b2⟩;have B2:=hid (zab B1.out b2);have E2:=hid (E1.out.go b2);obtain⟨c0,c1,c2,c3,c4⟩:=((E1.out.go b2).alloc (.cells #[.int .i64 t,.slice none 0 0,.bool false] 47)).ev.1;clear b2 E1;(go_wp2_with fail);refine(HS2.out w2 _ rfl).mono ?_;rintro r w3 ⟨rfl,b3⟩;have B3:=hid (zab B2.out b3);clear b3 c0 c1 c2 c3 c4;by_cases h1:t=1
 ·subst h1
  rw[HONE.out rfl] at HB;(go_wp2_with fail);refine(HBA.out _).mono ?_;rintro r w4 ⟨rfl,rfl⟩;(go_wp2_with fail);refine(HB.out _ B3.out).mono ?_;rintro r w5 ⟨rfl,b5⟩;have B5:=hid (zab B3.out b5);clear b5;go_wp2;go_ret;exact⟨rfl,B5.out⟩
 ·have h1':(t==1)=false:=by rw[beq_eq_false_iff_ne];exact h1
  (go_wp2_with fail);refine(HB.out _ B3.out).mono ?_;rintro r w5 ⟨rfl,b5⟩;have B5:=hid (zab B3.out b5);clear b5;go_wp2;go_ret;exact⟨rfl,B5.out⟩
end
end Go.Proofs.YtpaciekgbhoncaaGreat
