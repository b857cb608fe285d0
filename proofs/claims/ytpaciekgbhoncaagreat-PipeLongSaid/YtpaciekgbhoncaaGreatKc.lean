/-
  Parts: PipLa, PipOne, RefWs, RefPr, RefPs, PipOw, PipOnJ, RefPlen, RefPwh, RefPout.
-/
import Derived.Test.YtpaciekgbhoncaaGreatG2c
import Derived.Test.YtpaciekgbhoncaaGreatKa
import Derived.Test.YtpaciekgbhoncaaGreatKb
import Derived.Test.YtpaciekgbhoncaaGreatG1f
import Derived.Test.YtpaciekgbhoncaaGreatG0g
import Derived.Deep.RegionWith
import Derived.Deep.QuietTactic
import Derived.Test.YtpaciekgbhoncaaGreatG0l
import Derived.StillTail
import Derived.Deep.RegionLaw
import Derived.Test.YtpaciekgbhoncaaGreatHHeadRh
import Derived.Test.YtpaciekgbhoncaaGreatG0c
set_option maxRecDepth 100000
set_option maxHeartbeats 16000000
open Go.Lib (hid)
namespace Go.Proofs.YtpaciekgbhoncaaGreat
section
open Go.RowKit
open Go.Lib
theorem zamy (pr:Bool→Nat→List UInt8):zau 2 9 (pp0 pr 1 3) [91,49,93]=([145,1],0):=by kernel_rfl
theorem zamo {w:World} (hP:PrintX w):Calls Tryz.prog 20 #[] w fun r w'=>r= .returned (.bool true)∧Below w.heap.size w w':=by
 obtain⟨pr,hP,_⟩:=hP;have HB:=hid (zi0 hP 1 3 0 2 9 (by decide) [91,49,93] (by decide));rw[zamy] at HB;have H1:=hid (fun W=>zee 1 1 1 0 0 W);have H2:=hid (fun W=>zee 0 0 0 0 0 W);rw[decide_eq_true (by decide)] at H1;rw[decide_eq_false (by decide)] at H2;unfold suV at HB H1 H2;clear hP;go_enter Tryz.func20,Tryz.ntmps20;(go_wp2_with fail);refine HB.out.mono ?_;rintro r w1 ⟨rfl,b1⟩;have B1:=hid b1;clear b1;(go_wp2_with fail);refine(H1.out _).mono ?_;rintro r w2 ⟨rfl,b2⟩;have B2:=hid (zab B1.out b2);clear b2;(go_wp2_with fail);refine(H2.out _).mono ?_;rintro r w3 ⟨rfl,b3⟩;have B3:=hid (zab B2.out b3);clear b3;go_wp2;go_ret;exact⟨rfl,B3.out⟩
end
section
open Go.RowKit
open Go.Lib
def oneT (t:Int) (e:Ev):List UInt8:=if t=1 then outB e else if t=2 then zbl [] e else zcb e
theorem zanv (m:Bool) (l:List UInt8):mayE (zby m l):=⟨by cases m <;>simp[zby],by cases m <;>simp[zby],fun h=>by cases m <;>simp[zby] at h⟩
theorem zamc {t:Int} (pr:Bool→Nat→List UInt8) (m:Bool) (l:List UInt8):∃q,zbk (ws0 pr t) (zby m l)=((oneT t (zby m l),0),q):=by
 have hm:=zanv m l;unfold ws0 oneT;split
 ·refine⟨Ws.js pr (zbb pr ⟨[],false⟩ (zby m l)).2,?_⟩
  show((zbb pr ⟨[],false⟩ _).1,Ws.js pr (zbb pr ⟨[],false⟩ _).2)=_;rw[zuo pr hm (by cases m <;>simp[zby]) (by cases m <;>simp[zby]) (by simp[keyB])];have:zds pr (zby m l)=outB (zby m l):=by
   unfold zds;rw[if_neg (by cases m <;>simp[zby])]
  rw[this];rfl
 ·split
  ·refine⟨Ws.cb (zb0 ⟨[],false⟩ (zby m l)).2,?_⟩
   show((zb0 ⟨[],false⟩ _).1,Ws.cb (zb0 ⟨[],false⟩ _).2)=_;unfold zb0;rw[if_neg (by simp[hm]),if_neg (by cases m <;>simp[zby]),if_neg (by simp[fulT]),if_neg (by simp[keyB]),if_neg (by cases m <;>simp[zby])]
  ·refine⟨Ws.pk (zbp ⟨[],false⟩ (zby m l)).2,?_⟩
   show((zbp ⟨[],false⟩ _).1,Ws.pk (zbp ⟨[],false⟩ _).2)=_;unfold zbp;rw[if_neg (by simp[hm]),if_neg (by cases m <;>simp[zby]),if_neg (by simp[fulT]),if_neg (by simp[keyB]),if_neg (by cases m <;>simp[zby,zde]),if_neg (by cases m <;>simp[zby])]
theorem zanl {lim:Nat} {t:Int} (pr:Bool→Nat→List UInt8) (m:Bool) (l:List UInt8):(za3 lim (if t=3 then some gs0 else none) (ws0 pr t) [zby m l] 0).1=(oneT t (zby m l),0):=by
 obtain⟨q,hq⟩:=zamc (t:=t) pr m l;have hf:(zcm lim (if t=3 then some gs0 else none) (zby m l)).2=([zby m l],0):=by
  split
  ·show((zgh lim gs0 _).l,(zgh lim gs0 _).e)=_
   have:zgh lim gs0 (zby m l)=⟨gs0,[zby m l],0⟩:=if_pos ⟨rfl,fun h=>by have:=h.2;cases m <;>simp[zby] at this⟩;rw[this]
  ·rfl
 simp only[za3,zbu,hf,za6,hq];simp
theorem zal5 {D lim:Nat} {f t:Int} (pr:Bool→Nat→List UInt8) {b:List UInt8} (m:Bool) (l:List UInt8) (h:zals D (rs0 f) b=([zby m l],0)):zau D lim (pp0 pr f t) b=(oneT t (zby m l),0):=by
 unfold pp0;rw[zal3 D lim b _ _ _ (zanj f),h];exact zanl pr m l
theorem zamz (m:Bool) {l:List UInt8} (hl:l.length≤200) (hv:m=true→validD l=true):zals 1 (rs0 2) (zbl [] (zby m l))=([zby m l],0):=by
 have hw:zbl [] (zby m l)=zcd (majT m) l.length++l:=by cases m <;>simp[zbl,zby,majT]
 have hrun:zalo 1 ci0 (zcd (majT m) l.length++l)=(.item [] true,[zby m l]):=by
  have hr:=zamt (D:=1) (s:=[]) (m:=majT m) (v:=l.length) (zanu m) (by omega) (by simp[keyB]) (by cases m <;>simp[majT]);rw[zam3 m hl] at hr;rw[zamf];unfold ci0;rw[hr];by_cases h0:l.length=0
  ·obtain rfl:l=[]:=List.length_eq_zero_iff.1 h0
   cases m <;>rfl
  ·rw[if_neg h0]
   have:=zamh 1 [] m l [] st0 (fun h=>h0 (by rw[h];rfl)) (fun hm=>by rw[← zal2];exact hv hm);simp only[this,List.nil_append];rfl
 rw[hw];unfold zals;rw[show rs0 2= .cb ci0 from rfl,zang,hrun];rfl
theorem zam0 (m:Bool) {l:List UInt8} (hl:l.length≤200) (hv:m=true→validD l=true):zals 1 (rs0 3) (zcb (zby m l))=([zby m l],0):=by
 have hw:zcb (zby m l)=txPk m l.length++l:=by cases m <;>simp[zcb,zby]
 have hrun:=zanp 1 [] m l (by simp[keyB]) hl (fun hm=>by rw[← zal2];exact hv hm);rw[hw];unfold zals;rw[show rs0 3= .pk (.c (.item [] false)) from rfl,zanh,hrun];rfl
end
section
open Go.RowKit
open Go.Lib
theorem zaob {M B b:Nat} {w:World} (h:WrAt M B w b [] false) (e:Ev) (hk:e.k=0∨e.k=1∨e.k=2∨e.k=3∨e.k=4) (X:ByteArray) (hX:X.size≤100000)
  (hP:∀W,Calls Tryz.prog 35 #[.int .i64 1,evV e] W fun r w'=>r= .returned (.tuple #[.string X,.int .i64 0])∧Below W.heap.size W w') :
  Calls Tryz.prog 21 #[.pointer (some ⟨b,0,none⟩),evV e] w fun q w'=>q= .returned (.tuple #[.string X,.int .i64 0])∧WrAt M B w' b [] true∧Bew B b w w':=by
 obtain⟨a,cp,hA,hS⟩:=h.cells;have hBw:B≤w.heap.size:=h.low;have HM:Hid (∀X,Calls Tryz.prog 32 #[evV e] (w.alloc X) fun r w'=>r= .returned (.bool true)∧Below (w.alloc X).heap.size (w.alloc X) w'):=hid fun X=>by
  have:=zamn e (w.alloc X)
  rwa [decide_eq_true (show mayE e from⟨by omega,by omega,by omega⟩)] at this
 have HP:=hid hP;obtain⟨k,y,m,t,c⟩:=e;simp only[evV] at HM HP hk ⊢;have n7:(k==7)=false:=by rw[beq_eq_false_iff_ne];omega
 have n5:(k==5)=false:=by rw[beq_eq_false_iff_ne];omega
 have n6:(k==6)=false:=by rw[beq_eq_false_iff_ne];omega
 have HH:=hid h;have HS:=hid hS;have HA:=hid hA;have hA0:=(hA.alloc (by simp) (.cells #[.int .i64 k,.bool y,.int .u64 m,.string t,.int .i64 c] 43))
 obtain⟨⟨k0,_⟩,⟨k1,_⟩,⟨k2,_⟩⟩:=zalp hA0;simp only[List.length_nil] at k1 HA HS;clear h hA hS hA0 hP hk;go_enter Tryz.func21,Tryz.ntmps21;(go_wp2_with fail);refine(HM.out _).mono ?_;rintro e w1 ⟨rfl,hb1⟩;have E1:=hid ((zag w _ _).go hb1);obtain⟨⟨e0,e1,e2,e3,e4⟩,ef⟩:=E1.out.ev;have hbw1:=zab (zaa (Below.refl w.heap.size w) (.cells #[.int .i64 k,.bool y,.int .u64 m,.string t,.int .i64 c] 43)) hb1;have A1:=hid (HA.out.keep (hbw1.block b HH.out.lt));have HB1:=hid hbw1;clear hb1 ef k0 k1 k2 hbw1;obtain⟨⟨k0,q0⟩,⟨k1,q1⟩,⟨k2,q2⟩⟩:=zalp A1.out;go_wp2
 go_region_with (go_at_call 35;refine(HP.out _).mono ?_;rintro r w2 ⟨rfl,hb2⟩)
 all_goals
  have hW1:=HH.out.go HB1.out;have hb2':Below w1.heap.size w1 w2:=⟨hb2.os,hb2.tape,hb2.output,hb2.size,hb2.block⟩
  have A2:=A1.out.keep (hb2'.block b hW1.lt);have HW2:=hid (hW1.go hb2');have HBB:=hid (zab HB1.out hb2');have HA2:=hid A2;obtain⟨⟨p0,r0⟩,⟨p1,r1⟩,⟨p2,r2⟩⟩:=zalp A2;have hcat:(⟨#[]⟩:ByteArray)++X=X:=by apply ByteArray.ext;simp
  have HC:=hid hcat;have hE2:w2.cell? ⟨w.heap.size,0,none⟩=some (.int .i64 k):=(World.cell?_of_block (w:=w1) (a:=⟨w.heap.size,0,none⟩) (hb2'.block _ E1.out.lt)).trans e0;have hne:w.heap.size≠b:=by have:=HH.out.lt;omega
  have hE3:(w2.setCell ⟨b,2,none⟩ (.bool true)).cell? ⟨w.heap.size,0,none⟩=some (.int .i64 k):=by
   rw[World.cell?_setCell_other _ _ _ _ (fun e=>hne (congrArg Addr.block e).symm)];exact hE2
  clear A2 hb2 hb2' hW1 hcat e0 e1 e2 e3 e4 k0 k1 k2 q0 q1 q2 hE2;go_wp2;go_ret2;refine⟨by rw[HC.out];rfl,(HW2.out.fin true).1,?_⟩;exact(HBB.out.mono hBw).bew.trans (HW2.out.fin true).2
end
section
open Go.RowKit
open Go.Lib
structure WmAt (M B:Nat) (w:World) (b:Nat) (s:List Bx) (dn:Bool):Prop where
 cells:∃a cp,At w b 0 [.int .i64 3,.slice a s.length cp,.bool dn]∧Stk M 0 w s (.slice a s.length cp)
 blk:∃cs,w.heap[b]? = some (.cells cs 47 (0,0))
 low:B≤w.heap.size
theorem WmAt.lt {M B:Nat} {w:World} {b:Nat} {s:List Bx} {dn:Bool} (h:WmAt M B w b s dn):b<w.heap.size:=by
 obtain⟨cs,hc⟩:=h.blk;exact(Array.getElem?_eq_some_iff.1 hc).1
theorem WmAt.go {M B:Nat} {w w':World} {b:Nat} {s:List Bx} {dn:Bool} (h:WmAt M B w b s dn) (k:Below w.heap.size w w'):WmAt M B w' b s dn:=by
 have hk:=k.block b h.lt;obtain⟨a,cp,h1,h2⟩:=h.cells;obtain⟨cs,hc⟩:=h.blk;exact⟨⟨a,cp,h1.keep hk,h2.go k⟩,⟨cs,hk.trans hc⟩,Nat.le_trans h.low k.size⟩
theorem WmAt.fin {M B:Nat} {w:World} {b:Nat} {s:List Bx} {dn:Bool} (h:WmAt M B w b s dn) (q:Bool):WmAt M B (w.setCell ⟨b,2,none⟩ (.bool q)) b s q∧Bew B b w (w.setCell ⟨b,2,none⟩ (.bool q)):=by
 obtain⟨a,cp,h1,h2⟩:=h.cells;obtain⟨cs,hc⟩:=h.blk;have hap:b∉Value.owner (.slice a s.length cp):=h2.win.apart (t:=47) hc (by decide);have hset:=h1.set 2 (by simp) (.bool q);refine⟨⟨⟨a,cp,by simpa using hset,⟨h2.win.setCell_far hap _,h2.vB,h2.ok,h2.deep,h2.most⟩⟩,⟨_,zai w ⟨b,2,none⟩ _ _ _ _ rfl hc⟩,by simpa [World.setCell] using h.low⟩,(Below.refl B w).bew.set _ _⟩
end
section
open Go.RowKit
open Go.Lib
theorem zaoa {M B b:Nat} {w:World} (h:WmAt M B w b [] false) (e:Ev) (hk:e.k=0∨e.k=1∨e.k=2∨e.k=3∨e.k=4) (X:ByteArray) (hX:X.size≤100000)
  (hP:∀W,Calls Tryz.prog 35 #[.int .i64 3,evV e] W fun r w'=>r= .returned (.tuple #[.string X,.int .i64 0])∧Below W.heap.size W w') :
  Calls Tryz.prog 21 #[.pointer (some ⟨b,0,none⟩),evV e] w fun q w'=>q= .returned (.tuple #[.string X,.int .i64 0])∧WmAt M B w' b [] true∧Bew B b w w':=by
 obtain⟨a,cp,hA,hS⟩:=h.cells;have hBw:B≤w.heap.size:=h.low;have HM:Hid (∀X,Calls Tryz.prog 32 #[evV e] (w.alloc X) fun r w'=>r= .returned (.bool true)∧Below (w.alloc X).heap.size (w.alloc X) w'):=hid fun X=>by
  have:=zamn e (w.alloc X)
  rwa [decide_eq_true (show mayE e from⟨by omega,by omega,by omega⟩)] at this
 have HP:=hid hP;obtain⟨k,y,m,t,c⟩:=e;simp only[evV] at HM HP hk ⊢;have n7:(k==7)=false:=by rw[beq_eq_false_iff_ne];omega
 have n5:(k==5)=false:=by rw[beq_eq_false_iff_ne];omega
 have n6:(k==6)=false:=by rw[beq_eq_false_iff_ne];omega
 have HH:=hid h;have HS:=hid hS;have HA:=hid hA;have hA0:=(hA.alloc (by simp) (.cells #[.int .i64 k,.bool y,.int .u64 m,.string t,.int .i64 c] 43))
 obtain⟨⟨k0,_⟩,⟨k1,_⟩,⟨k2,_⟩⟩:=zalp hA0;simp only[List.length_nil] at k1 HA HS;clear h hA hS hA0 hP hk;go_enter Tryz.func21,Tryz.ntmps21;(go_wp2_with fail);refine(HM.out _).mono ?_;rintro e w1 ⟨rfl,hb1⟩;have E1:=hid ((zag w _ _).go hb1);obtain⟨⟨e0,e1,e2,e3,e4⟩,ef⟩:=E1.out.ev;have hbw1:=zab (zaa (Below.refl w.heap.size w) (.cells #[.int .i64 k,.bool y,.int .u64 m,.string t,.int .i64 c] 43)) hb1;have A1:=hid (HA.out.keep (hbw1.block b HH.out.lt));have HB1:=hid hbw1;clear hb1 ef k0 k1 k2 hbw1;obtain⟨⟨k0,q0⟩,⟨k1,q1⟩,⟨k2,q2⟩⟩:=zalp A1.out;go_wp2
 go_region_with (go_at_call 35;refine(HP.out _).mono ?_;rintro r w2 ⟨rfl,hb2⟩)
 all_goals
  have hW1:=HH.out.go HB1.out;have hb2':Below w1.heap.size w1 w2:=⟨hb2.os,hb2.tape,hb2.output,hb2.size,hb2.block⟩
  have A2:=A1.out.keep (hb2'.block b hW1.lt);have HW2:=hid (hW1.go hb2');have HBB:=hid (zab HB1.out hb2');have HA2:=hid A2;obtain⟨⟨p0,r0⟩,⟨p1,r1⟩,⟨p2,r2⟩⟩:=zalp A2;have hcat:(⟨#[]⟩:ByteArray)++X=X:=by apply ByteArray.ext;simp
  have HC:=hid hcat;have hE2:w2.cell? ⟨w.heap.size,0,none⟩=some (.int .i64 k):=(World.cell?_of_block (w:=w1) (a:=⟨w.heap.size,0,none⟩) (hb2'.block _ E1.out.lt)).trans e0;have hne:w.heap.size≠b:=by have:=HH.out.lt;omega
  have hE3:(w2.setCell ⟨b,2,none⟩ (.bool true)).cell? ⟨w.heap.size,0,none⟩=some (.int .i64 k):=by
   rw[World.cell?_setCell_other _ _ _ _ (fun e=>hne (congrArg Addr.block e).symm)];exact hE2
  clear A2 hb2 hb2' hW1 hcat e0 e1 e2 e3 e4 k0 k1 k2 q0 q1 q2 hE2;go_wp2;go_ret2;refine⟨by rw[HC.out];rfl,(HW2.out.fin true).1,?_⟩;exact(HBB.out.mono hBw).bew.trans (HW2.out.fin true).2
end
section
open Go.RowKit
open Go.Lib
theorem zamb (m:Bool) (l:List UInt8):(zby m l).k=3∨(zby m l).k=4:=by cases m <;>simp[zby]
theorem zans (m:Bool) (l:List UInt8):(zby m l).t.size=l.length:=zbd l
theorem zanw {t:Int} (ht:fmtP t) (m:Bool) (l:List UInt8) (hl:l.length≤1000):(oneT t (zby m l)).length≤100000:=by
 have hk:=zamb m l;have hz:=zans m l;rcases ht with rfl|rfl|rfl
 ·exact ziv (zby m l) (by omega) (by simp[zby]) (by omega)
 ·obtain⟨q,hq⟩:=zamc (t:=2) (fun _ _=>[]) m l
  have h:=zu7 ⟨[],false⟩ (zby m l) (by omega);have:(zb0 ⟨[],false⟩ (zby m l)).1.1=oneT 2 (zby m l):=congrArg (fun x=>x.1.1) hq;rw[this] at h;omega
 ·obtain⟨q,hq⟩:=zamc (t:=3) (fun _ _=>[]) m l
  have h:=zow ⟨[],false⟩ (zby m l) (by omega);have:(zbp ⟨[],false⟩ (zby m l)).1.1=oneT 3 (zby m l):=congrArg (fun x=>x.1.1) hq;rw[this] at h;omega
theorem zao1 {t:Int} (ht:fmtP t) (m:Bool) (l:List UInt8) (hl:l.length≤1000) (hp:∀W,Calls Tryz.prog 35 #[.int .i64 t,evV (zby m l)] W fun r w'=>r= .returned (.tuple #[.string ⟨(oneT t (zby m l)).toArray⟩,.int .i64 0])∧Below W.heap.size W w') (w:World) {n:Nat} (hn:w.heap.size=n) :
  Calls Tryz.prog 21 #[.pointer (some ⟨n,0,none⟩),evV (zby m l)] (w.alloc (.cells #[.int .i64 t,.slice none 0 0,.bool false] 47)) fun q w' =>
   q= .returned (.tuple #[.string ⟨(oneT t (zby m l)).toArray⟩,.int .i64 0])∧Below w.heap.size w w':=by
 subst hn;have hk:=zamb m l;have hX:(⟨(oneT t (zby m l)).toArray⟩:ByteArray).size≤100000:=by rw[zbd];exact zanw ht m l hl
 have hb:Below w.heap.size w (w.alloc (.cells #[.int .i64 t,.slice none 0 0,.bool false] 47)):=zaa (Below.refl _ _) _;have hlow:w.heap.size≤(w.alloc (.cells #[.int .i64 t,.slice none 0 0,.bool false] 47)).heap.size:=hb.size;rcases ht with rfl|rfl|rfl
 ·refine(zaob (M:=0) (B:=w.heap.size) ⟨⟨none,0,zmj (heap_alloc_new w _),⟨Win.nil_ _ _ _,fun k hk=>by simp[Value.owner] at hk,fun b hb=>by simp at hb,by simp,by omega⟩⟩,⟨_,heap_alloc_new w _⟩,hlow⟩ (zby m l) (by omega) _ hX hp).mono ?_
  rintro q w' ⟨h1,_,h3⟩;exact⟨h1,hb.trans (h3.below (Nat.le_refl _) (Nat.le_refl _))⟩
 ·refine(zan9 (M:=0) (B:=w.heap.size) ⟨⟨none,0,zmj (heap_alloc_new w _),⟨Win.nil_ _ _ _,fun k hk=>by simp[Value.owner] at hk,fun b hb=>by simp at hb,by simp,by omega⟩⟩,⟨_,heap_alloc_new w _⟩,hlow⟩ (zby m l) (by omega) _ hX hp).mono ?_
  rintro q w' ⟨h1,_,h3⟩;exact⟨h1,hb.trans (h3.below (Nat.le_refl _) (Nat.le_refl _))⟩
 ·refine(zaoa (M:=0) (B:=w.heap.size) ⟨⟨none,0,zmj (heap_alloc_new w _),⟨Win.nil_ _ _ _,fun k hk=>by simp[Value.owner] at hk,fun b hb=>by simp at hb,by simp,by omega⟩⟩,⟨_,heap_alloc_new w _⟩,hlow⟩ (zby m l) (by omega) _ hX hp).mono ?_
  rintro q w' ⟨h1,_,h3⟩;exact⟨h1,hb.trans (h3.below (Nat.le_refl _) (Nat.le_refl _))⟩
end
section
open Go.RowKit
open Go.Lib
theorem zaoh {l:List UInt8} (hl:l.length≤200) (hv:validD l=true):zals 1 (rs0 1) (34::escW l++[34])=([zby true l],0):=by
 unfold zals;rw[show rs0 1= .js ⟨.idle,.at_ [] false⟩ from rfl,zao4,zapv 1 [] false l hv hl];rfl
theorem zaor {D:Nat}:∀(a:List UInt8) {r r':Rs} (_:zalt D r a=(r',[])) (_:zbz r'≠0) (b:List UInt8),zals D r (a++b)=([],zbz r')
  | [],r,r',h,he,b=>by
    obtain rfl:r=r':=(Prod.mk.inj h).1;exact zani he b
  | x :: a,r,r',h,he,b=>by
    simp only[zalt,Prod.mk.injEq,List.append_eq_nil_iff] at h;obtain⟨h1,h2,h3⟩:=h;have ih:=zaor a (r:=(zaf D r x).1) (r':=r') (by rw[← h1,← h3]) he b;have ha:zals D r (x::a++b)=((zaf D r x).2++(zals D (zaf D r x).1 (a++b)).1,(zals D (zaf D r x).1 (a++b)).2):=by
      simp only[zals,zalt,List.append_assoc,List.cons_append]
    rw[ha,ih,h2];rfl
theorem zamm {D lim:Nat} {f t:Int} (pr:Bool→Nat→List UInt8) {a b:List UInt8} {r':Rs} (h:zalt D (rs0 f) a=(r',[])) (he:zbz r'=5):zau D lim (pp0 pr f t) (a++b)=([],5):=by
 unfold pp0;rw[zal3 D lim _ _ _ _ (zanj f),zaor a h (by omega) b,he];rfl
theorem zao9 {n:Nat} (h:200<n) (hn:n≤400):zalt 1 (rs0 2) (zcd 3 n)=(.cb (.bad 5),[]):=by
 have h1:zalo 1 ci0 (zcd 3 n)=(.bad 5,[]):=by
  have:=zamt (D:=1) (s:=[]) (m:=3) (v:=n) (by decide) (by omega) (by simp[keyB]) (by decide);rw[show ci0= .item [] false from rfl,this];exact zaok true h
 have:=zang 1 (zcd 3 n) ci0;rw[h1] at this;exact this
theorem zapb {n:Nat} (h:200<n) (hn:n≤400):zalt 1 (rs0 3) (txPk true n)=(.pk (.c (.bad 5)),[]):=by
 have h1:zaln 1 pm0 (txPk true n)=(.c (.bad 5),[]):=by
  rw[show pm0= .c (.item [] false) from rfl,zam2 (by simp[keyB]) (by omega)];unfold lenP;rw[if_pos h];rfl
 have:=zanh 1 (txPk true n) pm0;rw[h1] at this;exact this
theorem zao0:runJ 1 j0 (34::escW (List.replicate 201 0))=(⟨.idle,.bad 5⟩,[]):=by kernel_rfl
theorem zapa:zalt 1 (rs0 1) (34::escW (List.replicate 201 0))=(.js ⟨.idle,.bad 5⟩,[]):=by
 have:=zao4 1 (34::escW (List.replicate 201 0)) j0;rw[zao0] at this;exact this
theorem zal8 (n:Nat):validD (List.replicate n 0)=true:=by
 rw[zal2,zaot n 0 (by decide)];rfl
theorem zapr (lim:Nat) (t:Int) (pr:Bool→Nat→List UInt8) {n:Nat} (hn:n≤400):zau 1 lim (pp0 pr 2 t) (zbl [] (zby true (List.replicate n 0)))=if n≤200 then(oneT t (zby true (List.replicate n 0)),0) else([],5):=by
 split
 ·rename_i h
  exact zal5 pr true _ (zamz true (by simpa using h) fun _=>zal8 n)
 ·rename_i h
  have hw:zbl [] (zby true (List.replicate n 0))=zcd 3 n++List.replicate n 0:=by simp[zbl,zby]
  rw[hw];exact zamm pr (zao9 (by omega) hn) rfl
theorem zaps (lim:Nat) (t:Int) (pr:Bool→Nat→List UInt8) {n:Nat} (hn:n≤400):zau 1 lim (pp0 pr 3 t) (zcb (zby true (List.replicate n 0)))=if n≤200 then(oneT t (zby true (List.replicate n 0)),0) else([],5):=by
 split
 ·rename_i h
  exact zal5 pr true _ (zam0 true (by simpa using h) fun _=>zal8 n)
 ·rename_i h
  have hw:zcb (zby true (List.replicate n 0))=txPk true n++List.replicate n 0:=by simp[zcb,zby]
  rw[hw];exact zamm pr (zapb (by omega) hn) rfl
theorem zapd (lim:Nat) (t:Int) (pr:Bool→Nat→List UInt8) (n:Nat):zau 1 lim (pp0 pr 1 t) (34::escW (List.replicate n 0)++[34])=if n≤200 then(oneT t (zby true (List.replicate n 0)),0) else([],5):=by
 split
 ·rename_i h
  exact zal5 pr true _ (zaoh (by simpa using h) (zal8 n))
 ·rename_i h
  obtain⟨k,rfl⟩:∃k,n=201+k:=⟨n-201,by omega⟩
  have hw:34::escW (List.replicate (201+k) 0)++[34]=(34::escW (List.replicate 201 0))++(escW (List.replicate k 0)++[34]):=by
   rw[← List.replicate_append_replicate,zib];simp
  rw[hw];exact zamm pr zapa rfl
theorem zaog {D lim M:Nat} (hD:D≤16) {s:Js} {g:Option Gs} {q:Ws} (h:WfPp D lim M (.live (.js s) g q)) (b:UInt8) (hs:(zel D s b).2=[]) :
  (zay D lim (.live (.js s) g q) b).2.1=[]∧(((zay D lim (.live (.js s) g q) b).1= .live (.js (zel D s b).1) g q∧WfPp D lim M (.live (.js (zel D s b).1) g q))∨∃e,(zay D lim (.live (.js s) g q) b).1= .over e):=by
 have hr:=(zh6 hD h.1 b).1;have hst:zaf D (.js s) b=(.js (zel D s b).1,[]):=by simp only[zaf,hs]
 simp only[zay,hst,za3];split
 ·exact⟨rfl,.inr ⟨_,rfl⟩⟩
 ·rw[hst] at hr
  exact⟨rfl,.inl ⟨rfl,hr,h.2.1,h.2.2⟩⟩
theorem zanr {D lim M:Nat} (hD:D≤16) (hM:M≤430):∀(l:List UInt8) {s:Js} {g:Option Gs} {q:Ws},WfPp D lim M (.live (.js s) g q)→(runJ D s l).2=[]→MayP D lim (.live (.js s) g q) l∧(zdz D lim (.live (.js s) g q) l).2=[]∧(∀j,j≤l.length→(zdz D lim (.live (.js s) g q) (l.take j)).2=[])
  | [],s,g,q,h,_=>⟨fun j hj=>⟨M,hM,by simpa [zdz] using h,by simp[zdz]⟩,rfl,fun j _=>by simp[zdz]⟩
  | b :: l,s,g,q,h,ht=>by
    simp only[runJ,List.append_eq_nil_iff] at ht;obtain⟨h1,h2⟩:=zaog hD h b ht.1;rcases h2 with ⟨h3,h4⟩|⟨e,h3⟩
    · obtain⟨i1,i2,i3⟩:=zanr hD hM l h4 ht.2
      refine⟨fun j hj=> ?_,?_,fun j hj=> ?_⟩
      · cases j with
        | zero=>exact⟨M,hM,by simpa [zdz] using h,by simp[zdz]⟩
        | succ j =>
          obtain⟨K,k1,k2,k3⟩:=i1 j (by simpa using hj);simp only[List.take_succ_cons,zdz,h3,h1,List.nil_append];exact⟨K,k1,k2,k3⟩
      · simp only[zdz,h3,h1,i2,List.append_nil]
      · cases j with
        | zero=>simp[zdz]
        | succ j =>
          simp only[List.take_succ_cons,zdz,h3,h1,List.nil_append];exact i3 j (by simpa using hj)
    · refine⟨fun j hj=> ?_,?_,fun j hj=> ?_⟩
      · cases j with
        | zero=>exact⟨M,hM,by simpa [zdz] using h,by simp[zdz]⟩
        | succ j =>
          simp only[List.take_succ_cons,zdz,h3,h1,zamv,List.nil_append];exact⟨0,by omega,trivial,by simp⟩
      · simp only[zdz,h3,h1,zamv,List.append_nil]
      · cases j with
        | zero=>simp[zdz]
        | succ j=>simp only[List.take_succ_cons,zdz,h3,h1,zamv,List.append_nil]
theorem zapf {D lim M:Nat} (hD:D≤16) (hlim:lim≤2000) (hM:M≤420) {l:List UInt8} {s:Js} {g:Option Gs} {q:Ws} (hp:PrW q) (h:WfPp D lim M (.live (.js s) g q)) (ht:(runJ D s l).2=[]) (b:UInt8):MayP D lim (.live (.js s) g q) (l++[b]):=by
  obtain⟨h1,h2,h3⟩:=zanr hD (by omega) l h ht;have hw:∀(l:List UInt8) {s:Js} {g:Option Gs} {q:Ws},PrW q→WfPp D lim M (.live (.js s) g q)→(runJ D s l).2=[]→WfPp D lim M (zdz D lim (.live (.js s) g q) l).1∧PrP (zdz D lim (.live (.js s) g q) l).1:=by
    intro l
    induction l with
    | nil=>exact fun hp h _=>⟨h,hp⟩
    | cons x l ih =>
      intro s g q hp h ht;simp only[runJ,List.append_eq_nil_iff] at ht;obtain⟨_,⟨h3,h4⟩|⟨e,h3⟩⟩:=zaog hD h x ht.1
      · have:=ih hp h4 ht.2
        simpa only[zdz,h3] using this
      · simp only[zdz,h3,zamv]
        exact⟨trivial,trivial⟩
  intro j hj;rw[List.length_append,List.length_singleton] at hj;by_cases hjl:j≤l.length
  · have:=h1 j hjl
    rwa [List.take_append_of_le_length hjl]
  · obtain rfl:j=l.length+1:=by omega
    rw[List.take_of_length_le (by simp)];obtain⟨w1,w2⟩:=hw l hp h ht;have hs:=zme w1 (by omega) hD hlim w2 b;rw[zk0,h2];exact⟨M+1,by omega,ziu hD hlim w1 b,by simp only[List.nil_append];omega⟩
theorem zapk (n:Nat):(runJ 1 j0 (34::escW (List.replicate n 0))).2=[]:=by
 by_cases h:n≤200
 ·have h1:=zaoe (List.replicate n 0) (zal8 n) (escW (List.replicate n 0)).length (Nat.le_refl _)
  rw[List.take_of_length_le (by simp),List.take_of_length_le (Nat.le_refl _)] at h1;have h2:=zam1 (List.replicate n 0) (zal8 n);rw[h2] at h1;have h3:badX (strX (insT,List.replicate n 0))=none:=by
   unfold strX;rw[if_neg (by simpa using h)];rfl
  have:=zane 1 [] false _ .idle _ h1 h3;rw[show j0=⟨.idle,.at_ [] false⟩ from rfl,this]
 ·obtain⟨k,rfl⟩:∃k,n=201+k:=⟨n-201,by omega⟩
  have hw:34::escW (List.replicate (201+k) 0)=(34::escW (List.replicate 201 0))++escW (List.replicate k 0):=by
   rw[← List.replicate_append_replicate,zib];simp
  rw[hw,zand,zao0];have hb:∀l:List UInt8,(runJ 1 ⟨.idle,.bad 5⟩ l).2=[]:=by
   intro l
   induction l with
   | nil=>rfl
   | cons x l ih=>simp only[runJ,zel,ih,List.append_nil]
  simp only[hb,List.append_nil]
theorem zapx {lim:Nat} (hlim:lim≤2000) (t:Int) {pr:Bool→Nat→List UInt8} (hpr:∀y m,(pr y m).length≤100) (n:Nat):MayP 1 lim (pp0 pr 1 t) (34::escW (List.replicate n 0)++[34]):=by
 have h0:=zy4 1 lim pr 1 t;have hp:=zakg hpr 1 t;exact zapf (M:=0) (by decide) hlim (by decide) hp h0 (zapk n) 34
end
section
open Go.RowKit
open Go.Lib
theorem zao2 (one two four v:Nat) (h1:one<256) (_:two<256) (_:four<256) (hv:v<18446744073709551616) (h0:0<one) (hK:v<256) (w:World) :
  Calls Tryz.prog 34 #[.int .u64 v,.int .u8 one,.int .u8 two,.int .u8 four] w fun e w'=>e= .returned (.string ⟨(zjs one two four v).toArray⟩)∧Below w.heap.size w w':=by
 have hc:(one:Int)=(((UInt8.ofNat one).toNat:Nat):Int):=by simp;omega
 have hcv:=fun W=>zalu W (UInt8.ofNat one) (one:Int) hc
 have hcd:=zalr w (UInt8.ofNat one) (one:Int) hc;have HO:=hid (fun(W W2:World) hb=>zalw (w:=W) (w2:=W2) (UInt8.ofNat one) (one:Int) hc hb);have HB:=hid (fun W=>zaly v 1 1 rfl hv (by omega) (by omega) _ rfl W);have e:(⟨(zjs one two four v).toArray⟩:ByteArray)=(⟨#[UInt8.ofNat one]⟩:ByteArray)++⟨(bigB 1 v).toArray⟩:=by
  rw[show(⟨#[UInt8.ofNat one]⟩:ByteArray)=⟨[UInt8.ofNat one].toArray⟩ from rfl,zn8];unfold zjs;rw[if_pos ⟨by omega,hK⟩];rfl
 rw[e];have s2:(⟨(bigB 1 v).toArray⟩:ByteArray).size=1:=by rw[zo6,zbo]
 have s1:(⟨#[UInt8.ofNat one]⟩:ByteArray).size=1:=rfl;generalize (⟨#[UInt8.ofNat one]⟩:ByteArray)=X at *
 generalize (⟨(bigB 1 v).toArray⟩:ByteArray)=Y at *
 have hsum:(9223372036854775807<X.size+Y.size)=False:=by simp only[eq_iff_iff,iff_false];omega
 have z0:(0<(one:Int))=True:=by simp only[eq_iff_iff,iff_true];omega
 have z1:((v:Int)<256)=True:=by simp only[eq_iff_iff,iff_true];omega
 clear e hc;go_enter Tryz.func34,Tryz.ntmps34;(go_wp2_with fail)
 go_region_with ((go_at_call 47);(with_reducible refine(HB.out _).mono ?_);(rintro e w1 ⟨rfl,b1⟩);(first |(have hcx:=HO.out w w1 b1)|skip))
 all_goals
  go_wp2;go_ret;refine⟨rfl,?_⟩
  first
   | exact zal9 b1
   | exact zama _ b1
theorem zan1 (one two four v:Nat) (_:one<256) (h2:two<256) (_:four<256) (hv:v<18446744073709551616) (h0:one=0) (hK:v<65536) (w:World) :
  Calls Tryz.prog 34 #[.int .u64 v,.int .u8 one,.int .u8 two,.int .u8 four] w fun e w'=>e= .returned (.string ⟨(zjs one two four v).toArray⟩)∧Below w.heap.size w w':=by
 have hc:(two:Int)=(((UInt8.ofNat two).toNat:Nat):Int):=by simp;omega
 have hcv:=fun W=>zalu W (UInt8.ofNat two) (two:Int) hc
 have hcd:=zalr w (UInt8.ofNat two) (two:Int) hc;have HO:=hid (fun(W W2:World) hb=>zalw (w:=W) (w2:=W2) (UInt8.ofNat two) (two:Int) hc hb);have HB:=hid (fun W=>zaly v 2 2 rfl hv (by omega) (by omega) _ rfl W);have e:(⟨(zjs one two four v).toArray⟩:ByteArray)=(⟨#[UInt8.ofNat two]⟩:ByteArray)++⟨(bigB 2 v).toArray⟩:=by
  rw[show(⟨#[UInt8.ofNat two]⟩:ByteArray)=⟨[UInt8.ofNat two].toArray⟩ from rfl,zn8];unfold zjs;rw[if_neg (by omega),if_pos hK];rfl
 rw[e];have s2:(⟨(bigB 2 v).toArray⟩:ByteArray).size=2:=by rw[zo6,zbo]
 have s1:(⟨#[UInt8.ofNat two]⟩:ByteArray).size=1:=rfl;generalize (⟨#[UInt8.ofNat two]⟩:ByteArray)=X at *
 generalize (⟨(bigB 2 v).toArray⟩:ByteArray)=Y at *
 have hsum:(9223372036854775807<X.size+Y.size)=False:=by simp only[eq_iff_iff,iff_false];omega
 have z0:(0<(one:Int))=False:=by simp only[eq_iff_iff,iff_false];omega
 have z2:((v:Int)<65536)=True:=by simp only[eq_iff_iff,iff_true];omega
 clear e hc;go_enter Tryz.func34,Tryz.ntmps34;(go_wp2_with fail)
 go_region_with ((go_at_call 47);(with_reducible refine(HB.out _).mono ?_);(rintro e w1 ⟨rfl,b1⟩);(first |(have hcx:=HO.out w w1 b1)|skip))
 all_goals
  go_wp2;go_ret;refine⟨rfl,?_⟩
  first
   | exact zal9 b1
   | exact zama _ b1
theorem zan2 (one two four v:Nat) (h1:one<256) (h2:two<256) (_:four<256) (hv:v<18446744073709551616) (h0:0<one) (hK:256≤v∧v<65536) (w:World) :
  Calls Tryz.prog 34 #[.int .u64 v,.int .u8 one,.int .u8 two,.int .u8 four] w fun e w'=>e= .returned (.string ⟨(zjs one two four v).toArray⟩)∧Below w.heap.size w w':=by
 have hc:(two:Int)=(((UInt8.ofNat two).toNat:Nat):Int):=by simp;omega
 have hcv:=fun W=>zalu W (UInt8.ofNat two) (two:Int) hc
 have hcd:=zalr w (UInt8.ofNat two) (two:Int) hc;have HO:=hid (fun(W W2:World) hb=>zalw (w:=W) (w2:=W2) (UInt8.ofNat two) (two:Int) hc hb);have HB:=hid (fun W=>zaly v 2 2 rfl hv (by omega) (by omega) _ rfl W);have e:(⟨(zjs one two four v).toArray⟩:ByteArray)=(⟨#[UInt8.ofNat two]⟩:ByteArray)++⟨(bigB 2 v).toArray⟩:=by
  rw[show(⟨#[UInt8.ofNat two]⟩:ByteArray)=⟨[UInt8.ofNat two].toArray⟩ from rfl,zn8];unfold zjs;rw[if_neg (by omega),if_pos hK.2];rfl
 rw[e];have s2:(⟨(bigB 2 v).toArray⟩:ByteArray).size=2:=by rw[zo6,zbo]
 have s1:(⟨#[UInt8.ofNat two]⟩:ByteArray).size=1:=rfl;generalize (⟨#[UInt8.ofNat two]⟩:ByteArray)=X at *
 generalize (⟨(bigB 2 v).toArray⟩:ByteArray)=Y at *
 have hsum:(9223372036854775807<X.size+Y.size)=False:=by simp only[eq_iff_iff,iff_false];omega
 have z0:(0<(one:Int))=True:=by simp only[eq_iff_iff,iff_true];omega
 have z1:((v:Int)<256)=False:=by simp only[eq_iff_iff,iff_false];omega
 have z2:((v:Int)<65536)=True:=by simp only[eq_iff_iff,iff_true];omega
 clear e hc;go_enter Tryz.func34,Tryz.ntmps34;(go_wp2_with fail)
 go_region_with ((go_at_call 47);(with_reducible refine(HB.out _).mono ?_);(rintro e w1 ⟨rfl,b1⟩);(first |(have hcx:=HO.out w w1 b1)|skip))
 all_goals
  go_wp2;go_ret;refine⟨rfl,?_⟩
  first
   | exact zal9 b1
   | exact zama _ b1
theorem zan3 (one two four v:Nat) (_:one<256) (_:two<256) (h4:four<256) (hv:v<18446744073709551616) (h0:one=0) (hK:65536≤v) (w:World) :
  Calls Tryz.prog 34 #[.int .u64 v,.int .u8 one,.int .u8 two,.int .u8 four] w fun e w'=>e= .returned (.string ⟨(zjs one two four v).toArray⟩)∧Below w.heap.size w w':=by
 have hc:(four:Int)=(((UInt8.ofNat four).toNat:Nat):Int):=by simp;omega
 have hcv:=fun W=>zalu W (UInt8.ofNat four) (four:Int) hc
 have hcd:=zalr w (UInt8.ofNat four) (four:Int) hc;have HO:=hid (fun(W W2:World) hb=>zalw (w:=W) (w2:=W2) (UInt8.ofNat four) (four:Int) hc hb);have HB:=hid (fun W=>zaly v 4 4 rfl hv (by omega) (by omega) _ rfl W);have e:(⟨(zjs one two four v).toArray⟩:ByteArray)=(⟨#[UInt8.ofNat four]⟩:ByteArray)++⟨(bigB 4 v).toArray⟩:=by
  rw[show(⟨#[UInt8.ofNat four]⟩:ByteArray)=⟨[UInt8.ofNat four].toArray⟩ from rfl,zn8];unfold zjs;rw[if_neg (by omega),if_neg (by omega)];rfl
 rw[e];have s2:(⟨(bigB 4 v).toArray⟩:ByteArray).size=4:=by rw[zo6,zbo]
 have s1:(⟨#[UInt8.ofNat four]⟩:ByteArray).size=1:=rfl;generalize (⟨#[UInt8.ofNat four]⟩:ByteArray)=X at *
 generalize (⟨(bigB 4 v).toArray⟩:ByteArray)=Y at *
 have hsum:(9223372036854775807<X.size+Y.size)=False:=by simp only[eq_iff_iff,iff_false];omega
 have z0:(0<(one:Int))=False:=by simp only[eq_iff_iff,iff_false];omega
 have z2:((v:Int)<65536)=False:=by simp only[eq_iff_iff,iff_false];omega
 clear e hc;go_enter Tryz.func34,Tryz.ntmps34;(go_wp2_with fail)
 go_region_with ((go_at_call 47);(with_reducible refine(HB.out _).mono ?_);(rintro e w1 ⟨rfl,b1⟩);(first |(have hcx:=HO.out w w1 b1)|skip))
 all_goals
  go_wp2;go_ret;refine⟨rfl,?_⟩
  first
   | exact zal9 b1
   | exact zama _ b1
theorem zan4 (one two four v:Nat) (h1:one<256) (_:two<256) (h4:four<256) (hv:v<18446744073709551616) (h0:0<one) (hK:65536≤v) (w:World) :
  Calls Tryz.prog 34 #[.int .u64 v,.int .u8 one,.int .u8 two,.int .u8 four] w fun e w'=>e= .returned (.string ⟨(zjs one two four v).toArray⟩)∧Below w.heap.size w w':=by
 have hc:(four:Int)=(((UInt8.ofNat four).toNat:Nat):Int):=by simp;omega
 have hcv:=fun W=>zalu W (UInt8.ofNat four) (four:Int) hc
 have hcd:=zalr w (UInt8.ofNat four) (four:Int) hc;have HO:=hid (fun(W W2:World) hb=>zalw (w:=W) (w2:=W2) (UInt8.ofNat four) (four:Int) hc hb);have HB:=hid (fun W=>zaly v 4 4 rfl hv (by omega) (by omega) _ rfl W);have e:(⟨(zjs one two four v).toArray⟩:ByteArray)=(⟨#[UInt8.ofNat four]⟩:ByteArray)++⟨(bigB 4 v).toArray⟩:=by
  rw[show(⟨#[UInt8.ofNat four]⟩:ByteArray)=⟨[UInt8.ofNat four].toArray⟩ from rfl,zn8];unfold zjs;rw[if_neg (by omega),if_neg (by omega)];rfl
 rw[e];have s2:(⟨(bigB 4 v).toArray⟩:ByteArray).size=4:=by rw[zo6,zbo]
 have s1:(⟨#[UInt8.ofNat four]⟩:ByteArray).size=1:=rfl;generalize (⟨#[UInt8.ofNat four]⟩:ByteArray)=X at *
 generalize (⟨(bigB 4 v).toArray⟩:ByteArray)=Y at *
 have hsum:(9223372036854775807<X.size+Y.size)=False:=by simp only[eq_iff_iff,iff_false];omega
 have z0:(0<(one:Int))=True:=by simp only[eq_iff_iff,iff_true];omega
 have z1:((v:Int)<256)=False:=by simp only[eq_iff_iff,iff_false];omega
 have z2:((v:Int)<65536)=False:=by simp only[eq_iff_iff,iff_false];omega
 clear e hc;go_enter Tryz.func34,Tryz.ntmps34;(go_wp2_with fail)
 go_region_with ((go_at_call 47);(with_reducible refine(HB.out _).mono ?_);(rintro e w1 ⟨rfl,b1⟩);(first |(have hcx:=HO.out w w1 b1)|skip))
 all_goals
  go_wp2;go_ret;refine⟨rfl,?_⟩
  first
   | exact zal9 b1
   | exact zama _ b1
theorem zann (one two four v:Nat) (h1:one<256) (h2:two<256) (h4:four<256) (hv:v<18446744073709551616) (w:World) :
  Calls Tryz.prog 34 #[.int .u64 v,.int .u8 one,.int .u8 two,.int .u8 four] w fun e w'=>e= .returned (.string ⟨(zjs one two four v).toArray⟩)∧Below w.heap.size w w':=by
 by_cases h0:one=0
 ·by_cases hK:v<65536
  ·exact zan1 one two four v h1 h2 h4 hv h0 hK w
  ·exact zan3 one two four v h1 h2 h4 hv h0 (by omega) w
 ·by_cases ha:v<256
  ·exact zao2 one two four v h1 h2 h4 hv (by omega) ha w
  ·by_cases hK:v<65536
   ·exact zan2 one two four v h1 h2 h4 hv (by omega) (by omega) w
   ·exact zan4 one two four v h1 h2 h4 hv (by omega) (by omega) w
end
section
open Go.RowKit
open Go.Lib
end
section
open Go.RowKit
open Go.Lib
theorem zam8 (one two four v:Nat):(zjs one two four v).length≤5:=by
 unfold zjs;split
 ·simp[zbo]
 split <;>simp[zbo]
theorem zapz (y:Bool) (m:Nat) (t:ByteArray) (c:Int) (htx:t.size≤1000) (h0:32≤t.size) (w:World) :
  Calls Tryz.prog 35 #[.int .i64 3,evV ⟨3,y,m,t,c⟩] w fun e w'=>e= .returned (.tuple #[.string ⟨(txPk true t.size++t.data.toList).toArray⟩,.int .i64 0])∧Below w.heap.size w w':=by
 simp only[evV];have HB0:=hid (fun x=>(Below.refl w.heap.size w).alloc (Nat.le_refl _) x);have e:txPk true t.size=zjs 217 218 219 t.size:=by
  unfold txPk;rw[if_pos rfl,if_neg (by omega)]
 have hX:(⟨(zjs 217 218 219 t.size++t.data.toList).toArray⟩:ByteArray)=⟨(zjs 217 218 219 t.size).toArray⟩++t:=by
  apply ByteArray.ext;simp
 rw[e,hX];have hXs:(⟨(zjs 217 218 219 t.size).toArray⟩:ByteArray).size≤5:=by
  rw[zbd];exact zam8 _ _ _ _
 have hP:=fun W=>zann 217 218 219 t.size (by decide) (by decide) (by decide) (by omega) W
 generalize (⟨(zjs 217 218 219 t.size).toArray⟩:ByteArray)=X at *
 have HP:=hid hP;have HB:=HB0;have hw:IntKind.u64.wrap (t.size:Int)=t.size:=by simp[IntKind.wrap,IntKind.bits,IntKind.signed];omega
 have z1:¬9223372036854775807<X.size+t.size:=by omega
 have z0:((t.size:Int)<32)=False:=by simp only[eq_iff_iff,iff_false];omega
 have hb0:=zag w #[.int .i64 3,.bool y,.int .u64 m,.string t,.int .i64 c] 43;have HE:=hid hb0;have k3:=hb0.cell 3;clear hP e hX hb0;go_enter Tryz.func35,Tryz.ntmps35;(go_wp2_with fail)
 go_region_with (go_at_call 34;refine(HP.out _).mono ?_;rintro r w1 ⟨rfl,hb⟩;have hb':Below (w.alloc (.cells #[.int .i64 3,.bool y,.int .u64 m,.string t,.int .i64 c] 43)).heap.size (w.alloc (.cells #[.int .i64 3,.bool y,.int .u64 m,.string t,.int .i64 c] 43)) w1:=⟨hb.os,hb.tape,hb.output,hb.size,hb.block⟩;have g3:=(HE.out.go hb').cell 3;have HB1:=hid (zab (HB.out _) hb');clear hb hb')
 all_goals
  go_wp2;go_ret2;exact⟨rfl,HB1.out⟩
end
end Go.Proofs.YtpaciekgbhoncaaGreat
