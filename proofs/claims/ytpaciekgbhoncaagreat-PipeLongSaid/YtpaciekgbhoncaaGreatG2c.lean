/-
  Parts: PipI, PipLa, FmtX.
-/
import Derived.Test.YtpaciekgbhoncaaGreatG2b
import Derived.Test.YtpaciekgbhoncaaGreatG0n
import Derived.Test.YtpaciekgbhoncaaGreatG1f
import Derived.Test.YtpaciekgbhoncaaGreatHFmtW
import Derived.Test.YtpaciekgbhoncaaGreatG0k
import Derived.Test.YtpaciekgbhoncaaGreatG0m
set_option maxRecDepth 100000
set_option maxHeartbeats 16000000
open Go.Lib (hid)
namespace Go.Proofs.YtpaciekgbhoncaaGreat
section
open Go.RowKit
open Go.Lib
theorem PrintC.up {w w':World} {pr:Bool→Nat→List UInt8} (h:PrintC w pr) (k:Below w.heap.size w w'):PrintC w' pr:=⟨fun y m hm W hW=>h.call y m hm W (zab k hW),h.size⟩
theorem zmc {lim:Nat} (hlim:lim≤2000):∀(L:List Ev) (g:Option Gs) (q:Ws) (told:Nat),OkOG lim g→PrW q→(∀e∈L,TolE e)→zdp g+dpW q+L.length≤880→(za3 lim g q L told).1.1.length≤90000900*L.length
  | [],g,q,told,_,_,_,_=>by simp[za3]
  | e::L,g,q,told,h,hp,hL,hd=>by
    simp only[List.length_cons] at hd;obtain⟨h1,h2,h3⟩:=zk5 hlim h q (hL e (by simp));obtain⟨h4,h5⟩:=h3 hp;have h6:=zmc hlim L (zbu lim g q e).2.1 (zbu lim g q e).2.2 told h1 h5 (fun x hx=>hL x (by simp[hx])) (by omega);have h7:100001*(zdp g+1)≤90000900:=by omega
    rw[zip];split
    · simp only[List.length_cons];omega
    · simp only[List.length_append,List.length_cons];omega
def PrP:Pp→Prop
 | .over _=>True
 | .live _ _ q=>PrW q
theorem PipAt.prP {w0 w:World} {pb D lim:Nat} {F:List Nat} {s:Pp} (h:PipAt w0 w pb D lim F s):PrP s:=by
  cases s with
  | over e=>trivial
  | live r g q =>
    obtain⟨_,_,_,_,_,_,_,_,_,h4,_⟩:=h;exact h4.prW
theorem zme {D lim M:Nat} {s:Pp} (hw:WfPp D lim M s) (hM:M≤430) (hD:D≤16) (hlim:lim≤2000) (hp:PrP s) (y:UInt8):(zay D lim s y).2.1.length≤80000000000:=by
  cases s with
  | over e=>simp[zay]
  | live r g q =>
    obtain⟨h1,h2,h3⟩:=hw;obtain⟨t1,t2,t3⟩:=zh6 hD h1 y;have h:=zmc hlim (zaf D r y).2 g q (zbz (zaf D r y).1) h2 hp (fun e he=>zh7 (t2 e he)) (by omega);have h4:90000900*(zaf D r y).2.length≤90000900*880:=Nat.mul_le_mul_left _ (by omega);simp only[zay];split
    · simp only;omega
    · simp only;omega
theorem zzk {D lim M:Nat} {s:Pp} (hw:WfPp D lim M s) (hM:M≤430) (hlim:lim≤2000) (hp:PrP s):(zi4 D lim s).2.1.length≤80000000000:=by
  cases s with
  | over e=>simp[zi4]
  | live r g q =>
    obtain⟨h1,h2,h3⟩:=hw;obtain⟨t2,t3⟩:=zic D r;have h:=zmc hlim (zcz D r).1 g q (zcz D r).2 h2 hp (fun e he=>zh7 (t2 e he)) (by omega);have h4:90000900*(zcz D r).1.length≤90000900*880:=Nat.mul_le_mul_left _ (by omega);simp only[zi4];omega
theorem zq7 {lim:Nat} {g:Option Gs} {q:Ws} (h:PrW q) (e:Ev):PrW (zbu lim g q e).2.2:=by
 unfold zbu;split
 ·exact h
 ·exact zg1 _ h
theorem zqp (lim:Nat):∀(L:List Ev) (g:Option Gs) (q:Ws) (told:Nat),PrW q→PrW (za3 lim g q L told).2.2
  | [],_,_,_,h=>h
  | e::L,g,q,told,h=>by
    simp only[za3];split
    · exact zq7 h e
    · exact zqp lim L _ _ told (zq7 h e)
theorem zqn {D lim:Nat} {s:Pp} (h:PrP s) (b:UInt8):PrP (zay D lim s b).1:=by
  cases s with
  | over e=>exact h
  | live r g q =>
    simp only[zay];split
    · trivial
    · exact zqp lim _ g q _ h
theorem zakg {pr:Bool→Nat→List UInt8} (h:∀y m,(pr y m).length≤100) (f t:Int):PrP (pp0 pr f t):=by
 unfold pp0 ws0 PrP;simp only;split
 ·exact h
 ·split <;>trivial
theorem zj5 (D lim:Nat) (s:Pp) (b:UInt8) (l:List UInt8):zau D lim s (b::l)=if(zay D lim s b).2.2≠0 then(zay D lim s b).2 else((zay D lim s b).2.1++(zau D lim (zay D lim s b).1 l).1,(zau D lim (zay D lim s b).1 l).2):=rfl
theorem zxk {D lim:Nat} (hD:D≤16) (hlim:lim≤2000):∀(l:List UInt8) (s:Pp) (M:Nat),WfPp D lim M s→PrP s→M+l.length≤430→(zdz D lim s l).2.length≤80000000000*l.length
  | [],s,M,_,_,_=>by simp[zdz]
  | b::l,s,M,h,hp,hM=>by
    simp only[List.length_cons] at hM ⊢;have h1:=zme h (by omega) hD hlim hp b;have h2:=zxk hD hlim l _ (M+1) (ziu hD hlim h b) (zqn hp b) (by omega);simp only[zdz,List.length_append];omega
def MayP (D S:Nat) (s0:Pp) (l:List UInt8):Prop:=∀j,j≤l.length→∃M,M≤430∧WfPp D S M (zdz D S s0 (l.take j)).1∧(zdz D S s0 (l.take j)).2.length≤34400000000000
theorem zz3 {D S:Nat} {s0:Pp} {l:List UInt8} (hD:D≤16) (hS:S≤2000) (h0:WfPp D S 0 s0) (hp:PrP s0) (hl:l.length≤430):MayP D S s0 l:=fun j hj=>by
 have h1:(l.take j).length=j:=by simp[hj]
 have h2:=zrs hD hS (l.take j) s0 0 h0;have h3:=zxk hD hS (l.take j) s0 0 h0 hp (by omega);rw[h1] at h2 h3;exact⟨0+j,by omega,h2,by omega⟩
structure BatI (w0 w1 wr:World) (pb D S:Nat) (s0:Pp) (R:List UInt8×Nat) (l:List UInt8) (j:Nat) (sj:Pp) (F G:List Nat) (acc:List UInt8):Prop where
 pip:PipAt w0 wr pb D S F sj
 bld:BdAt wr w1.heap.size w1.heap.size G acc
 ap:∀k∈F,k≠w1.heap.size∧k∉G
 wf:∃M,M≤430∧WfPp D S M sj
 run:zdz D S s0 (l.take j)=(sj,acc)
 eq:R=(acc++(zau D S sj (l.drop j)).1,(zau D S sj (l.drop j)).2)
 len:acc.length≤34400000000000
 sz:w0.heap.size≤w1.heap.size∧w1.heap.size≤wr.heap.size
theorem zad2 {L:List UInt8} {j:Nat} (h:j<L.length):L.drop j=L[j]::L.drop (j+1):=List.drop_eq_getElem_cons h
theorem BatI.step {w0 w1 wr w2 w3:World} {pb D S:Nat} {s0:Pp} {R:List UInt8×Nat} {l:List UInt8} {j:Nat} {sj s2:Pp} {F F2 G G2:List Nat} {acc T:List UInt8} (h:BatI w0 w1 wr pb D S s0 R l j sj F G acc) (hp:PipAt w0 w2 pb D S F2 s2) (hs:Step F F2 wr w2)
  (_hb:BdAt w3 w1.heap.size w1.heap.size G2 (acc++T)) (ht:Step (w1.heap.size::G) (w1.heap.size::G2) w2 w3) (hbel:Below w1.heap.size w2 w3) :
  PipAt w0 w3 pb D S F2 s2∧(∀k∈F2,k≠w1.heap.size∧k∉G2)∧w1.heap.size≤w3.heap.size:=by
 obtain⟨l1,l2⟩:=h.bld.lt;have a2:∀k∈F2,k≠w1.heap.size∧k∉G:=fun k hk=>(hs.foot k hk).elim (h.ap k) (fun hge=>⟨by omega,fun hg=>by have:=(l2 k hg).1;omega⟩)
 refine⟨hp.keep (fun k hk=>ht.block k (hp.low k hk).2 (fun hm=>(List.mem_cons.1 hm).elim (a2 k hk).1 (a2 k hk).2)) (hp.bel.trans (hbel.mono h.sz.1)),fun k hk=>⟨(a2 k hk).1,fun hg=> ?_⟩,?_⟩
 ·rcases ht.foot k (by simp[hg]) with h1|h1
  ·exact(List.mem_cons.1 h1).elim (a2 k hk).1 (a2 k hk).2
  ·have:=(hp.low k hk).2
   omega
 ·have:=hs.size
  have:=ht.size;have:=h.sz.2;omega
theorem BatI.bd {w0 w1 wr w2:World} {pb D S:Nat} {s0:Pp} {R:List UInt8×Nat} {l:List UInt8} {j:Nat} {sj:Pp} {F F2 G:List Nat} {acc:List UInt8} (h:BatI w0 w1 wr pb D S s0 R l j sj F G acc) (hs:Step F F2 wr w2):BdAt w2 w1.heap.size w1.heap.size G acc∧w1.heap.size≤w2.heap.size :=
 ⟨h.bld.keep fun k hk=>by
  obtain⟨l1,l2⟩:=h.bld.lt;rcases hk with rfl|hk
  ·exact hs.block _ l1 (fun hf=>(h.ap _ hf).1 rfl)
  ·exact hs.block _ (l2 k hk).1 (fun hf=>(h.ap _ hf).2 hk),Nat.le_trans h.sz.2 hs.size⟩
theorem zps {pr:Bool→Nat→List UInt8} {w:World} (hP:PrintC w pr) (f t L:Int) (D S:Nat) (h:zbf f t D S L) (l:List UInt8) (hl:l.length≤3000) (hmay:MayP D S (pp0 pr f t) l) :
    Calls Tryz.prog 15 #[suV f t D S L,.string ⟨l.toArray⟩] w fun r w'=>r= .returned (.tuple #[.string ⟨(zau D S (pp0 pr f t) l).1.toArray⟩,.int .i64 ((zau D S (pp0 pr f t) l).2:Nat)])∧Below w.heap.size w w':=by
  obtain⟨X,hX⟩:∃X:ByteArray,(⟨l.toArray⟩:ByteArray)=X:=⟨_,rfl⟩
  have hsz:X.size=l.length:=by rw[← hX];exact zbd l
  have hget:∀(i:Nat) (h:i<X.size) (h':i<l.length),X[i]=l[i]'h':=by subst hX;intro i h h';rfl
  have hD:1≤D∧D≤16:=by have:=h.2.2.1;unfold inP3 at this;omega
  have hS:S≤2000:=by have:=h.2.2.2.1;unfold inP3 at this;omega
  have k0:=zaa (Below.refl w.heap.size w) (.cells #[.int .i64 f,.int .i64 t,.int .i64 (D:Int),.int .i64 (S:Int),.int .i64 L] 23);have HN:=hid (zadn (hP.up k0) f t L D S h);have HK0:=hid k0;have HGET:=hid hget;have HSZ:=hid hsz;have HDS:=hid (And.intro hD (And.intro hS hl));have hx:X.size≤3000:=by omega
  obtain⟨R,hR⟩:∃R,zau D S (pp0 pr f t) l=R:=⟨_,rfl⟩
  have HR:=hid hR;have HMAY:=hid hmay;have HW0:=hid (zy4 D S pr f t);generalize pp0 pr f t=s0 at *
  rw[hX,hR];unfold suV at HN ⊢;clear hX hget hsz hl hD hS hR k0 h hP hmay;go_enter Tryz.func15,Tryz.ntmps15;(go_wp2_with fail);refine HN.out.mono ?_;rintro r w1 ⟨pb,F0,rfl,hp⟩;have k1:Below w1.heap.size w1 (w1.alloc (.cells #[.pointer none,.slice none 0 0] 59)):=zaa (Below.refl _ _) _;have H0:Hid (BatI (w.alloc (.cells #[.int .i64 f,.int .i64 t,.int .i64 (D:Int),.int .i64 (S:Int),.int .i64 L] 23)) w1 (w1.alloc (.cells #[.pointer none,.slice none 0 0] 59)) pb D S s0 R l 0 s0 F0 [] []):=hid ⟨hp.go k1,zaj0 w1,fun k hk=>⟨by have:=(hp.low k hk).2;omega,by simp⟩,⟨0,by omega,HW0.out⟩,by rw[List.take_zero];rfl,by rw[List.drop_zero,HR.out];simp,by simp,hp.bel.size,k1.size⟩;clear hp k1 HN;generalize (w.alloc (.cells #[.int .i64 f,.int .i64 t,.int .i64 (D:Int),.int .i64 (S:Int),.int .i64 L] 23))=w0 at *
  go_wp2
  go_loopw [8,9,10,19] (fun _ _ _ i wr=>∃(j:Nat) (sj:Pp) (F G:List Nat) (acc:List UInt8),i= .int .i64 j∧j≤X.size∧Hid (BatI w0 w1 wr pb D S s0 R l j sj F G acc)) (fun _ _ _ i _=>X.size-(RowKit.intOf i).toNat)
  case atStart=>exact⟨0,_,_,_,_,rfl,by omega,H0⟩
  case round =>
    obtain⟨j,sj,F,G,acc,rfl,hj,HI⟩:=hrel;clear H0;by_cases hlt:j<X.size
    · have hjl:j<l.length:=by rw[← HSZ.out];exact hlt
      have hy:=HGET.out j hlt hjl;obtain⟨M,hjM,hwf⟩:=HI.out.wf;have hnx:=HMAY.out (j+1) hjl;have hrn:=zvc (D:=D) (lim:=S) (s:=s0) hjl;rw[HI.out.run] at hrn;simp only at hrn;rw[hrn] at hnx;have HS:=hid (zsi HI.out.pip hwf hjM HDS.out.1 HDS.out.2.1 l[j]);have hso:=zme hwf hjM HDS.out.1.2 HDS.out.2.1 HI.out.pip.prP l[j];have heq:=HI.out.eq;rw[zad2 hjl,zj5] at heq;obtain⟨y,hyy⟩:∃y,l[j]=y:=⟨_,rfl⟩
      rw[hyy] at hy HS hso hnx hrn heq;generalize zay D S sj y=Q at *
      obtain⟨s2,T,e⟩:=Q;simp only[PipR] at HS;simp only at hso hnx hrn heq;obtain⟨Z,hZ⟩:∃Z:ByteArray,(⟨T.toArray⟩:ByteArray)=Z:=⟨_,rfl⟩
      have hZl:Z.data.toList=T:=by rw[← hZ]
      have hZs:Z.size≤80000000000:=by rw[← hZ,zbd];exact hso
      rw[hZ] at HS;have HZ:=hid (And.intro hZl (And.intro hZs (And.intro hrn hnx)));have HEQ:=hid heq;have HAL:=hid HI.out.len;clear hZ hZl hZs hso hnx hrn hwf hjM heq hjl hyy;(go_wp2_with fail);refine HS.out.mono ?_;rintro r w2 ⟨rfl,F2,hp2,hs2⟩;have H2:=hid (And.intro hp2 (And.intro hs2 (HI.out.bd hs2)));clear hp2 hs2 HS;(go_wp2_with fail);refine(zafe H2.out.2.2.1 Z (by have:=HAL.out;have:=HZ.out.2.1;omega) H2.out.2.2.2).mono ?_;rintro r w3 ⟨rfl,G2,g1,g2,g3⟩;rw[HZ.out.1] at g1;have H3:=hid (And.intro g1 (HI.out.step H2.out.1 H2.out.2.1 g1 g2 g3));clear g1 g2 g3;by_cases h0:e=0
      · subst h0
        have HN:=hid (show BatI w0 w1 w3 pb D S s0 R l (j+1) s2 F2 G2 (acc++T) from⟨H3.out.2.1,H3.out.1,H3.out.2.2.1,(HZ.out.2.2.2.elim fun M h=>⟨M,h.1,h.2.1⟩),HZ.out.2.2.1,by
          have:=HEQ.out;rw[if_neg (by simp)] at this;rw[this];simp,(HZ.out.2.2.2.elim fun M h=>h.2.2),HI.out.sz.1,H3.out.2.2.2⟩)
        go_wp2
        go_roundw
        case rel=>exact⟨j+1,_,_,_,_,rfl,hlt,HN⟩
        case measure=>simp[RowKit.intOf];omega
      · have hne:((e:Int) !=0)=true:=by rw[bne_iff_ne];omega
        have hRR:R=(acc++T,e):=by
          have:=HEQ.out;rw[if_pos h0] at this;exact this
        have HRR:=hid hRR;have HB:=hid (HK0.out.trans (H3.out.2.1.bel.mono HK0.out.size));clear hRR h0;(go_wp2_with fail);refine(zdb w1.heap.size w1.heap.size (acc++T) w3 H3.out.1.isB H3.out.2.2.2).mono ?_;rintro r w4 ⟨rfl,i4,b4,k4⟩;have HB4:=hid (HB.out.trans (b4.mono (Nat.le_trans HK0.out.size HI.out.sz.1)));clear i4 b4 k4;go_wp2;go_ret2;rw[HRR.out];exact⟨rfl,HB4.out⟩
    · obtain rfl:j=X.size:=by omega
      obtain⟨M,hjM,hwf⟩:=HI.out.wf;have HE:=hid (zyd HI.out.pip hwf hjM HDS.out.1 HDS.out.2.1);have hso:=zzk hwf hjM HDS.out.2.1 HI.out.pip.prP;clear hwf hjM;have heq:=HI.out.eq;rw[List.drop_of_length_le (by rw[HSZ.out];exact Nat.le_refl _)] at heq;simp only[zau] at heq;generalize zi4 D S sj=Q at *
      obtain⟨s2,T,e⟩:=Q;simp only[PipR] at HE;simp only at hso heq;have HEQ:=hid heq;have HSO:=hid hso;have HAL:=hid HI.out.len;obtain⟨Z,hZ⟩:∃Z:ByteArray,(⟨T.toArray⟩:ByteArray)=Z:=⟨_,rfl⟩
      obtain⟨A,hA⟩:∃A:ByteArray,(⟨acc.toArray⟩:ByteArray)=A:=⟨_,rfl⟩
      have hcat:(⟨(acc++T).toArray⟩:ByteArray)=A++Z:=by rw[← hA,← hZ];exact(zc8 acc T).symm
      have hsum:¬9223372036854775807<A.size+Z.size:=by
        rw[← hA,← hZ,zbd,zbd];have:=HI.out.len;omega
      have HCAT:=hid hcat;have HA:=hid hA;rw[hZ] at HE;clear heq hso hcat hA hZ;(go_wp2_with fail);refine HE.out.mono ?_;rintro r w2 ⟨rfl,F2,hp2,hs2⟩;have H2:=hid (HI.out.bd hs2);have HB:=hid (HK0.out.trans (hp2.bel.mono HK0.out.size));clear hp2 hs2 HE;(go_wp2_with fail);refine(zdb w1.heap.size w1.heap.size acc w2 H2.out.1.isB H2.out.2).mono ?_;rintro r w4 ⟨rfl,i4,b4,k4⟩;rw[HA.out];have HB4:=hid (HB.out.trans (b4.mono (Nat.le_trans HK0.out.size HI.out.sz.1)));clear i4 b4 k4;go_wp2;go_ret2;rw[HEQ.out];simp only[];rw[HCAT.out];exact⟨rfl,HB4.out⟩
theorem zi0 {pr:Bool→Nat→List UInt8} {w:World} (hP:PrintC w pr) (f t L:Int) (D S:Nat) (h:zbf f t D S L) (l:List UInt8) (hl:l.length≤425) :
  Calls Tryz.prog 15 #[suV f t D S L,.string ⟨l.toArray⟩] w fun r w'=>r= .returned (.tuple #[.string ⟨(zau D S (pp0 pr f t) l).1.toArray⟩,.int .i64 ((zau D S (pp0 pr f t) l).2:Nat)])∧Below w.heap.size w w' :=
 zps hP f t L D S h l (by omega) (zz3 (by have:=h.2.2.1;unfold inP3 at this;omega) (by have:=h.2.2.2.1;unfold inP3 at this;omega) (zy4 D S pr f t) (zakg hP.size f t) (by omega))
end
section
open Go.RowKit
open Go.Lib
def PrintX (w:World):Prop:=∃pr,PrintC w pr∧∀m,m<100→pr false m=zq0 (false,m)
theorem PrintX.up {w w':World} (h:PrintX w) (k:Below w.heap.size w w'):PrintX w':=by
 obtain⟨pr,hp,hs⟩:=h;exact⟨pr,hp.up k,hs⟩
end
section
open Go.RowKit Go.Sort
open Go.Lib
def nd0Z (u:Nat):Nat:=Lib.bitLen u*78913/262144
def ndZ (X:Nat→Nat) (u:Nat):Nat:=nd0Z u+if X (nd0Z u)≤u then 1 else 0
structure TabX (w:World) (X:Nat→Nat):Prop where
 lt:2<w.heap.size
 cell:∀i,i<20→X i<18446744073709551616∧w.cell? ⟨2,i,none⟩=some (.int .u64 (X i:Int))
theorem znm {W:World} (h:W.ShapedOpen Tryz.prog):∃X,TabX W X:=by
  obtain⟨cs,hh,hs,hr⟩:=h.1 2 (Array.replicate 20 (.int .u64 0)) 275 (of_decide_eq_true (by kernel_rfl)) (by kernel_rfl);obtain⟨ts,hts,_,hall⟩:=hr (by kernel_rfl);have e:Tryz.prog.cellTypes Tryz.prog.depth 275=some (List.replicate 20 41):=by kernel_rfl
  rw [e] at hts;obtain rfl:=Option.some.inj hts;have hs':cs.size=20:=hs.trans (by simp);have hc:∀i,i<20→∃x:Nat,x<18446744073709551616∧W.cell? ⟨2,i,none⟩=some (.int .u64 (x:Int)):=fun i hi=>by
    have hi':i<cs.size:=by omega
    obtain⟨u,hu,hok⟩:=hall i cs[i] (by simp[hi']);rw[List.length_replicate,Nat.mod_eq_of_lt hi,List.getElem?_replicate,if_pos hi] at hu;obtain rfl:=Option.some.inj hu;have hcell:W.cell? ⟨2,i,none⟩=some cs[i]:=by simp[World.cell?,hh,hi']
    rw[hcell];unfold Cell.ok at hok;rw[Tryz.underlying41] at hok;cases hv:cs[i] <;>rw[hv] at hok <;>simp at hok
    case int k' n =>
      obtain⟨hk,hn⟩:=hok;subst hk;have hb:0≤n∧n<18446744073709551616:=by unfold IntKind.has IntKind.min IntKind.max at hn;simp[IntKind.signed,IntKind.bits] at hn;omega
      refine⟨n.toNat,by omega,?_⟩;rw[show((n.toNat:Nat):Int)=n by omega]
  refine⟨fun i=>if h:i<20 then(hc i h).choose else 0,?_,fun i hi=> ?_⟩
  · rcases Nat.lt_or_ge 2 W.heap.size with h'|h'
    · exact h'
    · rw[Array.getElem?_eq_none h'] at hh;simp at hh
  · simp only[dif_pos hi]
    exact(hc i hi).choose_spec
theorem TabX.below {w w':World} {X:Nat→Nat} (h:TabX w X) (hb:Below w.heap.size w w'):TabX w' X :=
 ⟨Nat.lt_of_lt_of_le h.lt hb.size,fun i hi=>⟨(h.cell i hi).1,by
  have e:=hb.block _ h.lt;rw[←(h.cell i hi).2];simp only[World.cell?,e]⟩⟩
theorem zvf (x:Nat) (h:x≤64) (w:World):Calls Tryz.prog 249 #[.int .i64 x] w fun e w'=>e= .returned (.int .i64 ((x*78913/262144:Nat):Int))∧w'=w:=Any.internal_strconv_log10Pow2 {zqv with} x h w
theorem zw3 (b:Bool) (w:World):Calls Tryz.prog 250 #[.bool b] w fun e w'=>e= .returned (.int .i64 (if b then 1 else 0))∧w'=w:=Any.internal_strconv_bool2_int {zqv with} b w
theorem zzh (u:Nat) (h:u<18446744073709551616):nd0Z u≤19:=by
 have:=(zav u 64 h).2 h;unfold nd0Z;omega
theorem zaft (X:Nat→Nat) (u:Nat) (h:u<18446744073709551616):ndZ X u≤20:=by
 have:=zzh u h;unfold ndZ;split <;>omega
theorem zait:∀b:Fin 65,2^b.val≤10^(b.val*78913/262144+1):=by decide +kernel
theorem zakl (X:Nat→Nat) (u:Nat) (h:u<18446744073709551616):u<10^(ndZ X u+1):=by
 have h1:Lib.bitLen u≤64:=(zav u 64 h).2 h;have h2:u<2^Lib.bitLen u:=(zav u _ h).1 (Nat.le_refl _);have h3:=zait ⟨Lib.bitLen u,by omega⟩;have h4:10^(nd0Z u+1)≤10^(ndZ X u+1):=Nat.pow_le_pow_right (by decide) (by unfold ndZ;omega);exact Nat.lt_of_lt_of_le h2 (Nat.le_trans h3 h4)
theorem zad8 (u:Nat) (hu:u<18446744073709551616) (X:Nat→Nat) (w:World) (hT:TabX w X):Calls Tryz.prog 244 #[.int .u64 u] w fun e w'=>e= .returned (.int .i64 (ndZ X u))∧w'=w:=by
 have hL:Lib.bitLen u≤64:=(zav u 64 hu).2 hu;have h19:=zzh u hu;obtain⟨hx,hcell⟩:=hT.cell (nd0Z u) (by omega);have hq0:Lib.bitLen u*78913/262144=nd0Z u:=rfl;have hn:ndZ X u=nd0Z u+if X (nd0Z u)≤u then 1 else 0:=rfl
 generalize hq:nd0Z u=q at hn hcell h19 hx hq0;generalize hx':X q=x at hn hcell hx;clear hT;have HN:=hid hn;clear hn hx' hq;go_enter Tryz.func244,Tryz.ntmps244;(go_wp2_with fail);refine(zgd u hu _).mono ?_;rintro e w1 ⟨rfl,rfl⟩;(go_wp2_with fail);refine(zvf _ hL _).mono ?_;rintro e w1 ⟨rfl,rfl⟩;rw[hq0];(go_wp2_with fail);refine(zw3 _ _).mono ?_;rintro e w1 ⟨rfl,rfl⟩;go_wp2
 all_goals go_ret
 all_goals (
  refine⟨?_,rfl⟩;have hn:=HN.out;congr 2;split at hn <;>simp_all <;>omega)
def fmtX (X:Nat→Nat) (u:Nat):List UInt8:=if u<100 then decDigits u else fmtL (ndZ X u) u
theorem zhz (X:Nat→Nat) (u:Nat) (h:u<18446744073709551616):(fmtX X u).length≤20:=by
 unfold fmtX;split
 ·rw[decDigits_length];exact zgv u (by omega)
 ·rw[zlq];exact zaft X u h
theorem zakv (u:Nat) (hu:u<18446744073709551616) (X:Nat→Nat) (w:World) (hT:TabX w X) :
    Calls Tryz.prog 240 #[.int .u64 u,.int .i64 10] w fun e w'=>e= .returned (.string ⟨(fmtX X u).toArray⟩)∧Below w.heap.size w w':=by
  by_cases hs:(u:Int)<100
  · have hwr:IntKind.i64.wrap (u:Int)=(u:Int):=by have:=IntKind.wrap_i64 (u:Int);omega
    have e:fmtX X u=decDigits u:=if_pos (by omega);rw[e];go_enter Tryz.func240,Tryz.ntmps240
    go_wp2_with (go_at_call 243;refine(internal_strconv_small u (by omega) _).mono ?_;rintro e w' ⟨rfl,rfl⟩)
    go_ret;exact⟨rfl,Below.refl _ _⟩
  · have e0:fmtX X u=fmtL (ndZ X u) u:=if_neg (by omega)
    rw[e0];have hnd:ndZ X u≤20:=zaft X u hu;have hlt:=zakl X u hu;have HN:∀W,TabX W X→Calls Tryz.prog 244 #[.int .u64 u] W fun e w'=>e= .returned (.int .i64 (ndZ X u))∧w'=W:=fun W h=>zad8 u hu X W h
    generalize ndZ X u=n at hnd hlt HN;have hal:Tryz.prog.arrayLen 269=24:=by kernel_rfl
    have hsl:∀W,(Instr.sliceAt 269 (.pointer (some ⟨w.heap.size,0,none⟩)) none (some (.int .i64 (n:Int))) none).run Tryz.prog W= .ok (.slice (some ⟨w.heap.size,0,none⟩) n 24) W:=fun W=>by
      rw[run_sliceAt_array_h W 269 ⟨w.heap.size,0,none⟩ Tryz.underlying269 .i64 (n:Int) (by omega) (by rw[hal];omega)];go_simp
    have hH0:=zpa w 269 n (by omega);have hfmt:=zaau w.heap.size 0 24 u (Array.replicate n 0) (w.alloc (.cells Lib.zeros24 269)) hH0 (by rw[Array.size_replicate];exact hlt) hu (by rw[Array.size_replicate];omega);rw[Array.size_replicate] at hfmt;have HH0:=hid hH0;have HT:=hid (hT.below ((Below.refl w.heap.size w).alloc (Nat.le_refl _) (.cells Lib.zeros24 269)));have HN':=hid HN;have HF:=hid hfmt;clear hH0 hal hlt HN hfmt e0;go_enter Tryz.func240,Tryz.ntmps240;(go_wp2_with fail);refine(HN'.out _ HT.out).mono ?_;rintro e w' ⟨rfl,rfl⟩;(go_wp2_with fail);refine HF.out.mono ?_;rintro e w' ⟨rfl,k,dk,rfl,hds,hF⟩;have hcv:(convert 30 9 (.slice (some ⟨w.heap.size,0,none⟩) n 24)).run Tryz.prog ((putRow (fun(b:UInt8)=>Value.int .u8 (b.toNat:Int)) (w.alloc (.cells Lib.zeros24 269)) w.heap.size 0 dk).drewN k)= .ok (.string ⟨(fmtL n u).toArray⟩) ((putRow (fun(b:UInt8)=>Value.int .u8 (b.toNat:Int)) (w.alloc (.cells Lib.zeros24 269)) w.heap.size 0 dk).drewN k):=by
      have h:=run_convert_bytes_back (P:=Tryz.prog) ((putRow (fun(b:UInt8)=>Value.int .u8 (b.toNat:Int)) (w.alloc (.cells Lib.zeros24 269)) w.heap.size 0 dk).drewN k) 30 9 5 ⟨w.heap.size,0,none⟩ 24 (fmtL n u) Tryz.underlying30 Tryz.underlying5 Tryz.underlying9 (fun j hj=>by
        have hj':j<n:=by rw[zlq] at hj;exact hj
        have hl:(fmtL n u)[j]=dk[j]! := by
          rw[hF j hj'];simp[fmtL]
        rw[hl,Lib.add_plain,World.cell?_drewN];exact cell?_putRow (fun(b:UInt8)=>Value.int .u8 (b.toNat:Int)) _ w.heap.size 0 _ dk HH0.out (by rw[hds,Array.size_replicate]) j (by rw[hds];exact hj'))
      rw[zlq] at h;exact h
    have hB:=hid (zn7 w (.cells Lib.zeros24 269) dk k);go_wp2;go_ret;exact⟨rfl,hB.out⟩
theorem zhq (u:Nat) (hu:u<18446744073709551616) (X:Nat→Nat) (w:World) (hT:TabX w X) :
  Calls Tryz.prog 234 #[.int .u64 u,.int .i64 10] w fun e w'=>e= .returned (.string ⟨(fmtX X u).toArray⟩)∧Below w.heap.size w w':=by
 go_enter Tryz.func234,Tryz.ntmps234
 go_wp2_with (go_at_call 240;refine(zakv u hu X _ hT).mono ?_;rintro e w' ⟨rfl,hB⟩)
 go_ret;exact⟨rfl,hB⟩
theorem TabX.drewN {w:World} {X:Nat→Nat} (h:TabX w X) (q:Nat):TabX (w.drewN q) X:=⟨h.lt,h.cell⟩
def negX (X:Nat→Nat) (t o:Nat):List UInt8:=(if t=0 then [] else fmtX X t)++fmtX X o
theorem zsq (u:Nat) (hu:u<18446744073709551616) (w:World) (X:Nat→Nat) (hT:TabX w X) :
  Calls Tryz.prog 229 #[.agg #[.bool false,.int .u64 u]] w fun e w'=>e= .returned (.string ⟨(fmtX X u).toArray⟩)∧Below w.heap.size w w':=by
 have HT:=hid (hT.below ((Below.refl w.heap.size w).alloc (Nat.le_refl _) (.cells #[.bool false,.int .u64 u] 93)));have HB:=hid ((Below.refl w.heap.size w).alloc (Nat.le_refl _) (.cells #[.bool false,.int .u64 u] 93));go_enter Tryz.func229,Tryz.ntmps229
 go_wp2_with (go_at_call 234;refine(zhq u hu X _ HT.out).mono ?_;rintro e w' ⟨rfl,hB⟩)
 go_ret;exact⟨rfl,HB.out.trans (hB.mono (by simp))⟩
theorem zkr (u lo hi t o:Nat) (ht:t<18446744073709551616) (ho:o<10) (w:World) (X:Nat→Nat) (hT:TabX w X)
  (hA:∀W,(callFunc 147 #[.int .u64 u,.int .u64 1,.int .u64 0]).run Tryz.prog W= .ok (.value (.tuple #[.int .u64 lo,.int .u64 hi])) W)
  (hD:∀W,Calls Tryz.prog 235 #[.int .u64 hi,.int .u64 lo,.int .u64 10] W fun e w'=>e= .returned (.tuple #[.int .u64 t,.int .u64 o])∧∃q,w'=W.drewN q) :
  Calls Tryz.prog 229 #[.agg #[.bool true,.int .u64 u]] w fun e w'=>e= .returned (.string ⟨(45::negX X t o).toArray⟩)∧Below w.heap.size w w':=by
 have HT:=hid (hT.below ((Below.refl w.heap.size w).alloc (Nat.le_refl _) (.cells #[.bool true,.int .u64 u] 93)));have HB:=hid ((Below.refl w.heap.size w).alloc (Nat.le_refl _) (.cells #[.bool true,.int .u64 u] 93));have HA:=hid hA;clear hA;have ld:∀n,n<18446744073709551616→(⟨(fmtX X n).toArray⟩:ByteArray).size≤20:=fun n h=>by
  rw[zbd];exact zhz X n h
 obtain⟨Y,hY⟩:∃Y:ByteArray,Y=⟨(fmtX X o).toArray⟩:=⟨_,rfl⟩
 have hYs:Y.size≤20:=by rw[hY];exact ld o (by omega)
 by_cases h0:t=0
 ·have hn:negX X t o=fmtX X o:=by unfold negX;rw[if_pos h0];rfl
  rw[hn];subst h0;have hz:(((0:Nat):Int) !=0)=false:=rfl;have hr:(⟨#[45]⟩:ByteArray)++Y=⟨(45::fmtX X o).toArray⟩:=by rw[hY];exact zc8 [45] _
  have HR:=hid hr;have HY:=hid hY;clear hr hY hn ld;go_enter Tryz.func229,Tryz.ntmps229
  go_wp2_with (simp only[HA.out])
  refine(hD _).mono ?_;rintro e w1 ⟨rfl,q,rfl⟩;(go_wp2_with fail);refine(zhq o (by omega) X _ (HT.out.drewN q)).mono ?_;rintro e w2 ⟨rfl,hB⟩;rw[← HY.out];have HB2:=hid ((zr1 HB.out q).trans ((hB.mono (by simp)):Below w.heap.size _ w2));clear hB;go_wp2;go_ret;exact⟨congrArg (fun s=>Ending.returned (Value.string s)) HR.out,HB2.out⟩
 ·have hn:negX X t o=fmtX X t++fmtX X o:=by unfold negX;rw[if_neg h0]
  rw[hn];have hz:((t:Int) !=0)=true:=by simp;omega
  obtain⟨XB,hX⟩:∃XB:ByteArray,XB=⟨(fmtX X t).toArray⟩:=⟨_,rfl⟩
  have hXs:XB.size≤20:=by rw[hX];exact ld t ht
  have hr:(⟨#[45]⟩:ByteArray)++XB++Y=⟨(45::(fmtX X t++fmtX X o)).toArray⟩:=by
   rw[hX,hY,show(⟨#[45]⟩:ByteArray)=⟨[45].toArray⟩ from rfl,zc8,zc8];rfl
  have hs:((⟨#[45]⟩:ByteArray)++XB).size≤21:=by
   rw[ByteArray.size_append];show 1+XB.size≤21;omega
  obtain⟨Z,hZ⟩:∃Z:ByteArray,(⟨#[45]⟩:ByteArray)++XB=Z:=⟨_,rfl⟩
  rw[hZ] at hr hs;have HR:=hid hr;have HX:=hid hX;have HY:=hid hY;have HZ:=hid hZ;clear hr hX hY hZ hn ld;go_enter Tryz.func229,Tryz.ntmps229
  go_wp2_with (simp only[HA.out])
  refine(hD _).mono ?_;rintro e w1 ⟨rfl,q,rfl⟩;(go_wp2_with fail);refine(zhq t ht X _ (HT.out.drewN q)).mono ?_;rintro e w2 ⟨rfl,hB⟩;rw[← HX.out];have HT2:=hid (TabX.below (w:=((w.alloc (.cells #[.bool true,.int .u64 u] 93)).drewN q)) (HT.out.drewN q) hB);have HB2:=hid ((zr1 HB.out q).trans ((hB.mono (by simp)):Below w.heap.size _ w2));clear hB;(go_wp2_with fail);refine(zhq o (by omega) X _ HT2.out).mono ?_;rintro e w3 ⟨rfl,hB⟩;rw[← HY.out];have HB3:=hid (HB2.out.trans (hB.mono HB2.out.size));clear hB;have hZ:=HZ.out;go_wp2;go_ret;exact⟨congrArg (fun s=>Ending.returned (Value.string s)) HR.out,HB3.out⟩
def prX (X:Nat→Nat) (m:Bool) (u:Nat):List UInt8:=if u<18446744073709551616 then(if m=true then 45::negX X ((u+1)/10) ((u+1)%10) else fmtX X u) else []
theorem zva (m:Bool) (u:Nat) (hu:u<18446744073709551616) (X:Nat→Nat) (w:World) (hT:TabX w X) :
    Calls Tryz.prog 229 #[.agg #[.bool m,.int .u64 u]] w fun e w'=>e= .returned (.string ⟨(prX X m u).toArray⟩)∧Below w.heap.size w w':=by
  unfold prX;rw[if_pos hu];cases m with
  | false=>exact zsq u hu w X hT
  | true =>
    rw[if_pos rfl];by_cases hm:u=18446744073709551615
    · subst hm
      refine zkr 18446744073709551615 0 1 ((18446744073709551615+1)/10) ((18446744073709551615+1)%10) (by decide) (by decide) w X hT (fun W=>zio 18446744073709551615 1 0 (by decide) W) fun W=> ?_
      refine(zahy W).mono ?_;rintro e w' ⟨rfl,rfl⟩;exact⟨rfl,0,rfl⟩
    · refine zkr u (u+1) 0 ((u+1)/10) ((u+1)%10) (by omega) (by omega) w X hT (fun W=> ?_) fun W=>zxv (u+1) (by omega) W
      have h:=zio u 1 0 (by decide) W;rw[show(u+1+0)%18446744073709551616=u+1 by omega,show(u+1+0)/18446744073709551616=0 by omega] at h;exact h
theorem zdx {W:World} (h:W.ShapedOpen Tryz.prog):PrintX W:=by
  obtain⟨X,hX⟩:=znm h;refine⟨prX X,⟨fun y m hm w hw=>zva y m hm X w (hX.below hw),fun y m=> ?_⟩,fun m hm=> ?_⟩
  · unfold prX
    split
    · rename_i hu
      split
      · unfold negX
        have h1:=zhz X ((m+1)/10) (by omega);have h2:=zhz X ((m+1)%10) (by omega);split <;>simp only[List.length_cons,List.length_append,List.length_nil] <;>omega
      · have:=zhz X m hu
        omega
    · simp
  · have e:prX X false m=fmtX X m:=(if_pos (by omega)).trans (if_neg (by simp))
    rw[e];exact if_pos hm
end
end Go.Proofs.YtpaciekgbhoncaaGreat
