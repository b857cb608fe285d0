/-
  Parts: PipD, PipE, PipF, PipG, PipH.
-/
import Derived.Test.YtpaciekgbhoncaaGreatG2a
import Derived.Handy
import Derived.Stop.Asserts
import Derived.Test.YtpaciekgbhoncaaGreatG0n
import Derived.Deep.RegionWith
set_option maxRecDepth 100000
set_option maxHeartbeats 16000000
open Go.Lib (hid)
namespace Go.Proofs.YtpaciekgbhoncaaGreat
section
open Go.RowKit
open Go.Lib
structure TurnI (w0 w wr:World) (bo lim n:Nat) (SV WV u:Value) (FS FW FS' FW':List Nat) (g:Option Gs) (q:Ws) (L:List Ev) (told:Nat) (R:(List UInt8×Nat)×(Option Gs×Ws)) (j:Nat) (gj:Option Gs) (qj:Ws) (acc:List UInt8):Prop where
 gs:GtAt wr lim SV FS' gj
 ws:WtAt w0 wr WV FW' qj
 bld:IsB w.heap.size bo acc wr
 lst:Win wr 20 1 u n (L.map valE)
 fr:Pf w.heap.size (FS++FW) (FS'++FW') w wr
 eq:R=((acc++(za3 lim gj qj (L.drop j) told).1.1,(za3 lim gj qj (L.drop j) told).1.2),(za3 lim gj qj (L.drop j) told).2)
 len:acc.length≤100001*900*j
 dep:zdp gj+dpW qj≤zdp g+dpW q+j
 ok:OkOG lim gj
 sz:w.heap.size≤wr.heap.size
 ap:∀k∈FS',k∉FW'
 low:∀k∈FS',w0.heap.size≤k
theorem zip (lim:Nat) (g:Option Gs) (q:Ws) (e:Ev) (L:List Ev) (t:Nat):za3 lim g q (e::L) t=if(zbu lim g q e).1.2≠0 then zbu lim g q e else(((zbu lim g q e).1.1++(za3 lim (zbu lim g q e).2.1 (zbu lim g q e).2.2 L t).1.1,(za3 lim (zbu lim g q e).2.1 (zbu lim g q e).2.2 L t).1.2),(za3 lim (zbu lim g q e).2.1 (zbu lim g q e).2.2 L t).2):=rfl
theorem TurnI.pass {w0 w wr w2:World} {bo lim n:Nat} {SV WV u:Value} {FS FW FS' FW' FS2 FW2:List Nat} {g gj g2:Option Gs} {q qj q2:Ws} {L:List Ev} {told:Nat} {R:(List UInt8×Nat)×(Option Gs×Ws)} {j:Nat} {acc T:List UInt8}
  (h:TurnI w0 w wr bo lim n SV WV u FS FW FS' FW' g q L told R j gj qj acc) (hlim:lim≤2000) (hj:j<L.length) (he:TolE L[j]) (hd:zdp gj+dpW qj≤880) (hw:w0.heap.size≤w.heap.size) (huS:∀k∈Value.owner u,k<w.heap.size∧k∉FS++FW)
  (hq:zbu lim gj qj L[j]=((T,0),(g2,q2))) (h1:GtAt w2 lim SV FS2 g2) (h2:WtAt w0 w2 WV FW2 q2) (h3:IsB w.heap.size bo (acc++T) w2) (h4:Pf w.heap.size (FS'++FW') (FS2++FW2) wr w2) (h5:∀k∈FS2,k∉FW2) (h6:w.heap.size≤w2.heap.size) :
  TurnI w0 w w2 bo lim n SV WV u FS FW FS2 FW2 g q L told R (j+1) g2 q2 (acc++T):=by
 obtain⟨d1,d2,d3⟩:=zk5 hlim h.ok qj he;have d4:=(d3 h.ws.prW).1;rw[hq] at d1 d2 d4;simp only at d1 d2 d4;have hne:∀k∈Value.owner u,k∉FS'++FW':=fun k hk hm=>(h.fr.foot k hm).elim (huS k hk).2 (fun hb=>by have:=(huS k hk).1;omega)
 refine⟨h1,h2,h3,h.lst.keep fun k hk=>h4.block k (huS k hk).1 (hne k hk),h.fr.trans h4,?_,?_,by have:=h.dep;omega,d1,h6,h5,fun k hk=> ?_⟩
 ·have:=h.eq
  rw[zfc hj,zip] at this;simp only[hq] at this;rw[this];simp
 ·have:=h.len
  rw[List.length_append];have:100001*(zdp gj+1)≤100001*900:=Nat.mul_le_mul_left _ (by omega);omega
 ·rcases h4.foot k (by simp[hk]) with hk|hk
  ·rcases List.mem_append.1 hk with hk|hk
   ·exact h.low k hk
   ·exact h.ws.low k hk
  ·omega
def zp4 (w0 w w':World) (lim:Nat) (SV WV:Value) (FS FW:List Nat) (q:(List UInt8×Nat)×(Option Gs×Ws)) (r:Ending):Prop :=
 r= .returned (.tuple #[.string ⟨q.1.1.toArray⟩,.int .i64 (q.1.2:Nat)])∧∃FS' FW',GtAt w' lim SV FS' q.2.1∧WtAt w0 w' WV FW' q.2.2∧Step (FS++FW) (FS'++FW') w w'∧(∀k∈FS',k∉FW')
theorem zq5 {w0 w w2 w3:World} {bo lim:Nat} {SV WV:Value} {FS FW FS2 FW2:List Nat} {g2:Option Gs} {q2:Ws} {acc:List UInt8} (h1:GtAt w2 lim SV FS2 g2) (h2:WtAt w0 w2 WV FW2 q2) (h3:IsB w.heap.size bo acc w2) (h4:Pf w.heap.size (FS++FW) (FS2++FW2) w w2) (h5:∀k∈FS2,k∉FW2)
  (hw:w0.heap.size≤w.heap.size) (b3:Below w.heap.size w2 w3) (k3:Lib.OthersKept 5 (some bo) w2 w3):GtAt w3 lim SV FS2 g2∧WtAt w0 w3 WV FW2 q2∧Step (FS++FW) (FS2++FW2) w w3∧(∀k∈FS2,k∉FW2):=by
 have hO:=zrk h3 k3;exact⟨h1.kept hO (by decide),h2.kept hO (by decide) (h2.bel.trans (b3.mono hw)),(h4.trans (zlg b3 _)).step,h5⟩
theorem ze1 {w0 w:World} {pb lim e0 told:Nat} {RV SV WV u:Value} {FS FW:List Nat} {g:Option Gs} {q:Ws} {L:List Ev} (h:Blk w pb (pipC e0 RV SV WV) 80) (hG:GtAt w lim SV FS g) (hW:WtAt w0 w WV FW q)
    (hap:∀k∈FS,k∉FW) (hpb:pb∉FS∧pb∉FW) (hSl:∀k∈FS,w0.heap.size≤k) (hok:OkOG lim g) (hlim:lim≤2000) (hdep:zdp g+dpW q+L.length≤880) (hL:∀e∈L,TolE e) (hU:Win w 20 1 u L.length (L.map valE)) (hUo:∀k∈Value.owner u,k∉FS++FW) :
    Calls Tryz.prog 44 #[.pointer (some ⟨pb,0,none⟩),u,.int .i64 (told:Nat)] w fun r w'=>zp4 w0 w w' lim SV WV FS FW (za3 lim g q L told) r:=by
  obtain⟨n,hn⟩:∃n,L.length=n:=⟨_,rfl⟩
  obtain⟨R,hR⟩:∃R,za3 lim g q L told=R:=⟨_,rfl⟩
  obtain⟨A,cp,rfl,_,_⟩:=hU.slice_form;have hw0:w0.heap.size≤w.heap.size:=hW.bel.size;have hlt:pb<w.heap.size:=h.lt;have HNN:=hid hn;have HR:=hid hR;have HTOL:=hid hL;have HLIM:=hid hlim;have HUO:Hid (∀k∈Value.owner (.slice A L.length cp),k<w.heap.size∧k∉FS++FW):=hid (fun k hk=>⟨hU.lt k hk,hUo k hk⟩);have HNB:Hid (n+(zdp g+dpW q)≤880∧w0.heap.size≤w.heap.size∧pb<w.heap.size∧pb∉FS++FW):=hid ⟨by omega,hw0,hlt,by simp[hpb]⟩;have hn1:n≤880:=by omega
  have k1:Below w.heap.size w (w.alloc (.cells #[.pointer none,.slice none 0 0] 59)):=zaa (Below.refl _ _) _;have H0:Hid (TurnI w0 w (w.alloc (.cells #[.pointer none,.slice none 0 0] 59)) w.heap.size lim n SV WV (.slice A L.length cp) FS FW FS FW g q L told R 0 g q []):=hid ⟨hG.go k1,hW.go k1,zaif _ _ _ (Nat.le_refl _) (heap_alloc_new w _),by rw[← hn];exact hU.keep fun i hi=>k1.block i (hU.lt i hi),zlg k1 _,by rw[List.drop_zero,hR];simp,by simp,by omega,hok,k1.size,hap,hSl⟩;have HBK:Hid (∀(wr:World) (F2:List Nat),Pf w.heap.size (FS++FW) F2 w wr→Blk wr pb (pipC e0 RV SV WV) 80∧pb∉F2):=hid (fun wr F2 hf=>⟨(hf.block pb hlt (by simp[hpb])).trans h,fun hk=>(hf.foot pb hk).elim (by simp[hpb]) (fun hb=>by omega)⟩);rw[hR];rw[hn] at H0 HUO ⊢;clear h hG hW hap hpb hSl hok hlim hdep hL hU hUo hR hn hw0 hlt k1;go_enter Tryz.func44,Tryz.ntmps44;go_wp2
  go_loopw [10,11,14] (fun _ _ i wr=>∃(j:Nat) (gj:Option Gs) (qj:Ws) (F1 F2:List Nat) (acc:List UInt8),i= .int .i64 j∧j≤n∧Hid (TurnI w0 w wr w.heap.size lim n SV WV (.slice A n cp) FS FW F1 F2 g q L told R j gj qj acc)) (fun _ _ i _=>n-(RowKit.intOf i).toNat)
  case atStart=>exact⟨0,_,_,_,_,_,rfl,by omega,H0⟩
  case round =>
    obtain⟨j,gj,qj,F1,F2,acc,rfl,hj,HI⟩:=hrel;clear H0;by_cases hlt:j<n
    · have hjl:j<L.length:=by rw[HNN.out];exact hlt
      have hTe:=HTOL.out _ (List.getElem_mem hjl);have hdj:zdp gj+dpW qj≤880:=by have:=HI.out.dep;have:=HNB.out.1;omega
      obtain⟨hbk,hpn⟩:=HBK.out wr _ HI.out.fr;obtain⟨gg,off,c',hv,x0⟩:=HI.out.lst.elem j (valE L[j]) (by simp[hjl]);simp only[Value.slice.injEq] at hv;obtain⟨rfl,hv2,rfl⟩:=hv;clear hv2;have HP:=hid (zt8 hbk HI.out.gs HI.out.ws HI.out.ap ⟨HNB.out.2.2.1,fun hk=>hpn (by simp[hk]),fun hk=>hpn (by simp[hk])⟩ HI.out.low HI.out.ok HLIM.out hdj (by have:=HI.out.len;omega) HI.out.bld ⟨HI.out.sz,HNB.out.2.1⟩ hTe);generalize hQ:zbu lim gj qj L[j]=Q at HP;obtain⟨⟨T,e1⟩,⟨g2,q2⟩⟩:=Q;simp only[zyc] at HP;generalize hVV:valE L[j]=V at *
      have HQ:=hid (And.intro hQ (And.intro hTe (And.intro hdj hjl)));by_cases h0:e1=0
      · subst h0
        clear hQ hTe hdj hVV hbk hpn;(go_wp2_with fail);refine HP.out.mono ?_;rintro r w2 ⟨rfl,FS2,FW2,p1,p2,p3,p4,p5,p6⟩;have H2:=hid (HI.out.pass HLIM.out HQ.out.2.2.2 HQ.out.2.1 HQ.out.2.2.1 HNB.out.2.1 HUO.out HQ.out.1 p1 p2 p3 p4 p5 p6);clear p1 p2 p3 p4 p5 p6;go_wp2
        go_roundw
        case rel=>exact⟨j+1,_,_,_,_,_,rfl,hlt,H2⟩
        case measure=>simp[RowKit.intOf];omega
      · have hne:((e1:Int) !=0)=true:=by rw[bne_iff_ne];omega
        have hRR:R=((acc++T,e1),(g2,q2)):=by
          have:=HI.out.eq;rw[zfc hjl,zip] at this;simp only[hQ] at this;rw[if_pos h0] at this;exact this
        have HRR:=hid hRR;clear hQ hTe hdj hVV hRR h0 hbk hpn;(go_wp2_with fail);refine HP.out.mono ?_;rintro r w2 ⟨rfl,FS2,FW2,p1,p2,p3,p4,p5,p6⟩;have H2:=hid (And.intro p1 (And.intro p2 (And.intro p3 (And.intro (HI.out.fr.trans p4) (And.intro p5 p6)))));clear p1 p2 p3 p4 p5 p6;(go_wp2_with fail);refine(zdb w.heap.size w.heap.size (acc++T) w2 H2.out.2.2.1 H2.out.2.2.2.2.2).mono ?_;rintro r w3 ⟨rfl,i3,b3,k3⟩;have HF:Hid (zp4 w0 w w3 lim SV WV FS FW R (.returned (.tuple #[.string ⟨(acc++T).toArray⟩,.int .i64 (e1:Nat)]))):=hid (by
          rw[HRR.out];exact⟨rfl,FS2,FW2,zq5 H2.out.1 H2.out.2.1 H2.out.2.2.1 H2.out.2.2.2.1 H2.out.2.2.2.2.1 HNB.out.2.1 b3 k3⟩)
        clear i3 b3 k3;go_wp2;go_ret2;exact HF.out
    · obtain rfl:j=n:=by omega
      have hRR:R=((acc,told),(gj,qj)):=by
        have hq:=HI.out.eq;rw[List.drop_of_length_le (by rw[HNN.out];exact Nat.le_refl _)] at hq;simpa [za3] using hq
      have HRR:=hid hRR;clear hRR;(go_wp2_with fail);refine(zdb w.heap.size w.heap.size acc wr HI.out.bld HI.out.sz).mono ?_;rintro r w3 ⟨rfl,i3,b3,k3⟩;have HF:Hid (zp4 w0 w w3 lim SV WV FS FW R (.returned (.tuple #[.string ⟨acc.toArray⟩,.int .i64 (told:Nat)]))):=hid (by
        rw[HRR.out];exact⟨rfl,F1,F2,zq5 HI.out.gs HI.out.ws HI.out.bld HI.out.fr HI.out.ap HNB.out.2.1 b3 k3⟩)
      clear i3 b3 k3;go_wp2;go_ret2;exact HF.out
end
section
open Go.RowKit
open Go.Lib
def PipR (w0 w w':World) (pb D lim:Nat) (F:List Nat) (q:Pp×(List UInt8×Nat)) (r:Ending):Prop :=
 r= .returned (.tuple #[.string ⟨q.2.1.toArray⟩,.int .i64 (q.2.2:Nat)])∧∃F',PipAt w0 w' pb D lim F' q.1∧Step F F' w w'
theorem Blk.four {w:World} {pb:Nat} {a0 a1 a2 a3 b0 b1 b2 b3:Value} {t:TypeId} (h:Blk w pb #[a0,a1,a2,a3] t):Blk ((((w.setCell ⟨pb,0,none⟩ b0).setCell ⟨pb,1,none⟩ b1).setCell ⟨pb,2,none⟩ b2).setCell ⟨pb,3,none⟩ b3) pb #[b0,b1,b2,b3] t:=by
 have:=(((h.set 0 b0).set 1 b1).set 2 b2).set 3 b3;simpa using this
theorem zlc {w0 w w1:World} {pb D lim:Nat} {RV SV WV u:Value} {FR FS FW FR':List Nat} {r':Rs} {g:Option Gs} {q:Ws} {L:List Ev} (h1:Blk w pb (pipC 0 RV SV WV) 80) (h3:GtAt w lim SV FS g) (h4:WtAt w0 w WV FW q) (_hl:∀k∈FR,k<w.heap.size)
  (h5:w0.heap.size≤pb) (h6:∀k∈FR++(FS++FW),w0.heap.size≤k∧k≠pb) (h7:∀k∈FR,k∉FS++FW) (hv:Vls w w1 u L) (hr:RdAt w1 D RV FR' r') (hs:Step FR FR' w w1) :
  Blk w1 pb (pipC 0 RV SV WV) 80∧GtAt w1 lim SV FS g∧WtAt w0 w1 WV FW q∧(∀k∈Value.owner u,k∉FS++FW)∧(∀k∈FR',k∉FS++FW∧k≠pb∧w0.heap.size≤k∧k<w1.heap.size):=by
 have hlt:pb<w.heap.size:=h1.lt;have hpF:pb∉FR:=fun hk=>(h6 pb (by simp[hk])).2 rfl
 have hGW:∀k∈FS++FW,k<w.heap.size:=fun k hk=>(List.mem_append.1 hk).elim (h3.lt k) (h4.lt k)
 have hne:∀k∈FS++FW,k∉FR:=fun k hk hm=>h7 k hm hk
 have hbel:Below w0.heap.size w w1:=⟨hs.os,hs.tape,hs.output,hs.size,fun k hk=>hs.block k (by have:=h4.bel.size;omega) (fun hm=>by have:=(h6 k (by simp[hm])).1;omega)⟩
 refine⟨(hs.block pb hlt hpF).trans h1,h3.keep fun k hk=>hs.block k (h3.lt k hk) (hne k (by simp[hk])),h4.keep (fun k hk=>hs.block k (h4.lt k hk) (hne k (by simp[hk]))) (h4.bel.trans hbel),fun k hk hm=> ?_,fun k hk=> ?_⟩
 ·have:=hv.new k hk
  have:=hGW k hm;omega
 ·have hlt1:=hr.lt k hk
  rcases hs.foot k hk with h|h
  ·exact⟨h7 k h,(h6 k (by simp[h])).2,(h6 k (by simp[h])).1,hlt1⟩
  ·have:=h4.bel.size
   exact⟨fun hm=>by have:=hGW k hm;omega,by omega,by omega,hlt1⟩
theorem zmq {FR FR' G G':List Nat} {w w1 w2:World} (pb:Nat) (h:Step FR FR' w w1) (k:Step G G' w1 w2):Step (pb::(FR++G)) (pb::(FR'++G')) w w2 :=
 ⟨k.os.trans h.os,k.tape.trans h.tape,k.output.trans h.output,Nat.le_trans h.size k.size,fun i hi hn=>(k.block i (Nat.lt_of_lt_of_le hi h.size) (fun hg=>hn (by simp[hg]))).trans (h.block i hi (fun hf=>hn (by simp[hf]))),fun i hi=>by
  rcases List.mem_cons.1 hi with rfl|hi
  ·exact .inl (by simp)
  ·rcases List.mem_append.1 hi with hi|hi
   ·exact(h.foot i hi).imp (fun hf=>by simp[hf]) id
   ·exact(k.foot i hi).imp (fun hg=>by simp[hg]) (fun hs=>Nat.le_trans h.size hs)⟩
theorem zho {F F2:List Nat} {w w2:World} {pb:Nat} {v0 v1 v2 v3:Value} (h:Step F F2 w w2) (hp:pb∈F):Step F [pb] w ((((w2.setCell ⟨pb,0,none⟩ v0).setCell ⟨pb,1,none⟩ v1).setCell ⟨pb,2,none⟩ v2).setCell ⟨pb,3,none⟩ v3):=by
 have hf:∀k,k≠pb→((((w2.setCell ⟨pb,0,none⟩ v0).setCell ⟨pb,1,none⟩ v1).setCell ⟨pb,2,none⟩ v2).setCell ⟨pb,3,none⟩ v3).heap[k]? = w2.heap[k]? := fun k hk=>by
  rw[Below.heap_setCell _ _ _ k hk,Below.heap_setCell _ _ _ k hk,Below.heap_setCell _ _ _ k hk,Below.heap_setCell _ _ _ k hk]
 exact⟨h.os,h.tape,h.output,by have:=h.size;simpa [World.setCell] using this,fun k hk hn=>(hf k (fun e=>hn (e▸hp))).trans (h.block k hk hn),fun k hk=> .inl (by simp only[List.mem_singleton] at hk;exact hk▸hp)⟩
theorem zi9 {w0 w w1 w2:World} {pb D lim:Nat} {RV SV WV:Value} {FR FS FW FR' FS' FW':List Nat} {r':Rs} {g':Option Gs} {q':Ws} (m1:Blk w1 pb (pipC 0 RV SV WV) 80) (hr:RdAt w1 D RV FR' r') (h5:w0.heap.size≤pb)
    (h6:∀k∈FS++FW,w0.heap.size≤k∧k≠pb) (m5:∀k∈FR',k∉FS++FW∧k≠pb∧w0.heap.size≤k∧k<w1.heap.size) (hw:Below w0.heap.size w0 w1) (t1:GtAt w2 lim SV FS' g') (t2:WtAt w0 w2 WV FW' q') (t3:Step (FS++FW) (FS'++FW') w1 w2) (t4:∀k∈FS',k∉FW') (hs:Step FR FR' w w1) :
    PipAt w0 w2 pb D lim (pb::(FR'++(FS'++FW'))) (.live r' g' q')∧Blk w2 pb (pipC 0 RV SV WV) 80∧Step (pb::(FR++(FS++FW))) (pb::(FR'++(FS'++FW'))) w w2:=by
  have hlt:pb<w1.heap.size:=m1.lt;have hpn:pb∉FS++FW:=fun hk=>(h6 pb hk).2 rfl
  have hb2:Blk w2 pb (pipC 0 RV SV WV) 80:=(t3.block pb hlt hpn).trans m1;refine⟨⟨RV,SV,WV,FR',FS',FW',hb2,hr.keep fun k hk=>t3.block k (m5 k hk).2.2.2 (m5 k hk).1,t1,t2,h5,fun k hk=> ?_,fun k hk hm=> ?_,t4,t2.bel,rfl⟩,hb2,zmq pb hs t3⟩
  · rcases List.mem_append.1 hk with hk|hk
    · exact⟨(m5 k hk).2.2.1,(m5 k hk).2.1⟩
    · rcases t3.foot k hk with h|h
      · exact h6 k h
      · have:=hw.size
        omega
  · rcases t3.foot k hm with h|h
    · exact(m5 k hk).1 h
    · have:=(m5 k hk).2.2.2
      omega
theorem zmd {w0 w2:World} {pb D lim e:Nat} {RV SV WV:Value} (h:Blk w2 pb (pipC 0 RV SV WV) 80) (h5:w0.heap.size≤pb) (hb:Below w0.heap.size w0 w2) :
  PipAt w0 ((((w2.setCell ⟨pb,0,none⟩ (.int .i64 (e:Nat))).setCell ⟨pb,1,none⟩ .nilIface).setCell ⟨pb,2,none⟩ (.pointer none)).setCell ⟨pb,3,none⟩ .nilIface) pb D lim [pb] (.over e) :=
 ⟨h.four,h5,((((hb.setCell h5 _).setCell h5 _).setCell h5 _).setCell h5 _),rfl⟩
theorem zov {w0 w:World} {pb D lim e:Nat} {F:List Nat} (h:PipAt w0 w pb D lim F (.over e)) (y:UInt8) :
  Calls Tryz.prog 27 #[.pointer (some ⟨pb,0,none⟩),.int .u8 y.toNat] w fun r w'=>PipR w0 w w' pb D lim F (zay D lim (.over e) y) r:=by
 have HH:=hid (zjy h.1);have HF:Hid (PipR w0 w w pb D lim F (zay D lim (.over e) y) (.returned (.tuple #[.string ⟨#[]⟩,.int .i64 (zhj e:Nat)]))):=hid ⟨rfl,F,h,Step.refl _ _⟩;have hne:((zhj e:Int) !=0)=true:=by
  rw[bne_iff_ne];unfold zhj;split <;>omega
 generalize zhj e=E at *
 clear h;go_enter Tryz.func27,Tryz.ntmps27;(go_wp2_with fail);refine HH.out.mono ?_;rintro r w1 ⟨rfl,rfl⟩;go_wp2;go_ret2;exact HF.out
theorem zyq {w0 w:World} {pb D lim M:Nat} {s:Js} {F:List Nat} {g:Option Gs} {q:Ws} (h:PipAt w0 w pb D lim F (.live (.js s) g q)) (hw:WfPp D lim M (.live (.js s) g q)) (hM:M≤430) (hD:1≤D∧D≤16) (hlim:lim≤2000) (y:UInt8) :
  Calls Tryz.prog 27 #[.pointer (some ⟨pb,0,none⟩),.int .u8 y.toNat] w fun r w'=>PipR w0 w w' pb D lim F (zay D lim (.live (.js s) g q) y) r:=by
 obtain⟨RV,SV,WV,FR,FS,FW,h1,h2,h3,h4,h5,h6,h7,h8,h9,rfl⟩:=h;have hlF:=h2.lt;obtain⟨t1,t2,t3⟩:=zh6 hD.2 hw.1 y;have hokg:=hw.2.1;have hpot:=hw.2.2;obtain⟨b,rfl,rfl,h2⟩:=h2;have HH:=hid (ze5 h1);have HR:=hid (zalh h2 y);have c1:=h1.cell 1;simp only[pipC] at c1;have hst:zay D lim (.live (.js s) g q) y=if(za3 lim g q (zaf D (.js s) y).2 (zbz (zaf D (.js s) y).1)).1.2≠0 then(.over (za3 lim g q (zaf D (.js s) y).2 (zbz (zaf D (.js s) y).1)).1.2,(za3 lim g q (zaf D (.js s) y).2 (zbz (zaf D (.js s) y).1)).1)
   else(.live (zaf D (.js s) y).1 (za3 lim g q (zaf D (.js s) y).2 (zbz (zaf D (.js s) y).1)).2.1 (za3 lim g q (zaf D (.js s) y).2 (zbz (zaf D (.js s) y).1)).2.2,(za3 lim g q (zaf D (.js s) y).2 (zbz (zaf D (.js s) y).1)).1):=rfl
 generalize zay D lim (.live (.js s) g q) y=ST at *
 generalize zaf D (.js s) y=R at *
 obtain⟨r',L⟩:=R;simp only at t2 t3 hst;simp only[zkx] at HR;have HK:Hid (∀u w1 F1,Vls w w1 u L→RdAt w1 D _ F1 r'→Step _ F1 w w1→_):=hid (fun u w1 F1 hv hr hs=>zlc h1 h3 h4 hlF h5 h6 h7 hv hr hs);have HT:Hid (∀u w1,Blk w1 pb (pipC 0 (.iface 94 (.pointer (some ⟨b,0,none⟩))) SV WV) 80→GtAt w1 lim SV FS g→WtAt w0 w1 WV FW q→Win w1 20 1 u L.length (L.map valE)→(∀k∈Value.owner u,k∉FS++FW)→_):=hid (fun u w1 a b c d f=>ze1 (told:=zbz r') a b c h8 ⟨fun hk=>(h6 pb (by simp[hk])).2 rfl,fun hk=>(h6 pb (by simp[hk])).2 rfl⟩ (fun k hk=>(h6 k (by simp[hk])).1) hokg hlim (by omega) (fun e he=>zh7 (t2 e he)) d f);have H9:=hid (And.intro h5 (And.intro h6 h9));generalize za3 lim g q L (zbz r')=T at *
 obtain⟨⟨X,e⟩,g',q'⟩:=T;simp only[zp4] at HT hst;clear t1 t2 t3 hw hM hD hlim hokg hpot h1 h2 h3 h4 h5 h6 h7 h8 h9 hlF;go_enter Tryz.func27,Tryz.ntmps27;(go_wp2_with fail);refine HH.out.mono ?_;rintro r w1 ⟨rfl,rfl⟩;(go_wp2_with fail);refine HR.out.mono ?_;rintro r w1 ⟨u,F1,rfl,hv,hr,hs⟩;obtain⟨m1,m2,m3,m4,m5⟩:=HK.out u w1 F1 hv hr hs;have HT1:=hid (HT.out u w1 m1 m2 m3 hv.win m4);have HM:=hid (And.intro m1 (And.intro hr (And.intro m5 (And.intro m3.bel hs))));clear HK HT HR HH hv hr hs m1 m2 m3 m4 m5;(go_wp2_with fail);refine HT1.out.mono ?_;rintro r w2 ⟨rfl,FS',FW',p1,p2,p3,p4⟩;have HL:=hid (zi9 HM.out.1 HM.out.2.1 H9.out.1 (fun k hk=>H9.out.2.1 k (by simp[List.mem_append.1 hk])) HM.out.2.2.1 HM.out.2.2.2.1 p1 p2 p3 p4 HM.out.2.2.2.2);have HB2:=hid p2.bel;clear p1 p2 p3 p4 HT1;by_cases h0:e=0
 ·subst h0
  rw[if_neg (by simp)] at hst;have HF:Hid (PipR w0 w w2 pb D lim _ ST (.returned (.tuple #[.string ⟨X.toArray⟩,.int .i64 0]))):=hid (by rw[hst];exact⟨rfl,_,HL.out.1,HL.out.2.2⟩);clear hst;go_wp2;go_ret2;exact HF.out
 ·rw[if_pos h0] at hst
  have hne:((e:Int) !=0)=true:=by rw[bne_iff_ne];omega
  have HO:=hid (zmd (D:=D) (lim:=lim) (e:=e) HL.out.2.1 H9.out.1 HB2.out);have HF:Hid (PipR w0 w _ pb D lim _ ST (.returned (.tuple #[.string ⟨X.toArray⟩,.int .i64 (e:Nat)]))):=hid (by rw[hst];exact⟨rfl,_,HO.out,zho HL.out.2.2 (by simp)⟩);have k0:=(HL.out.2.1.cell 0)
  have k1:=(HL.out.2.1.cell 1)
  have k2:=(HL.out.2.1.cell 2)
  have k3:=(HL.out.2.1.cell 3)
  simp only[pipC] at k0 k1 k2 k3;have f0:=HL.out.2.1.froz 0;have f1:=HL.out.2.1.froz 1;have f2:=HL.out.2.1.froz 2;have f3:=HL.out.2.1.froz 3;clear hst h0;go_wp2;go_ret2;exact HF.out
theorem zzs {w0 w:World} {pb D lim M:Nat} {s:Ci} {F:List Nat} {g:Option Gs} {q:Ws} (h:PipAt w0 w pb D lim F (.live (.cb s) g q)) (hw:WfPp D lim M (.live (.cb s) g q)) (hM:M≤430) (hD:1≤D∧D≤16) (hlim:lim≤2000) (y:UInt8) :
  Calls Tryz.prog 27 #[.pointer (some ⟨pb,0,none⟩),.int .u8 y.toNat] w fun r w'=>PipR w0 w w' pb D lim F (zay D lim (.live (.cb s) g q) y) r:=by
 obtain⟨RV,SV,WV,FR,FS,FW,h1,h2,h3,h4,h5,h6,h7,h8,h9,rfl⟩:=h;have hlF:=h2.lt;obtain⟨t1,t2,t3⟩:=zh6 hD.2 hw.1 y;have hokg:=hw.2.1;have hpot:=hw.2.2;obtain⟨b,vt,vs,rfl,rfl,h2⟩:=h2;have HH:=hid (ze5 h1);have HR:=hid (zak3 hD h2 hw.1.1 (by omega) y);have c1:=h1.cell 1;simp only[pipC] at c1;have hst:zay D lim (.live (.cb s) g q) y=if(za3 lim g q (zaf D (.cb s) y).2 (zbz (zaf D (.cb s) y).1)).1.2≠0 then(.over (za3 lim g q (zaf D (.cb s) y).2 (zbz (zaf D (.cb s) y).1)).1.2,(za3 lim g q (zaf D (.cb s) y).2 (zbz (zaf D (.cb s) y).1)).1)
   else(.live (zaf D (.cb s) y).1 (za3 lim g q (zaf D (.cb s) y).2 (zbz (zaf D (.cb s) y).1)).2.1 (za3 lim g q (zaf D (.cb s) y).2 (zbz (zaf D (.cb s) y).1)).2.2,(za3 lim g q (zaf D (.cb s) y).2 (zbz (zaf D (.cb s) y).1)).1):=rfl
 generalize zay D lim (.live (.cb s) g q) y=ST at *
 generalize zaf D (.cb s) y=R at *
 obtain⟨r',L⟩:=R;simp only at t2 t3 hst;simp only[zkx] at HR;have HK:Hid (∀u w1 F1,Vls w w1 u L→RdAt w1 D _ F1 r'→Step _ F1 w w1→_):=hid (fun u w1 F1 hv hr hs=>zlc h1 h3 h4 hlF h5 h6 h7 hv hr hs);have HT:Hid (∀u w1,Blk w1 pb (pipC 0 (.iface 96 (.pointer (some ⟨b,0,none⟩))) SV WV) 80→GtAt w1 lim SV FS g→WtAt w0 w1 WV FW q→Win w1 20 1 u L.length (L.map valE)→(∀k∈Value.owner u,k∉FS++FW)→_):=hid (fun u w1 a b c d f=>ze1 (told:=zbz r') a b c h8 ⟨fun hk=>(h6 pb (by simp[hk])).2 rfl,fun hk=>(h6 pb (by simp[hk])).2 rfl⟩ (fun k hk=>(h6 k (by simp[hk])).1) hokg hlim (by omega) (fun e he=>zh7 (t2 e he)) d f);have H9:=hid (And.intro h5 (And.intro h6 h9));generalize za3 lim g q L (zbz r')=T at *
 obtain⟨⟨X,e⟩,g',q'⟩:=T;simp only[zp4] at HT hst;clear t1 t2 t3 hw hM hD hlim hokg hpot h1 h2 h3 h4 h5 h6 h7 h8 h9 hlF;go_enter Tryz.func27,Tryz.ntmps27;(go_wp2_with fail);refine HH.out.mono ?_;rintro r w1 ⟨rfl,rfl⟩;(go_wp2_with fail);refine HR.out.mono ?_;rintro r w1 ⟨u,F1,rfl,hv,hr,hs⟩;obtain⟨m1,m2,m3,m4,m5⟩:=HK.out u w1 F1 hv hr hs;have HT1:=hid (HT.out u w1 m1 m2 m3 hv.win m4);have HM:=hid (And.intro m1 (And.intro hr (And.intro m5 (And.intro m3.bel hs))));clear HK HT HR HH hv hr hs m1 m2 m3 m4 m5;(go_wp2_with fail);refine HT1.out.mono ?_;rintro r w2 ⟨rfl,FS',FW',p1,p2,p3,p4⟩;have HL:=hid (zi9 HM.out.1 HM.out.2.1 H9.out.1 (fun k hk=>H9.out.2.1 k (by simp[List.mem_append.1 hk])) HM.out.2.2.1 HM.out.2.2.2.1 p1 p2 p3 p4 HM.out.2.2.2.2);have HB2:=hid p2.bel;clear p1 p2 p3 p4 HT1;by_cases h0:e=0
 ·subst h0
  rw[if_neg (by simp)] at hst;have HF:Hid (PipR w0 w w2 pb D lim _ ST (.returned (.tuple #[.string ⟨X.toArray⟩,.int .i64 0]))):=hid (by rw[hst];exact⟨rfl,_,HL.out.1,HL.out.2.2⟩);clear hst;go_wp2;go_ret2;exact HF.out
 ·rw[if_pos h0] at hst
  have hne:((e:Int) !=0)=true:=by rw[bne_iff_ne];omega
  have HO:=hid (zmd (D:=D) (lim:=lim) (e:=e) HL.out.2.1 H9.out.1 HB2.out);have HF:Hid (PipR w0 w _ pb D lim _ ST (.returned (.tuple #[.string ⟨X.toArray⟩,.int .i64 (e:Nat)]))):=hid (by rw[hst];exact⟨rfl,_,HO.out,zho HL.out.2.2 (by simp)⟩);have k0:=(HL.out.2.1.cell 0)
  have k1:=(HL.out.2.1.cell 1)
  have k2:=(HL.out.2.1.cell 2)
  have k3:=(HL.out.2.1.cell 3)
  simp only[pipC] at k0 k1 k2 k3;have f0:=HL.out.2.1.froz 0;have f1:=HL.out.2.1.froz 1;have f2:=HL.out.2.1.froz 2;have f3:=HL.out.2.1.froz 3;clear hst h0;go_wp2;go_ret2;exact HF.out
theorem zaaj {w0 w:World} {pb D lim M:Nat} {s:Pm} {F:List Nat} {g:Option Gs} {q:Ws} (h:PipAt w0 w pb D lim F (.live (.pk s) g q)) (hw:WfPp D lim M (.live (.pk s) g q)) (hM:M≤430) (hD:1≤D∧D≤16) (hlim:lim≤2000) (y:UInt8) :
  Calls Tryz.prog 27 #[.pointer (some ⟨pb,0,none⟩),.int .u8 y.toNat] w fun r w'=>PipR w0 w w' pb D lim F (zay D lim (.live (.pk s) g q) y) r:=by
 obtain⟨RV,SV,WV,FR,FS,FW,h1,h2,h3,h4,h5,h6,h7,h8,h9,rfl⟩:=h;have hlF:=h2.lt;obtain⟨t1,t2,t3⟩:=zh6 hD.2 hw.1 y;have hokg:=hw.2.1;have hpot:=hw.2.2;obtain⟨b,vt,vs,rfl,rfl,h2⟩:=h2;have HH:=hid (ze5 h1);have HR:=hid (zalb hD h2 hw.1 y);have c1:=h1.cell 1;simp only[pipC] at c1;have hst:zay D lim (.live (.pk s) g q) y=if(za3 lim g q (zaf D (.pk s) y).2 (zbz (zaf D (.pk s) y).1)).1.2≠0 then(.over (za3 lim g q (zaf D (.pk s) y).2 (zbz (zaf D (.pk s) y).1)).1.2,(za3 lim g q (zaf D (.pk s) y).2 (zbz (zaf D (.pk s) y).1)).1)
   else(.live (zaf D (.pk s) y).1 (za3 lim g q (zaf D (.pk s) y).2 (zbz (zaf D (.pk s) y).1)).2.1 (za3 lim g q (zaf D (.pk s) y).2 (zbz (zaf D (.pk s) y).1)).2.2,(za3 lim g q (zaf D (.pk s) y).2 (zbz (zaf D (.pk s) y).1)).1):=rfl
 generalize zay D lim (.live (.pk s) g q) y=ST at *
 generalize zaf D (.pk s) y=R at *
 obtain⟨r',L⟩:=R;simp only at t2 t3 hst;simp only[zkx] at HR;have HK:Hid (∀u w1 F1,Vls w w1 u L→RdAt w1 D _ F1 r'→Step _ F1 w w1→_):=hid (fun u w1 F1 hv hr hs=>zlc h1 h3 h4 hlF h5 h6 h7 hv hr hs);have HT:Hid (∀u w1,Blk w1 pb (pipC 0 (.iface 98 (.pointer (some ⟨b,0,none⟩))) SV WV) 80→GtAt w1 lim SV FS g→WtAt w0 w1 WV FW q→Win w1 20 1 u L.length (L.map valE)→(∀k∈Value.owner u,k∉FS++FW)→_):=hid (fun u w1 a b c d f=>ze1 (told:=zbz r') a b c h8 ⟨fun hk=>(h6 pb (by simp[hk])).2 rfl,fun hk=>(h6 pb (by simp[hk])).2 rfl⟩ (fun k hk=>(h6 k (by simp[hk])).1) hokg hlim (by omega) (fun e he=>zh7 (t2 e he)) d f);have H9:=hid (And.intro h5 (And.intro h6 h9));generalize za3 lim g q L (zbz r')=T at *
 obtain⟨⟨X,e⟩,g',q'⟩:=T;simp only[zp4] at HT hst;clear t1 t2 t3 hw hM hD hlim hokg hpot h1 h2 h3 h4 h5 h6 h7 h8 h9 hlF;go_enter Tryz.func27,Tryz.ntmps27;(go_wp2_with fail);refine HH.out.mono ?_;rintro r w1 ⟨rfl,rfl⟩;(go_wp2_with fail);refine HR.out.mono ?_;rintro r w1 ⟨u,F1,rfl,hv,hr,hs⟩;obtain⟨m1,m2,m3,m4,m5⟩:=HK.out u w1 F1 hv hr hs;have HT1:=hid (HT.out u w1 m1 m2 m3 hv.win m4);have HM:=hid (And.intro m1 (And.intro hr (And.intro m5 (And.intro m3.bel hs))));clear HK HT HR HH hv hr hs m1 m2 m3 m4 m5;(go_wp2_with fail);refine HT1.out.mono ?_;rintro r w2 ⟨rfl,FS',FW',p1,p2,p3,p4⟩;have HL:=hid (zi9 HM.out.1 HM.out.2.1 H9.out.1 (fun k hk=>H9.out.2.1 k (by simp[List.mem_append.1 hk])) HM.out.2.2.1 HM.out.2.2.2.1 p1 p2 p3 p4 HM.out.2.2.2.2);have HB2:=hid p2.bel;clear p1 p2 p3 p4 HT1;by_cases h0:e=0
 ·subst h0
  rw[if_neg (by simp)] at hst;have HF:Hid (PipR w0 w w2 pb D lim _ ST (.returned (.tuple #[.string ⟨X.toArray⟩,.int .i64 0]))):=hid (by rw[hst];exact⟨rfl,_,HL.out.1,HL.out.2.2⟩);clear hst;go_wp2;go_ret2;exact HF.out
 ·rw[if_pos h0] at hst
  have hne:((e:Int) !=0)=true:=by rw[bne_iff_ne];omega
  have HO:=hid (zmd (D:=D) (lim:=lim) (e:=e) HL.out.2.1 H9.out.1 HB2.out);have HF:Hid (PipR w0 w _ pb D lim _ ST (.returned (.tuple #[.string ⟨X.toArray⟩,.int .i64 (e:Nat)]))):=hid (by rw[hst];exact⟨rfl,_,HO.out,zho HL.out.2.2 (by simp)⟩);have k0:=(HL.out.2.1.cell 0)
  have k1:=(HL.out.2.1.cell 1)
  have k2:=(HL.out.2.1.cell 2)
  have k3:=(HL.out.2.1.cell 3)
  simp only[pipC] at k0 k1 k2 k3;have f0:=HL.out.2.1.froz 0;have f1:=HL.out.2.1.froz 1;have f2:=HL.out.2.1.froz 2;have f3:=HL.out.2.1.froz 3;clear hst h0;go_wp2;go_ret2;exact HF.out
end
section
open Go.RowKit
open Go.Lib
def EndS (w w':World) (F:List Nat) (q:List Ev×Nat) (r:Ending):Prop :=
 ∃u F',r= .returned (.tuple #[u,.int .i64 (q.2:Nat)])∧Vls w w' u q.1∧Step F F' w w'
theorem zwe (v:Value) (W:World):(Instr.typeAssert (.iface 94 v) 73 123 true).run Tryz.prog W= .ok (.tuple #[.iface 94 v,.bool true]) W:=run_typeAssert_hasB Tryz.underlying123 (by kernel_rfl) v _ W
theorem zyh (v:Value) (W:World):(Instr.typeAssert (.iface 96 v) 73 123 true).run Tryz.prog W= .ok (.tuple #[.nilIface,.bool false]) W:=run_typeAssert_lacksB Tryz.underlying123 (by kernel_rfl) (by kernel_rfl) v _ W
theorem zadr (v:Value) (W:World):(Instr.typeAssert (.iface 96 v) 73 127 true).run Tryz.prog W= .ok (.tuple #[.iface 96 v,.bool true]) W:=run_typeAssert_hasB Tryz.underlying127 (by kernel_rfl) v _ W
theorem zwr (v:Value) (W:World):(Instr.typeAssert (.iface 98 v) 73 123 true).run Tryz.prog W= .ok (.tuple #[.nilIface,.bool false]) W:=run_typeAssert_lacksB Tryz.underlying123 (by kernel_rfl) (by kernel_rfl) v _ W
theorem zabn (v:Value) (W:World):(Instr.typeAssert (.iface 98 v) 73 127 true).run Tryz.prog W= .ok (.tuple #[.iface 98 v,.bool true]) W:=run_typeAssert_hasB Tryz.underlying127 (by kernel_rfl) v _ W
theorem zach {w:World} {b D:Nat} {s:Js} (h:PAt w b 0 D s):Calls Tryz.prog 46 #[.iface 94 (.pointer (some ⟨b,0,none⟩))] w fun r w'=>EndS w w' [b] (zcz D (.js s)) r:=by
 have HE:=hid (zahp h);have a1:=zwe;simp only[zcz];generalize endJ D s=Q at *
 clear h;go_enter Tryz.func46,Tryz.ntmps46;(go_wp2_with fail);refine HE.out.mono ?_;rintro r w1 ⟨⟨u,rfl,hv⟩,hs⟩;have HF:Hid (EndS w w1 [b] Q (.returned (.tuple #[u,.int .i64 (Q.2:Nat)]))):=hid ⟨u,[b],rfl,hv,hs.step⟩;clear hv hs;go_wp2;go_ret2;exact HF.out
theorem zabv {w:World} {b D M:Nat} {s:Ci} {vt vs:Value} (hD:1≤D) (h:StP w b 0 D s vt vs) (hw:WfK D M s):Calls Tryz.prog 46 #[.iface 96 (.pointer (some ⟨b,0,none⟩))] w fun r w'=>EndS w w' (b::(Value.owner vt++Value.owner vs)) (zcz D (.cb s)) r:=by
 have HE:=hid (zahq hD h hw);have a1:=zyh;have a2:=zadr;simp only[zcz];generalize zl8 s=Q at *
 clear h hw hD;go_enter Tryz.func46,Tryz.ntmps46;(go_wp2_with fail);refine HE.out.mono ?_;rintro r w1 ⟨rfl,rfl⟩;have HF:Hid (EndS w w (b::(Value.owner vt++Value.owner vs)) ([],Q) (.returned (.tuple #[.slice none 0 0,.int .i64 (Q:Nat)]))):=hid ⟨_,_,rfl,Vls.nil_ _ _,Step.refl _ _⟩;go_wp2;go_ret2;exact HF.out
theorem zad4 {w:World} {b D:Nat} {s:Pm} {vt vs:Value} (hD:1≤D) (h:StPm w b 0 D s vt vs) (hw:WfPm D s):Calls Tryz.prog 46 #[.iface 98 (.pointer (some ⟨b,0,none⟩))] w fun r w'=>EndS w w' (b::(Value.owner vt++Value.owner vs)) (zcz D (.pk s)) r:=by
 have HE:=hid (zag0 hD h hw);have a1:=zwr;have a2:=zabn;simp only[zcz];generalize ztq s=Q at *
 clear h hw hD;go_enter Tryz.func46,Tryz.ntmps46;(go_wp2_with fail);refine HE.out.mono ?_;rintro r w1 ⟨rfl,rfl⟩;have HF:Hid (EndS w w (b::(Value.owner vt++Value.owner vs)) ([],Q) (.returned (.tuple #[.slice none 0 0,.int .i64 (Q:Nat)]))):=hid ⟨_,_,rfl,Vls.nil_ _ _,Step.refl _ _⟩;go_wp2;go_ret2;exact HF.out
theorem zxy {w:World} {D M:Nat} {V:Value} {F:List Nat} {r0:Rs} (h:RdAt w D V F r0) (hD:1≤D) (hw:WfRs D M r0):Calls Tryz.prog 46 #[V] w fun r w'=>EndS w w' F (zcz D r0) r:=by
  cases r0 with
  | js s =>
    obtain⟨b,rfl,rfl,h⟩:=h;exact zach h
  | cb s =>
    obtain⟨b,vt,vs,rfl,rfl,h⟩:=h;exact zabv hD h hw.1
  | pk s =>
    obtain⟨b,vt,vs,rfl,rfl,h⟩:=h;exact zad4 hD h hw
theorem zahm {w0 w w1:World} {pb lim:Nat} {RV SV WV u:Value} {FR FS FW F':List Nat} {g:Option Gs} {q:Ws} {L:List Ev} (h1:Blk w pb (pipC 0 RV SV WV) 80) (h3:GtAt w lim SV FS g) (h4:WtAt w0 w WV FW q)
  (h6:∀k∈FR++(FS++FW),w0.heap.size≤k∧k≠pb) (h7:∀k∈FR,k∉FS++FW) (hv:Vls w w1 u L) (hs:Step FR F' w w1) :
  Blk w1 pb (pipC 0 RV SV WV) 80∧GtAt w1 lim SV FS g∧WtAt w0 w1 WV FW q∧(∀k∈Value.owner u,k∉FS++FW):=by
 have hlt:pb<w.heap.size:=h1.lt;have hpF:pb∉FR:=fun hk=>(h6 pb (by simp[hk])).2 rfl
 have hGW:∀k∈FS++FW,k<w.heap.size:=fun k hk=>(List.mem_append.1 hk).elim (h3.lt k) (h4.lt k)
 have hne:∀k∈FS++FW,k∉FR:=fun k hk hm=>h7 k hm hk
 have hbel:Below w0.heap.size w w1:=⟨hs.os,hs.tape,hs.output,hs.size,fun k hk=>hs.block k (by have:=h4.bel.size;omega) (fun hm=>by have:=(h6 k (by simp[hm])).1;omega)⟩
 refine⟨(hs.block pb hlt hpF).trans h1,h3.keep fun k hk=>hs.block k (h3.lt k hk) (hne k (by simp[hk])),h4.keep (fun k hk=>hs.block k (h4.lt k hk) (hne k (by simp[hk]))) (h4.bel.trans hbel),fun k hk hm=> ?_⟩;have:=hv.new k hk;have:=hGW k hm;omega
theorem zu0 {w0 w:World} {pb D lim e:Nat} {F:List Nat} (h:PipAt w0 w pb D lim F (.over e)) :
  Calls Tryz.prog 30 #[.pointer (some ⟨pb,0,none⟩)] w fun r w'=>PipR w0 w w' pb D lim F (zi4 D lim (.over e)) r:=by
 have HH:=hid (zjy h.1);have HF:Hid (PipR w0 w w pb D lim F (zi4 D lim (.over e)) (.returned (.tuple #[.string ⟨#[]⟩,.int .i64 (zhj e:Nat)]))):=hid ⟨rfl,F,h,Step.refl _ _⟩;have hne:((zhj e:Int) !=0)=true:=by
  rw[bne_iff_ne];unfold zhj;split <;>omega
 generalize zhj e=E at *
 clear h;go_enter Tryz.func30,Tryz.ntmps30;(go_wp2_with fail);refine HH.out.mono ?_;rintro r w1 ⟨rfl,rfl⟩;go_wp2;go_ret2;exact HF.out
theorem zs2 {w0 w:World} {pb D lim M:Nat} {F:List Nat} {r0:Rs} {g:Option Gs} {q:Ws} (h:PipAt w0 w pb D lim F (.live r0 g q)) (hw:WfPp D lim M (.live r0 g q)) (hM:M≤430) (hD:1≤D∧D≤16) (hlim:lim≤2000) :
  Calls Tryz.prog 30 #[.pointer (some ⟨pb,0,none⟩)] w fun r w'=>PipR w0 w w' pb D lim F (zi4 D lim (.live r0 g q)) r:=by
 obtain⟨RV,SV,WV,FR,FS,FW,h1,h2,h3,h4,h5,h6,h7,h8,h9,rfl⟩:=h;obtain⟨t2,t3⟩:=zic D r0;have hokg:=hw.2.1;have hpot:=hw.2.2;have HR:=hid (zxy h2 hD.1 hw.1);obtain⟨d,b,rfl⟩:=h2.form;have HH:=hid (ze5 h1);have c1:=h1.cell 1;simp only[pipC] at c1;have hst:zi4 D lim (.live r0 g q)=(.over (za3 lim g q (zcz D r0).1 (zcz D r0).2).1.2,(za3 lim g q (zcz D r0).1 (zcz D r0).2).1):=rfl;generalize zi4 D lim (.live r0 g q)=ST at *
 generalize zcz D r0=R at *
 obtain⟨L,er⟩:=R;simp only at t2 t3 hst;simp only[EndS] at HR;have HK:Hid (∀u w1 F1,Vls w w1 u L→Step FR F1 w w1→_):=hid (fun u w1 F1 hv hs=>zahm h1 h3 h4 h6 h7 hv hs);have HT:Hid (∀u w1,Blk w1 pb (pipC 0 (.iface d (.pointer (some ⟨b,0,none⟩))) SV WV) 80→GtAt w1 lim SV FS g→WtAt w0 w1 WV FW q→Win w1 20 1 u L.length (L.map valE)→(∀k∈Value.owner u,k∉FS++FW)→_):=hid (fun u w1 a b c d f=>ze1 (told:=er) a b c h8 ⟨fun hk=>(h6 pb (by simp[hk])).2 rfl,fun hk=>(h6 pb (by simp[hk])).2 rfl⟩ (fun k hk=>(h6 k (by simp[hk])).1) hokg hlim (by omega) (fun e he=>zh7 (t2 e he)) d f);have H9:Hid (w0.heap.size≤pb∧pb∉FS++FW):=hid ⟨h5,fun hk=>(h6 pb (List.mem_append_right _ hk)).2 rfl⟩;generalize za3 lim g q L er=T at *
 obtain⟨⟨X,e⟩,g',q'⟩:=T;simp only[zp4] at HT hst;clear t2 t3 hw hM hD hlim hokg hpot h1 h2 h3 h4 h5 h6 h7 h8 h9;go_enter Tryz.func30,Tryz.ntmps30;(go_wp2_with fail);refine HH.out.mono ?_;rintro r w1 ⟨rfl,rfl⟩;(go_wp2_with fail);refine HR.out.mono ?_;rintro r w1 ⟨u,F1,rfl,hv,hs⟩;obtain⟨m1,m2,m3,m4⟩:=HK.out u w1 F1 hv hs;have HT1:=hid (HT.out u w1 m1 m2 m3 hv.win m4);have HM:=hid (And.intro m1 hs);clear HK HT HR HH hv hs m1 m2 m3 m4;(go_wp2_with fail);refine HT1.out.mono ?_;rintro r w2 ⟨rfl,FS',FW',p1,p2,p3,p4⟩;have hB2:Blk w2 pb (pipC 0 (.iface d (.pointer (some ⟨b,0,none⟩))) SV WV) 80:=(p3.block pb HM.out.1.lt H9.out.2).trans HM.out.1;have HL:=hid hB2;have HST:=hid (zmq pb HM.out.2 p3);have HB2:=hid p2.bel;clear p1 p2 p3 p4 HT1 hB2;have HO:=hid (zmd (D:=D) (lim:=lim) (e:=e) HL.out H9.out.1 HB2.out);have HF:Hid (PipR w0 w _ pb D lim _ ST (.returned (.tuple #[.string ⟨X.toArray⟩,.int .i64 (e:Nat)]))):=hid (by rw[hst];exact⟨rfl,_,HO.out,zho HST.out (by simp)⟩);have k0:=(HL.out.cell 0)
 have k1:=(HL.out.cell 1)
 have k2:=(HL.out.cell 2)
 have k3:=(HL.out.cell 3)
 simp only[pipC] at k0 k1 k2 k3;have f0:=HL.out.froz 0;have f1:=HL.out.froz 1;have f2:=HL.out.froz 2;have f3:=HL.out.froz 3;clear hst;go_wp2;go_ret2;exact HF.out
theorem zsi {w0 w:World} {pb D lim M:Nat} {F:List Nat} {s:Pp} (h:PipAt w0 w pb D lim F s) (hw:WfPp D lim M s) (hM:M≤430) (hD:1≤D∧D≤16) (hlim:lim≤2000) (y:UInt8) :
    Calls Tryz.prog 27 #[.pointer (some ⟨pb,0,none⟩),.int .u8 y.toNat] w fun r w'=>PipR w0 w w' pb D lim F (zay D lim s y) r:=by
  cases s with
  | over e=>exact zov h y
  | live r g q =>
    cases r with
    | js s=>exact zyq h hw hM hD hlim y
    | cb s=>exact zzs h hw hM hD hlim y
    | pk s=>exact zaaj h hw hM hD hlim y
theorem zyd {w0 w:World} {pb D lim M:Nat} {F:List Nat} {s:Pp} (h:PipAt w0 w pb D lim F s) (hw:WfPp D lim M s) (hM:M≤430) (hD:1≤D∧D≤16) (hlim:lim≤2000) :
  Calls Tryz.prog 30 #[.pointer (some ⟨pb,0,none⟩)] w fun r w'=>PipR w0 w w' pb D lim F (zi4 D lim s) r:=by
 cases s with
 | over e=>exact zu0 h
 | live r g q=>exact zs2 h hw hM hD hlim
end
section
open Go.RowKit
open Go.Lib
theorem zaa2 (t S L:Int) (D:Nat) (hD:1≤D∧D≤16) (w:World):Calls Tryz.prog 39 #[suV 1 t D S L] w fun r w'=>∃V F,r= .returned V∧RdAt w' D V F (rs0 1)∧Below w.heap.size w w'∧(∀k∈F,w.heap.size≤k):=by
 have HB:=hid (zaa (Below.refl w.heap.size w) (.cells #[.int .i64 1,.int .i64 t,.int .i64 (D:Int),.int .i64 S,.int .i64 L] 23));have HN:=hid (fun W=>zafg D hD W);unfold suV;clear hD;go_enter Tryz.func39,Tryz.ntmps39;(go_wp2_with fail);refine(HN.out _).mono ?_;rintro r w1 ⟨rfl,hp,hb⟩;have HF:Hid (∃F,RdAt w1 D (.iface 94 (.pointer (some ⟨w.heap.size+1,0,none⟩))) F (rs0 1)∧Below w.heap.size w w1∧(∀k∈F,w.heap.size≤k)):=hid (by
  have hp2:PAt w1 (w.heap.size+1) 0 D j0:=by simpa using hp
  exact⟨_,⟨_,rfl,rfl,hp2⟩,zab HB.out hb,fun k hk=>by simp at hk;omega⟩)
 clear hp hb HN HB;go_wp2;go_ret;obtain⟨F,h1,h2,h3⟩:=HF.out;exact⟨.iface 94 (.pointer (some ⟨w.heap.size+1,0,none⟩)),F,rfl,h1,h2,h3⟩
theorem zaal (t S L:Int) (D:Nat) (hD:1≤D∧D≤16) (w:World):Calls Tryz.prog 39 #[suV 2 t D S L] w fun r w'=>∃V F,r= .returned V∧RdAt w' D V F (rs0 2)∧Below w.heap.size w w'∧(∀k∈F,w.heap.size≤k):=by
 have HB:=hid (zaa (Below.refl w.heap.size w) (.cells #[.int .i64 2,.int .i64 t,.int .i64 (D:Int),.int .i64 S,.int .i64 L] 23));have HN:=hid (fun W=>zac2 D hD W);unfold suV;clear hD;go_enter Tryz.func39,Tryz.ntmps39;(go_wp2_with fail);refine(HN.out _).mono ?_;rintro r w1 ⟨rfl,hp,hb⟩;have HF:Hid (∃F,RdAt w1 D (.iface 96 (.pointer (some ⟨w.heap.size+1,0,none⟩))) F (rs0 2)∧Below w.heap.size w w1∧(∀k∈F,w.heap.size≤k)):=hid (by
  have hp2:StP w1 (w.heap.size+1) 0 D ci0 (.slice none 0 0) (.slice none 0 0):=by simpa using hp
  exact⟨_,⟨_,_,_,rfl,rfl,hp2⟩,zab HB.out hb,fun k hk=>by simp[Value.owner] at hk;omega⟩)
 clear hp hb HN HB;go_wp2;go_ret;obtain⟨F,h1,h2,h3⟩:=HF.out;exact⟨.iface 96 (.pointer (some ⟨w.heap.size+1,0,none⟩)),F,rfl,h1,h2,h3⟩
theorem zxr (t S L:Int) (D:Nat) (hD:1≤D∧D≤16) (w:World):Calls Tryz.prog 39 #[suV 3 t D S L] w fun r w'=>∃V F,r= .returned V∧RdAt w' D V F (rs0 3)∧Below w.heap.size w w'∧(∀k∈F,w.heap.size≤k):=by
 have HB:=hid (zaa (Below.refl w.heap.size w) (.cells #[.int .i64 3,.int .i64 t,.int .i64 (D:Int),.int .i64 S,.int .i64 L] 23));have HN:=hid (fun W=>zabm D hD W);unfold suV;clear hD;go_enter Tryz.func39,Tryz.ntmps39;(go_wp2_with fail);refine(HN.out _).mono ?_;rintro r w1 ⟨rfl,hp,hb⟩;have HF:Hid (∃F,RdAt w1 D (.iface 98 (.pointer (some ⟨w.heap.size+1,0,none⟩))) F (rs0 3)∧Below w.heap.size w w1∧(∀k∈F,w.heap.size≤k)):=hid (by
  have hp2:StPm w1 (w.heap.size+1) 0 D pm0 (.slice none 0 0) (.slice none 0 0):=by simpa using hp
  exact⟨_,⟨_,_,_,rfl,rfl,hp2⟩,zab HB.out hb,fun k hk=>by simp[Value.owner] at hk;omega⟩)
 clear hp hb HN HB;go_wp2;go_ret;obtain⟨F,h1,h2,h3⟩:=HF.out;exact⟨.iface 98 (.pointer (some ⟨w.heap.size+1,0,none⟩)),F,rfl,h1,h2,h3⟩
theorem zu4 (f t S L:Int) (D:Nat) (hf:fmtP f) (hD:1≤D∧D≤16) (w:World):Calls Tryz.prog 39 #[suV f t D S L] w fun r w'=>∃V F,r= .returned V∧RdAt w' D V F (rs0 f)∧Below w.heap.size w w'∧(∀k∈F,w.heap.size≤k):=by
 rcases hf with rfl|rfl|rfl
 ·exact zaa2 t S L D hD w
 ·exact zaal t S L D hD w
 ·exact zxr t S L D hD w
theorem zze {pr:Bool→Nat→List UInt8} {w0:World} (hP:PrintC w0 pr) (f S L D:Int) (w:World) (hw:Below w0.heap.size w0 w):Calls Tryz.prog 40 #[suV f 1 D S L] w fun r w'=>∃V F,r= .returned V∧WtAt w0 w' V F (ws0 pr 1)∧Below w.heap.size w w'∧(∀k∈F,w.heap.size≤k):=by
 have k1:=zaa (Below.refl w.heap.size w) (.cells #[.int .i64 f,.int .i64 1,.int .i64 D,.int .i64 S,.int .i64 L] 23);have HW:Hid (JW w0 ((w.alloc (.cells #[.int .i64 f,.int .i64 1,.int .i64 D,.int .i64 S,.int .i64 L] 23)).alloc (.cells #[.int .i64 0,.slice none 0 0] 103)) (w.heap.size+1) [] ⟨[],false⟩):=hid (by
  have:=zaj1 w0 (w.alloc (.cells #[.int .i64 f,.int .i64 1,.int .i64 D,.int .i64 S,.int .i64 L] 23)) (hw.trans (k1.mono hw.size));simpa using this)
 have HB:=hid (zaa k1 (.cells #[.int .i64 0,.slice none 0 0] 103));have HP:=hid hP;unfold suV;clear hw k1;go_enter Tryz.func40,Tryz.ntmps40;go_wp2;go_ret;refine⟨_,_,rfl,⟨_,_,rfl,rfl,HW.out,hP⟩,HB.out,fun k hk=> ?_⟩;simp only[List.mem_singleton] at hk;omega
theorem zwn {pr:Bool→Nat→List UInt8} {w0:World} (hP:PrintC w0 pr) (f S L D:Int) (w:World) (hw:Below w0.heap.size w0 w):Calls Tryz.prog 40 #[suV f 2 D S L] w fun r w'=>∃V F,r= .returned V∧WtAt w0 w' V F (ws0 pr 2)∧Below w.heap.size w w'∧(∀k∈F,w.heap.size≤k):=by
 have k1:=zaa (Below.refl w.heap.size w) (.cells #[.int .i64 f,.int .i64 2,.int .i64 D,.int .i64 S,.int .i64 L] 23);have HW:Hid (QW w0 ((w.alloc (.cells #[.int .i64 f,.int .i64 2,.int .i64 D,.int .i64 S,.int .i64 L] 23)).alloc (.cells #[.slice none 0 0,.bool false] 108)) (w.heap.size+1) [] ⟨[],false⟩):=hid (by
  have:=zajs w0 (w.alloc (.cells #[.int .i64 f,.int .i64 2,.int .i64 D,.int .i64 S,.int .i64 L] 23)) (hw.trans (k1.mono hw.size));simpa using this)
 have HB:=hid (zaa k1 (.cells #[.slice none 0 0,.bool false] 108));have HP:=hid hP;unfold suV;clear hw k1;go_enter Tryz.func40,Tryz.ntmps40;go_wp2;go_ret;refine⟨_,_,rfl,⟨_,_,rfl,rfl,HW.out⟩,HB.out,fun k hk=> ?_⟩;simp only[List.mem_singleton] at hk;omega
theorem zye {pr:Bool→Nat→List UInt8} {w0:World} (hP:PrintC w0 pr) (f S L D:Int) (w:World) (hw:Below w0.heap.size w0 w):Calls Tryz.prog 40 #[suV f 3 D S L] w fun r w'=>∃V F,r= .returned V∧WtAt w0 w' V F (ws0 pr 3)∧Below w.heap.size w w'∧(∀k∈F,w.heap.size≤k):=by
 have k1:=zaa (Below.refl w.heap.size w) (.cells #[.int .i64 f,.int .i64 3,.int .i64 D,.int .i64 S,.int .i64 L] 23);have HW:Hid (PoW w0 ((w.alloc (.cells #[.int .i64 f,.int .i64 3,.int .i64 D,.int .i64 S,.int .i64 L] 23)).alloc (.cells #[.slice none 0 0,.bool false] 113)) (w.heap.size+1) [] ⟨[],false⟩):=hid (by
  have:=zahh w0 (w.alloc (.cells #[.int .i64 f,.int .i64 3,.int .i64 D,.int .i64 S,.int .i64 L] 23)) (hw.trans (k1.mono hw.size));simpa using this)
 have HB:=hid (zaa k1 (.cells #[.slice none 0 0,.bool false] 113));have HP:=hid hP;unfold suV;clear hw k1;go_enter Tryz.func40,Tryz.ntmps40;go_wp2;go_ret;refine⟨_,_,rfl,⟨_,_,rfl,rfl,HW.out⟩,HB.out,fun k hk=> ?_⟩;simp only[List.mem_singleton] at hk;omega
theorem zse {pr:Bool→Nat→List UInt8} {w0:World} (hP:PrintC w0 pr) (f t S L D:Int) (ht:fmtP t) (w:World) (hw:Below w0.heap.size w0 w):Calls Tryz.prog 40 #[suV f t D S L] w fun r w'=>∃V F,r= .returned V∧WtAt w0 w' V F (ws0 pr t)∧Below w.heap.size w w'∧(∀k∈F,w.heap.size≤k):=by
 rcases ht with rfl|rfl|rfl
 ·exact zze hP f S L D w hw
 ·exact zwn hP f S L D w hw
 ·exact zye hP f S L D w hw
theorem zaee (b:Nat) (w:World):Calls Tryz.prog 41 #[.iface 100 (.pointer (some ⟨b,0,none⟩))] w fun r w'=>r= .returned (.bool false)∧w=w':=by
 have a1:∀W,(Instr.typeAssert (.iface 100 (.pointer (some ⟨b,0,none⟩))) 76 109 true).run Tryz.prog W= .ok (.tuple #[.pointer none,.bool false]) W:=fun W=>by kernel_rfl
 go_enter Tryz.func41,Tryz.ntmps41;go_wp2;go_ret;exact⟨rfl,rfl⟩
theorem zaeu (b:Nat) (w:World):Calls Tryz.prog 41 #[.iface 104 (.pointer (some ⟨b,0,none⟩))] w fun r w'=>r= .returned (.bool false)∧w=w':=by
 have a1:∀W,(Instr.typeAssert (.iface 104 (.pointer (some ⟨b,0,none⟩))) 76 109 true).run Tryz.prog W= .ok (.tuple #[.pointer none,.bool false]) W:=fun W=>by kernel_rfl
 go_enter Tryz.func41,Tryz.ntmps41;go_wp2;go_ret;exact⟨rfl,rfl⟩
theorem zaec (b:Nat) (w:World):Calls Tryz.prog 41 #[.iface 109 (.pointer (some ⟨b,0,none⟩))] w fun r w'=>r= .returned (.bool true)∧w=w':=by
 have a1:∀W,(Instr.typeAssert (.iface 109 (.pointer (some ⟨b,0,none⟩))) 76 109 true).run Tryz.prog W= .ok (.tuple #[.pointer (some ⟨b,0,none⟩),.bool true]) W:=fun W=>by kernel_rfl
 go_enter Tryz.func41,Tryz.ntmps41;go_wp2;go_ret;exact⟨rfl,rfl⟩
theorem zzx {pr:Bool→Nat→List UInt8} {w0 w:World} {V:Value} {F:List Nat} {t:Int} (ht:fmtP t) (h:WtAt w0 w V F (ws0 pr t)):Calls Tryz.prog 41 #[V] w fun r w'=>r= .returned (.bool (decide (t=3)))∧w=w':=by
 rcases ht with rfl|rfl|rfl
 ·obtain⟨b,F',rfl,_⟩:=h
  exact zaee b w
 ·obtain⟨b,F',rfl,_⟩:=h
  exact zaeu b w
 ·obtain⟨b,F',rfl,_⟩:=h
  exact zaec b w
end
section
open Go.RowKit
open Go.Lib
theorem zrh (pr:Bool→Nat→List UInt8) (f t:Int):pp0 pr f t= .live (rs0 f) (if t=3 then some gs0 else none) (ws0 pr t):=rfl
structure NewI (w W:World) (D pb:Nat) (pr:Bool→Nat→List UInt8) (f t:Int) (RV WV:Value) (FR FW:List Nat):Prop where
 blk:Blk W pb (pipC 0 RV (.pointer none) WV) 80
 rd:RdAt W D RV FR (rs0 f)
 wt:WtAt w W WV FW (ws0 pr t)
 lo:w.heap.size≤pb
 low:∀k∈FR++FW,w.heap.size≤k∧k<pb
 ap:∀k∈FR,k∉FW
 bel:Below w.heap.size w W
theorem zakr {w w1 w2:World} {D:Nat} {pr:Bool→Nat→List UInt8} {f t:Int} {RV WV:Value} {FR FW:List Nat} (b1:Below w.heap.size w w1) (r1:RdAt w1 D RV FR (rs0 f)) (r2:∀k∈FR,w.heap.size≤k) (b2:Below w1.heap.size w1 w2) (q1:WtAt w w2 WV FW (ws0 pr t)) (q2:∀k∈FW,w1.heap.size≤k) :
  NewI w (w2.alloc (.cells (pipC 0 RV (.pointer none) WV) 80)) D w2.heap.size pr f t RV WV FR FW:=by
 have k2:=zaa (Below.refl w2.heap.size w2) (.cells (pipC 0 RV (.pointer none) WV) 80);have h1:=b1.size;have h2:=b2.size;refine⟨zag _ _ _,(r1.go b2).go k2,q1.go k2,by omega,fun k hk=> ?_,fun k hk hm=> ?_,zab (zab b1 b2) k2⟩
 ·rcases List.mem_append.1 hk with hk|hk
  ·exact⟨r2 k hk,(r1.go b2).lt k hk⟩
  ·exact⟨by have:=q2 k hk;omega,q1.lt k hk⟩
 ·have:=r1.lt k hk
  have:=q2 k hm;omega
theorem NewI.nost {w W:World} {D pb lim:Nat} {pr:Bool→Nat→List UInt8} {f t:Int} {RV WV:Value} {FR FW:List Nat} (h:NewI w W D pb pr f t RV WV FR FW) (ht:t≠3):∃F,PipAt w W pb D lim F (pp0 pr f t):=by
 rw[zrh,if_neg ht];exact⟨_,RV,_,WV,FR,[],FW,h.blk,h.rd,⟨rfl,rfl⟩,h.wt,h.lo,fun k hk=>by
  have:=h.low k (by simpa using hk);exact⟨this.1,by omega⟩,by simpa using h.ap,by simp,h.bel,rfl⟩
theorem NewI.st {w W W2:World} {D pb lim b:Nat} {pr:Bool→Nat→List UInt8} {f:Int} {RV WV vh vo:Value} {FR FW:List Nat} (h:NewI w W D pb pr f 3 RV WV FR FW) (hs:StG W2 b lim vh vo gs0) (hr:∀k∈za2 b vh vo,W.heap.size≤k) (k2:Below W.heap.size W W2) :
    ∃F,PipAt w (W2.setCell ⟨pb,2,none⟩ (.pointer (some ⟨b,0,none⟩))) pb D lim F (pp0 pr f 3):=by
  have hpb:pb<W.heap.size:=h.blk.lt;have b2:=h.blk.go k2;have hb3:Blk (W2.setCell ⟨pb,2,none⟩ (.pointer (some ⟨b,0,none⟩))) pb (pipC 0 RV (.pointer (some ⟨b,0,none⟩)) WV) 80:=by
    have:=b2.set 2 (.pointer (some ⟨b,0,none⟩));simpa [pipC] using this
  have hst:∀k,k≠pb→(W2.setCell ⟨pb,2,none⟩ (.pointer (some ⟨b,0,none⟩))).heap[k]? = W2.heap[k]? := fun k hk=>Below.heap_setCell W2 _ _ k hk
  have hbel:Below w.heap.size w (W2.setCell ⟨pb,2,none⟩ (.pointer (some ⟨b,0,none⟩))):=zg9 (zab h.bel k2) h.lo _ _;rw[zrh,if_pos rfl];refine⟨_,RV,_,WV,FR,za2 b vh vo,FW,hb3,(h.rd.go k2).keep fun k hk=>hst k (by have:=(h.low k (by simp[hk])).2;omega),⟨b,vh,vo,rfl,rfl,hs.keep fun k hk=>hst k (by have:=hr k hk;omega)⟩,(h.wt.go k2).keep (fun k hk=>hst k (by have:=(h.low k (by simp[hk])).2;omega)) hbel,h.lo,fun k hk=> ?_,fun k hk hm=> ?_,fun k hk hm=> ?_,hbel,rfl⟩
  · rcases List.mem_append.1 hk with hk|hk
    · have:=h.low k (by simp[hk])
      exact⟨this.1,by omega⟩
    · rcases List.mem_append.1 hk with hk|hk
      · have:=hr k hk
        have:=h.lo;exact⟨by omega,by omega⟩
      · have:=h.low k (by simp[hk])
        exact⟨this.1,by omega⟩
  · rcases List.mem_append.1 hm with hm|hm
    · have:=hr k hm
      have:=(h.low k (by simp[hk])).2;omega
    · exact h.ap k hk hm
  · have:=hr k hk
    have:=(h.low k (by simp[hm])).2;omega
theorem WtAt.form {w0 w:World} {V:Value} {F:List Nat} {q:Ws} (h:WtAt w0 w V F q):∃d b,V= .iface d (.pointer (some ⟨b,0,none⟩)):=by
 cases q with
 | js pr q=>obtain⟨b,_,rfl,_⟩:=h;exact⟨_,b,rfl⟩
 | cb q=>obtain⟨b,_,rfl,_⟩:=h;exact⟨_,b,rfl⟩
 | pk q=>obtain⟨b,_,rfl,_⟩:=h;exact⟨_,b,rfl⟩
theorem zadn {pr:Bool→Nat→List UInt8} {w:World} (hP:PrintC w pr) (f t L:Int) (D S:Nat) (h:zbf f t D S L):Calls Tryz.prog 26 #[suV f t D S L] w fun r w'=>∃pb F,r= .returned (.pointer (some ⟨pb,0,none⟩))∧PipAt w w' pb D S F (pp0 pr f t):=by
  have hh:=h;obtain⟨hf,ht,hD,hS,_⟩:=hh;have hD2:1≤D∧D≤16:=by unfold inP3 at hD;omega
  have hS2:(min (max (S:Int) 0) 2000).toNat=S:=by unfold inP3 at hS;omega
  have HR:=hid (fun W=>zee f t D S L W);rw[decide_eq_true h] at HR;have HRO:=hid (fun W=>zu4 f t S L D hf hD2 W);have HWO:=hid (fun W hw=>zse (w0:=w) hP f t S L D ht W hw);have HWC:=hid (fun(W:World) (V:Value) (F:List Nat) (k:WtAt w W V F (ws0 pr t))=>zzx ht k);have H0:Hid (SuI w (w.alloc (.cells #[.int .i64 f,.int .i64 t,.int .i64 D,.int .i64 S,.int .i64 L] 23)) f t D S L):=hid ⟨zaa (Below.refl _ _) _,zag _ _ _⟩;have HST:=hid (fun W=>zabk (S:Int) W);rw[hS2] at HST;unfold suV at HR HRO HWO ⊢;clear h hf ht hD hS hD2 hS2 hP;go_enter Tryz.func26,Tryz.ntmps26;(go_wp2_with fail);refine(HR.out _).mono ?_;rintro r w1 ⟨rfl,b1⟩;have H1:=hid (H0.out.go b1);obtain⟨c0,c1,c2,c3,c4⟩:=(H0.out.go b1).cells;clear b1 H0 HR;(go_wp2_with fail)
  go_region_with (first
    | (go_at_call 39;refine(HRO.out _).mono ?_;rintro r wa ⟨RV,FR,rfl,r1,ba,r2⟩
       obtain⟨dR,bR,rfl⟩:=r1.form
       first
       |(have HA:=hid (And.intro r1 (And.intro ba r2));have HI:=hid (H2.out.go ba))
       |(have HA:=hid (And.intro r1 (And.intro ba r2));have H3:=hid (H1.out.drew.go ba);obtain⟨d0,d1,d2,d3,d4⟩:=(H1.out.drew.go ba).cells)
       clear r1 ba r2)
    | (go_at_call 40;first | refine(HWO.out _ H3.out.bel).mono ?_|refine(HWO.out _ H1.out.drew.bel).mono ?_
       rintro r wb ⟨WV,FW,rfl,q1,bb,q2⟩;obtain⟨dW,bW,rfl⟩:=q1.form
       first
       |(have HW:=hid (And.intro q1 (And.intro bb q2));have HI:=hid (H3.out.go bb))
       |(have HW:=hid (And.intro q1 (And.intro bb q2));have H2:=hid (H1.out.drew.go bb);obtain⟨d0,d1,d2,d3,d4⟩:=(H1.out.drew.go bb).cells)
       clear q1 bb q2))
  all_goals
    have HN:=hid (zakr H3.out.bel HA.out.1 (fun k hk=>Nat.le_trans H1.out.bel.size (HA.out.2.2 k hk)) HW.out.2.1 HW.out.1 HW.out.2.2);have HS2:=hid (HI.out.go (zaa (Below.refl wb.heap.size wb) (.cells (pipC 0 (.iface dR (.pointer (some ⟨bR,0,none⟩))) (.pointer none) (.iface dW (.pointer (some ⟨bW,0,none⟩)))) 80)));have e3:=HS2.out.cells.2.2.2.1;have k3:=HN.out.blk.cell 3;have k2:=HN.out.blk.cell 2;have f2:=HN.out.blk.froz 2;simp only[pipC] at HN HS2 e3 k3 k2 f2;generalize hpb:wb.heap.size=pb at *
    generalize hW2:wb.alloc (.cells #[.int .i64 ((0:Nat):Int),.iface dR (.pointer (some ⟨bR,0,none⟩)),.pointer none,.iface dW (.pointer (some ⟨bW,0,none⟩))] 80)=W2 at *
    have HWC1:=hid (HWC.out _ _ _ HN.out.wt);clear HRO HWO HWC hW2 HI;by_cases ht3:t=3
    · rw[decide_eq_true ht3] at HWC1
      subst ht3;(go_wp2_with fail);refine HWC1.out.mono ?_;rintro r w3 ⟨rfl,rfl⟩;(go_wp2_with fail);refine(HST.out _).mono ?_;rintro r w4 ⟨rfl,hg,hb⟩;have HF:=hid (HN.out.st hg (fun k hk=>by simp[za2,Value.owner] at hk;omega) hb);have g2:=(HN.out.blk.go hb).cell 2;have gf:=(HN.out.blk.go hb).froz 2;simp only[pipC] at g2;clear hg hb;go_wp2;go_ret;obtain⟨F,hF⟩:=HF.out;exact⟨pb,F,rfl,hF⟩
    · rw[decide_eq_false ht3] at HWC1
      have HF:=hid (HN.out.nost (lim:=S) ht3);clear ht3;(go_wp2_with fail);refine HWC1.out.mono ?_;rintro r w3 ⟨rfl,rfl⟩;go_wp2;go_ret;obtain⟨F,hF⟩:=HF.out;exact⟨pb,F,rfl,hF⟩
end
end Go.Proofs.YtpaciekgbhoncaaGreat
