/-
  Parts: StgD, PipAll.
-/
import Derived.Test.YtpaciekgbhoncaaGreatHStgC
import Derived.Test.YtpaciekgbhoncaaGreatG1d
set_option maxRecDepth 100000
set_option maxHeartbeats 16000000
open Go.Lib (hid)
namespace Go.Proofs.YtpaciekgbhoncaaGreat
section
open Go.RowKit
open Go.Lib
theorem zd2 (e:Ev):valE e= .nilIface∨∃d z,valE e= .iface d z:=by
 unfold valE
 repeat' split
 all_goals first | exact .inl rfl|exact .inr ⟨_,_,rfl⟩
structure SgR (w:World) (b lim z:Nat) (vh vo:Value) (H:List Ev) (op:List Cn):Prop where
 blk:Sgb w b 0 lim vh z vo
 wh:Win w 20 1 vh H.length (H.map valE)
 wo:Win w 173 4 vo op.length (cnL op)
def za2 (b:Nat) (vh vo:Value):List Nat:=b::(Value.owner vh++Value.owner vo)
theorem SgR.go {w w':World} {b lim z:Nat} {vh vo:Value} {H:List Ev} {op:List Cn} (h:SgR w b lim z vh vo H op) (k:Below w.heap.size w w'):SgR w' b lim z vh vo H op :=
 ⟨h.blk.go k,h.wh.keep fun i hi=>k.block i (h.wh.lt i hi),h.wo.keep fun i hi=>k.block i (h.wo.lt i hi)⟩
theorem zaf5 {w w3:World} {b lim z:Nat} {vh vo v3:Value} {H:List Ev} {op:List Cn} {e:Ev} (h:SgR w b lim z vh vo H op)
  (hW:Win w3 20 1 v3 (H.length+1) (H.map valE++[valE e])) (hG:w.grownBy w3 vh.ownBlock) (hO:v3.ownBlock=vh.ownBlock∨v3.ownBlock=some w.heap.size∧w.heap.size<w3.heap.size) :
  Sgb w3 b 0 lim vh z vo∧Win w3 20 1 v3 (H++[e]).length ((H++[e]).map valE)∧Win w3 173 4 vo op.length (cnL op)∧b∉Value.owner v3∧b∉Value.owner vo ∧
   (∀k∈Value.owner v3,k∈Value.owner vh∨w.heap.size≤k)∧Step (za2 b vh vo) (za2 b v3 vo) w w3:=by
 have hbv:=h.wh.apart h.blk (by decide);have hbo:=h.wo.apart h.blk (by decide);have hvo:=h.wh.apart2 h.wo (by decide);have h3:Sgb w3 b 0 lim vh z vo:=(hG.block b h.blk.lt (fun e=>hbv ((zad _ _).1 e.symm))).trans h.blk;have hx:∀k∈Value.owner v3,k∈Value.owner vh∨w.heap.size≤k:=fun k hk=>by
  rcases hO with e|⟨e,_⟩
  ·exact .inl ((zad _ _).1 (e▸(zad _ _).2 hk))
  ·right
   have h2:=(zad _ _).2 hk;rw[e] at h2;cases h2;exact Nat.le_refl _
 refine⟨h3,by simpa using hW,h.wo.keep fun k hk=>hG.block k (h.wo.lt k hk) (fun e=>hvo k hk ((zad _ _).1 e.symm)),hW.apart h3 (by decide),hbo,hx,?_⟩;refine(ztg (F:=za2 b vh vo) hG (fun k hk=> ?_)).widen (fun k hk=> ?_)
 ·have:=(zad _ _).1 hk
  simp[za2,this]
 ·simp only[za2,List.mem_cons,List.mem_append] at hk ⊢
  rcases hk with rfl|hk|hk
  ·exact .inl (.inl rfl)
  ·exact(hx k hk).imp (fun h=> .inr (.inl h)) id
  ·exact .inl (.inr (.inr hk))
theorem zae0 {w:World} {b lim z:Nat} {vh vo:Value} {H:List Ev} {x:Cn} (h:SgR w b lim z vh vo H [x]) (hx:x.at_<H.length∧x.n≤100000) (hl:H.length≤90000) (e:Ev) :
    Calls Tryz.prog 65 #[.pointer (some ⟨b,0,none⟩),valE e] w fun q w'=>∃v' vo',q= .returned v'∧Win w' 20 1 v' (zim H [x]++[e]).length ((zim H [x]++[e]).map valE)∧SgR w' b lim 0 (.slice none 0 0) vo' [] [] ∧
      (∀k∈Value.owner v',k∈Value.owner vh∨w.heap.size≤k)∧Step (za2 b vh vo) (za2 b (.slice none 0 0) vo') w w':=by
  have HE:=hid (zzn (e:=0) (r:=[]) h.blk h.wh h.wo (by simp) hx (by omega));have hform:=zd2 e;obtain⟨a,cp,rfl,_,_⟩:=h.wh.slice_form;obtain⟨N,hN⟩:∃N,H.length=N:=⟨_,rfl⟩
  have hlen:(H.set x.at_ (cntE x)).length=N:=by simp[hN]
  rw [hN] at HE hl ⊢;have hK:∀(w1 w2 w3:World) (vo':Value) (a3:Option Addr) (c3:Nat),Sgb w1 b 0 lim (.slice a N cp) z vo'→Win w1 20 1 (.slice a N cp) N ((H.set x.at_ (cntE x)).map valE)→Win w1 173 4 vo' 0 (cnL [])→Value.owner vo'=Value.owner vo→Step (b::Value.owner (.slice a N cp)) (b::Value.owner (.slice a N cp)) w w1→Below w1.heap.size w1 w2 →
      Win w3 20 1 (.slice a3 (N+1) c3) (N+1) ((H.set x.at_ (cntE x)).map valE++[valE e])→w2.grownBy w3 (Value.slice a N cp).ownBlock→((Value.slice a3 (N+1) c3).ownBlock=(Value.slice a N cp).ownBlock∨(Value.slice a3 (N+1) c3).ownBlock=some w2.heap.size∧w2.heap.size<w3.heap.size) →
      ((∃u,w3.cell? ⟨b,3,none⟩=some u)∧w3.frozen? ⟨b,3,none⟩=false∧(∃u,w3.cell? ⟨b,4,none⟩=some u)∧w3.frozen? ⟨b,4,none⟩=false) ∧
      (∃vo',Win ((w3.setCell ⟨b,3,none⟩ (.slice none 0 0)).setCell ⟨b,4,none⟩ (.int .i64 0)) 20 1 (.slice a3 (N+1) c3) (zim H [x]++[e]).length ((zim H [x]++[e]).map valE)∧SgR ((w3.setCell ⟨b,3,none⟩ (.slice none 0 0)).setCell ⟨b,4,none⟩ (.int .i64 0)) b lim 0 (.slice none 0 0) vo' [] [] ∧
        (∀k∈Value.owner (.slice a3 (N+1) c3),k∈Value.owner (.slice a N cp)∨w.heap.size≤k)∧Step (za2 b (.slice a N cp) vo) (za2 b (.slice none 0 0) vo') w ((w3.setCell ⟨b,3,none⟩ (.slice none 0 0)).setCell ⟨b,4,none⟩ (.int .i64 0))):=by
    intro w1 w2 w3 vo' a3 c3 hS1 hH1 hW1 ho1 hst1 hb2 hW3 hG3 hO3;have hR1:SgR w1 b lim z (.slice a N cp) vo' (H.set x.at_ (cntE x)) []:=⟨hS1,by rw[hlen];exact hH1,hW1⟩
    have hR2:=hR1.go hb2;obtain⟨g1,g2,g3,g4,g5,g6,g7⟩:=zaf5 (e:=e) hR2 (by rw[hlen];exact hW3) hG3 hO3;have hsz:w.heap.size≤w2.heap.size:=Nat.le_trans hst1.size hb2.size;refine⟨⟨⟨_,g1.cell 3⟩,g1.froz 3,⟨_,g1.cell 4⟩,g1.froz 4⟩,vo',(g2.setCell_far g4 _).setCell_far g4 _,⟨(g1.set 3 _).set 4 _,Win.nil_ _ _ _,(g3.setCell_far g5 _).setCell_far g5 _⟩,fun k hk=>(g6 k hk).imp id (fun h=>by omega),?_⟩;have s1:=hst1.mono_ (za2 b (.slice a N cp) vo) (fun k hk=>by simp only[za2,List.mem_cons,List.mem_append] at hk ⊢;rcases hk with h|h <;>simp[h]);have s2:=s1.trans (Step.of_below _ hb2);rw[show za2 b (.slice a N cp) vo=za2 b (.slice a N cp) vo' by simp only[za2,ho1]] at s2 ⊢;refine(((s2.trans g7).trans (zal _ _ _ _ (by simp[za2]))).trans (zal _ _ _ _ (by simp[za2]))).widen fun k hk=> ?_
    simp only[za2,Value.owner,List.nil_append,List.mem_cons,List.mem_append] at hk ⊢;rcases hk with h|h
    · exact .inl (.inl h)
    · exact .inl (.inr (.inr h))
  have HK:=hid hK;clear hK hlen h hx hN;generalize (valE e)=V at *
  generalize (H.set x.at_ (cntE x)).map valE=XS at *
  go_enter Tryz.func65,Tryz.ntmps65;(go_wp2_with fail);refine HE.out.mono ?_;rintro q w1 ⟨rfl,vo',hS1,hH1,hW1,ho1,hst1⟩;have hb2:Below w1.heap.size w1 (w1.alloc (.cells #[V] 20)):=zaa (Below.refl _ _) _;have HA:=hid (fun w3 a3 c3=>HK.out w1 _ w3 vo' a3 c3 hS1 hH1 hW1 ho1 hst1 hb2);have h3:=hS1.cell 3;have HH1:=hid hH1;clear HK HE hS1 hH1 hW1 ho1 hst1 hb2;rcases hform with rfl|⟨d,zz,rfl⟩
  all_goals
    go_wp2_with (at_builtin;refine zaj rfl _ _ _ rfl Tryz.underlying85 zed rfl rfl (HH1.out.alloc _) _ rfl 1 [_] (zfp _ Tryz.underlying85 _ _ _ ?e3 rfl) ?e1 ?e2 ?_)
    case e1=>unfold maxLen;omega
    case e2=>omega
    case e3=>rfl
    intro v3 w3 hW3 hG3 hO3;obtain⟨a3,c3,rfl,_,_⟩:=hW3.out.slice_form;have HP:=hid (HA.out w3 a3 c3 hW3.out hG3.out (by simpa using hO3.out));obtain⟨⟨⟨u3,x3⟩,y3,⟨u4,x4⟩,y4⟩,_⟩:=HP.out;clear hW3 hG3 hO3 HA;go_wp2;go_ret;obtain⟨vo2,p1,p2,p3,p4⟩:=HP.out.2;exact⟨_,vo2,rfl,p1,p2,p3,p4⟩
structure SgP (w w':World) (b lim z:Nat) (vh vo vh' vo':Value) (H:List Ev) (op:List Cn):Prop where
 sg:SgR w' b lim z vh' vo' H op
 step:Step (za2 b vh vo) (za2 b vh' vo') w w'
theorem SgP.go {w w' w2:World} {b lim z:Nat} {vh vo vh' vo':Value} {H:List Ev} {op:List Cn} (h:SgP w w' b lim z vh vo vh' vo' H op) (k:Below w'.heap.size w' w2):SgP w w2 b lim z vh vo vh' vo' H op :=
 ⟨h.sg.go k,h.step.trans (Step.of_below _ k)⟩
theorem zng {w:World} {b lim z:Nat} {vh vo:Value} {H:List Ev} {op:List Cn} (h:SgR w b lim z vh vo H op) (hd:op.length≤90000) (hn:∀x∈op,x.n≤100000) :
  Calls Tryz.prog 69 #[vo] w fun r w'=>r= .returned (.tuple #[])∧SgP w w' b lim z vh vo vh vo H (incN op):=by
 refine(zux h.wo (by omega) hn).mono ?_;rintro r w1 ⟨rfl,hW,hS⟩;have hvo:=h.wo.apart2 h.wh (by decide);have hbo:=h.wo.apart h.blk (by decide);refine⟨rfl,⟨(hS.block b h.blk.lt hbo).trans h.blk,h.wh.keep fun k hk=>hS.block k (h.wh.lt k hk) (hvo k hk),by rw[zd9];exact hW⟩,hS.mono_ _ fun k hk=>by simp[za2,hk]⟩
theorem zaje {w:World} {b lim z:Nat} {vh vo:Value} {H:List Ev} {x:Cn} {r:List Cn} (h:SgR w b lim z vh vo H (x::r)) (hd:r.length≤90000) (hx:x.at_<H.length∧x.n≤100000) (hl:H.length≤90000) :
  Calls Tryz.prog 68 #[.pointer (some ⟨b,0,none⟩)] w fun q w'=>q= .returned (.tuple #[])∧∃vo',SgP w w' b lim z vh vo vh vo' (H.set x.at_ (cntE x)) r:=by
 refine(zzn h.blk h.wh h.wo (by omega) hx (by omega)).mono ?_;rintro q w1 ⟨rfl,vo',h1,h2,h3,h4,h5⟩;refine⟨rfl,vo',⟨h1,by rw[List.length_set];exact h2,h3⟩,?_⟩;have:=h5.mono_ (za2 b vh vo) (fun k hk=>by simp only[za2,List.mem_cons,List.mem_append] at hk ⊢;rcases hk with h|h <;>simp[h])
 rwa [show za2 b vh vo=za2 b vh vo' by simp only[za2,h4]] at this ⊢
theorem zaeq {w:World} {b lim z:Nat} {vh vo:Value} {H:List Ev} {r:List Cn} (h:SgR w b lim z vh vo H r) (hd:r.length≤90000) (x:Cn) :
    Calls Tryz.prog 70 #[.pointer (some ⟨b,5,none⟩),.agg #[.bool x.m,.int .i64 x.c,.int .i64 (x.at_:Int),.int .i64 (x.n:Int)]] w fun q w'=>q= .returned (.tuple #[])∧∃vo',SgP w w' b lim z vh vo vh vo' H (x::r):=by
  refine(zuz h.blk h.wo (by omega) x).mono ?_;rintro q w1 ⟨rfl,vo',h1,h2,h3⟩;have hvo:=h.wo.apart2 h.wh (by decide);have hbv:=h.wh.apart h.blk (by decide);refine⟨rfl,vo',⟨h1,h.wh.keep fun k hk=>h3.block k (h.wh.lt k hk) (fun e=> ?_),h2⟩,?_⟩
  · rcases List.mem_cons.1 e with rfl|e
    · exact hbv hk
    · exact hvo k hk e
  · refine⟨h3.os,h3.tape,h3.output,h3.size,fun k hk hn=>h3.block k hk (fun e=>hn ?_),fun k hk=> ?_⟩
    · simp only[za2,List.mem_cons,List.mem_append] at e ⊢
      rcases e with h|h <;>simp[h]
    · simp only[za2,List.mem_cons,List.mem_append] at hk ⊢
      rcases hk with hk|hk|hk
      · exact .inl (.inl hk)
      · exact .inl (.inr (.inl hk))
      · rcases h3.foot k (List.mem_cons_of_mem _ hk) with h|h
        · rcases List.mem_cons.1 h with h|h
          · exact .inl (.inl h)
          · exact .inl (.inr (.inr h))
        · exact .inr h
theorem zala {w w1 w2 w3:World} {b lim z z':Nat} {vh vo vh1 vo1 v3:Value} {H:List Ev} {op:List Cn} {e:Ev} (hP:SgP w w1 b lim z vh vo vh1 vo1 H op) (hb2:Below w1.heap.size w1 w2)
  (hW:Win w3 20 1 v3 (H.length+1) (H.map valE++[valE e])) (hG:w2.grownBy w3 vh1.ownBlock) (hO:v3.ownBlock=vh1.ownBlock∨v3.ownBlock=some w2.heap.size∧w2.heap.size<w3.heap.size) :
  ((∃u,w3.cell? ⟨b,3,none⟩=some u)∧w3.frozen? ⟨b,3,none⟩=false∧w3.cell? ⟨b,4,none⟩=some (.int .i64 (z:Int))∧w3.frozen? ⟨b,4,none⟩=false) ∧
  ∃vh' vo',SgP w ((w3.setCell ⟨b,3,none⟩ v3).setCell ⟨b,4,none⟩ (.int .i64 (z':Int))) b lim z' vh vo vh' vo' (H++[e]) op:=by
 have h2:=hP.sg.go hb2;obtain⟨g1,g2,g3,g4,g5,g6,g7⟩:=zaf5 (e:=e) h2 hW hG hO;refine⟨⟨⟨_,g1.cell 3⟩,g1.froz 3,g1.cell 4,g1.froz 4⟩,v3,vo1,⟨(g1.set 3 _).set 4 _,(g2.setCell_far g4 _).setCell_far g4 _,(g3.setCell_far g5 _).setCell_far g5 _⟩,?_⟩;have s2:=hP.step.trans (Step.of_below _ hb2);exact((s2.trans g7).trans (zal _ _ _ _ (by simp[za2]))).trans (zal _ _ _ _ (by simp[za2]))
end
section
open Go.Lib
theorem zk0 (D lim:Nat) (b:UInt8):∀(a:List UInt8) (s:Pp),zdz D lim s (a++[b])=((zay D lim (zdz D lim s a).1 b).1,(zdz D lim s a).2++(zay D lim (zdz D lim s a).1 b).2.1)
 | [],s=>by simp[zdz]
 | x::a,s=>by simp only[List.cons_append,zdz,zk0 D lim b a,List.append_assoc]
theorem zvc {D lim:Nat} {s:Pp} {l:List UInt8} {i:Nat} (h:i<l.length):zdz D lim s (l.take (i+1))=((zay D lim (zdz D lim s (l.take i)).1 l[i]).1,(zdz D lim s (l.take i)).2++(zay D lim (zdz D lim s (l.take i)).1 l[i]).2.1):=by
 rw[List.take_add_one,List.getElem?_eq_getElem h];exact zk0 D lim l[i] _ s
end
end Go.Proofs.YtpaciekgbhoncaaGreat
