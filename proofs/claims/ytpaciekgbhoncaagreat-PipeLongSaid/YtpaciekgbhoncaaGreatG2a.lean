/-
  Parts: StgG, StgI, PipAt, PipB, PipC.
-/
import Derived.Test.YtpaciekgbhoncaaGreatHStgF
import Derived.Test.YtpaciekgbhoncaaGreatG1e
import Derived.Test.YtpaciekgbhoncaaGreatG0f
import Derived.Handy
import Derived.Test.YtpaciekgbhoncaaGreatG0k
set_option maxRecDepth 100000
set_option maxHeartbeats 16000000
open Go.Lib (hid)
namespace Go.Proofs.YtpaciekgbhoncaaGreat
section
open Go.RowKit
open Go.Lib
def zeq (lim:Nat) (w:World) (b:Nat) (vh vo:Value) (G:Gr) (r:Ending) (w':World):Prop :=
 ∃v,r= .returned (.tuple #[v,.int .i64 (G.e:Int)])∧∃vh' vo',Win w' 20 1 v G.l.length (G.l.map valE)∧(∀k∈Value.owner v,k∈Value.owner vh∨w.heap.size≤k)∧StG w' b lim vh' vo' G.s∧Step (za2 b vh vo) (za2 b vh' vo') w w'
theorem zajy {w w0 w1:World} {b lim z:Nat} {vh vo vh' vo':Value} {H:List Ev} {op:List Cn} {v:Value} {l:List Ev} {e:Nat} (k:Below w.heap.size w w0) (h:SgP w0 w1 b lim z vh vo vh' vo' H op) (hl:l=[]) (he:e=0) (hv:v= .slice none 0 0) :
  zeq lim w b vh vo ⟨.live z H op,l,e⟩ (.returned (.tuple #[v,.int .i64 0])) w1:=by
 subst hl he hv;exact⟨_,rfl,vh',vo',Win.nil_ _ _ _,fun k hk=>by simp[Value.owner] at hk,⟨h.sg.blk,h.sg.wh,h.sg.wo⟩,(h.pre k).step⟩
theorem zyr {w:World} {b lim:Nat} {vh vo:Value} (h:StG w b lim vh vo .bad) (V:Value) :
  Calls Tryz.prog 60 #[.pointer (some ⟨b,0,none⟩),V] w fun r w'=>zeq lim w b vh vo ⟨.bad,[],10⟩ r w':=by
 have HH:=hid (zjg h.1);have HG:=hid h;have HF:Hid (zeq lim w b vh vo ⟨.bad,[],10⟩ (.returned (.tuple #[.slice none 0 0,.int .i64 10])) w):=hid ⟨_,rfl,vh,vo,Win.nil_ _ _ _,fun k hk=>by simp[Value.owner] at hk,h,Step.refl _ _⟩;clear h;go_enter Tryz.func60,Tryz.ntmps60;(go_wp2_with fail);refine HH.out.mono ?_;rintro r w1 ⟨rfl,rfl⟩;go_wp2;go_ret2;exact HF.out
theorem ztw {w:World} {b lim z:Nat} {vh vo:Value} {H:List Ev} {op:List Cn} (h:SgR w b lim z vh vo H op) (e:Ev) (he:mayE e) (ht:sizG e≤1000) (hp:op=[]∧¬opnE e) :
  Calls Tryz.prog 60 #[.pointer (some ⟨b,0,none⟩),valE e] w fun r w'=>zeq lim w b vh vo ⟨.live z H op,[e],0⟩ r w':=by
 obtain⟨a5,cp5,rfl,_,_⟩:=h.wo.slice_form;have HH:=hid (zjg h.blk);have HS:=hid (zf4 e he ht w);have HP:=hid (fun W (hb:Sgb W b 0 lim vh z (.slice a5 op.length cp5))=>zfa hb e he);have hp':decide (op.length=0∧¬opnE e)=true:=by simpa using hp
 rw[hp'] at HP;have hq0:((sizG e:Int)==0)=false:=by
  have:=zfz e;rw[beq_eq_false_iff_ne];omega
 have hform:=zd2 e;have HR:=hid h;have hK:∀W,Below w.heap.size w W→zeq lim w b vh (.slice a5 op.length cp5) ⟨.live z H op,[e],0⟩ (.returned (.tuple #[.slice (some ⟨W.heap.size,0,none⟩) 1 1,.int .i64 0])) (W.alloc (.cells #[valE e] 20)):=fun W k=>by
  have h2:=h.go (zaa k (.cells #[valE e] 20));refine⟨_,rfl,vh,_,?_,fun k' hk'=> ?_,⟨h2.blk,h2.wh,h2.wo⟩,Step.of_below _ (zaa k _)⟩
  ·exact⟨rfl,.inr ⟨W.heap.size,0,1,_,rfl,heap_alloc_new W _,Nat.le_refl _,by simp,by unfold maxLen;omega,by simp⟩⟩
  ·simp only[Value.owner,List.mem_singleton] at hk'
   subst hk';exact .inr k.size
 have HK:=hid hK;generalize sizG e=Q at *
 generalize valE e=V at *
 clear h hp hp' he ht hK;go_enter Tryz.func60,Tryz.ntmps60;(go_wp2_with fail);refine HH.out.mono ?_;rintro r w1 ⟨rfl,rfl⟩;(go_wp2_with fail);refine HS.out.mono ?_;rintro r w2 ⟨rfl,hb2⟩;have HB2:=hid hb2;clear hb2 HS HH;(go_wp2_with fail);refine(HP.out w2 (HR.out.go HB2.out).blk).mono ?_;rintro r w3 ⟨rfl,hb3⟩;have HF:=hid (HK.out w3 (zab HB2.out hb3));clear hb3 HK HP HR HB2;rcases hform with rfl|⟨d,zz,rfl⟩
 all_goals
  go_wp2;go_ret2;exact HF.out
theorem ztk {w:World} {b lim z:Nat} {vh vo:Value} {H:List Ev} {x:Cn} (h:SgR w b lim z vh vo H [x]) (hx:x.at_<H.length∧x.n≤100000) (hl:H.length≤90000) (e:Ev) (he:mayE e) (ht:sizG e≤1000) (hk:e.k=7) :
  Calls Tryz.prog 60 #[.pointer (some ⟨b,0,none⟩),valE e] w fun r w'=>zeq lim w b vh vo ⟨gs0,zim H [x]++[e],0⟩ r w':=by
 obtain⟨a5,cp5,rfl,_,_⟩:=h.wo.slice_form;have HH:=hid (zjg h.blk);have HS:=hid (zf4 e he ht w);have HP:=hid (fun W (hb:Sgb W b 0 lim vh z (.slice a5 [x].length cp5))=>zfa hb e he);have HQ:=hid (fun W (hb:Sgb W b 0 lim vh z (.slice a5 [x].length cp5))=>zij hb e he);rw[show decide ([x].length=0∧¬opnE e)=false by simp] at HP;rw[show decide (e.k=7∧[x].length=1)=true by simp[hk]] at HQ;have hq0:((sizG e:Int)==0)=false:=by
  have:=zfz e;rw[beq_eq_false_iff_ne];omega
 have HR:=hid h;have HF:=hid (fun W (hR:SgR W b lim z vh (.slice a5 [x].length cp5) H [x])=>zae0 hR hx hl e);generalize sizG e=Q at *
 generalize valE e=V at *
 clear h he ht hk;go_enter Tryz.func60,Tryz.ntmps60;(go_wp2_with fail);refine HH.out.mono ?_;rintro r w1 ⟨rfl,rfl⟩;(go_wp2_with fail);refine HS.out.mono ?_;rintro r w2 ⟨rfl,hb2⟩;have HB2:=hid hb2;clear hb2 HS HH;(go_wp2_with fail);refine(HP.out w2 (HR.out.go HB2.out).blk).mono ?_;rintro r w3 ⟨rfl,hb3⟩;have HB3:=hid (zab HB2.out hb3);clear hb3 HP HB2;(go_wp2_with fail);refine(HQ.out w3 (HR.out.go HB3.out).blk).mono ?_;rintro r w4 ⟨rfl,hb4⟩;have HB4:=hid (zab HB3.out hb4);clear hb4 HQ HB3;(go_wp2_with fail);refine(HF.out w4 (HR.out.go HB4.out)).mono ?_;rintro r w5 ⟨v',vo',rfl,hW,hS,ho,hst⟩;have HE:Hid (zeq lim w b vh (.slice a5 [x].length cp5) ⟨gs0,zim H [x]++[e],0⟩ (.returned (.tuple #[v',.int .i64 0])) w5):=hid ⟨_,rfl,_,_,hW,fun k hk=>(ho k hk).imp id (fun h=>Nat.le_trans HB4.out.size h),⟨hS.blk,hS.wh,hS.wo⟩,(Step.of_below _ HB4.out).trans hst⟩;clear hW hS ho hst;go_wp2;go_ret2;exact HE.out
theorem zzf {w:World} {b lim z:Nat} {vh vo:Value} {H:List Ev} {op:List Cn} (h:SgR w b lim z vh vo H op) (e:Ev) (hne:op=[]→e.k≠7) (hd:op.length≤80000) (hn:∀x∈op,x.at_<H.length∧x.n≤100000) (hl:H.length≤80000) (he:mayE e) (q:Nat) (hz:z+q≤100000) :
  Calls Tryz.prog 66 #[.pointer (some ⟨b,0,none⟩),valE e,.int .i64 (q:Int)] w fun r' w'=>r'= .returned (.tuple #[])∧∃vh' vo',SgP w w' b lim (z+q) vh vo vh' vo' (zpl e H op) (zox e H.length op):=by
 unfold zpl zox;by_cases hk:e.k=7
 ·rw[if_pos hk,if_pos hk]
  cases op with
  | nil=>exact absurd hk (hne rfl)
  | cons x r=>exact zaac h (by simp only[List.length_cons] at hd;omega) (hn x (by simp)) hl e he hk q hz
 ·rw[if_neg hk,if_neg hk]
  by_cases hk2:e.k=5∨e.k=6
  ·rw[if_pos hk2]
   exact zvv h hd (fun x hx=>(hn x hx).2) hl e he hk hk2 q hz
  ·rw[if_neg hk2]
   exact zya h hd (fun x hx=>(hn x hx).2) hl e he hk hk2 q hz
theorem zsl {w:World} {b lim z:Nat} {vh vo:Value} {H:List Ev} {op:List Cn} (h:SgR w b lim z vh vo H op) (hlim:lim≤2000∧z≤2000) (hd:op.length≤80000) (hn:∀x∈op,x.at_<H.length∧x.n≤100000) (hl:H.length≤80000) (e:Ev) (he:mayE e) (ht:sizG e≤1000)
  (h1:¬(op=[]∧¬opnE e)) (h2:¬(e.k=7∧op.length=1)) (h3:¬lim<z+sizG e) :
  Calls Tryz.prog 60 #[.pointer (some ⟨b,0,none⟩),valE e] w fun r w'=>zeq lim w b vh vo ⟨.live (z+sizG e) (zpl e H op) (zox e H.length op),[],0⟩ r w':=by
 obtain⟨a5,cp5,rfl,_,_⟩:=h.wo.slice_form;have HH:=hid (zjg h.blk);have HS:=hid (zf4 e he ht w);have HP:=hid (fun W (hb:Sgb W b 0 lim vh z (.slice a5 op.length cp5))=>zfa hb e he);have HQ:=hid (fun W (hb:Sgb W b 0 lim vh z (.slice a5 op.length cp5))=>zij hb e he);rw[show decide (op.length=0∧¬opnE e)=false by simpa using h1] at HP;rw[show decide (e.k=7∧op.length=1)=false by simpa using h2] at HQ;have hq0:((sizG e:Int)==0)=false:=by
  have:=zfz e;rw[beq_eq_false_iff_ne];omega
 have HR:=hid h;have HF:=hid (fun W (hR:SgR W b lim z vh (.slice a5 op.length cp5) H op)=>zzf hR e (fun h0 h7=>h1 ⟨h0,fun h8=>by have:=h8.1;omega⟩) hd hn hl he (sizG e) (by omega));have hwz:IntKind.i64.wrap ((lim:Int)-(z:Int))=(lim:Int)-(z:Int):=by simp only[IntKind.wrap_i64];omega
 have hwz2:wrap64 ((lim:Int)-(z:Int))=(lim:Int)-(z:Int):=by unfold wrap64;omega
 have hgt:((sizG e:Int)>(lim:Int)-(z:Int))=False:=by simp;omega
 have hgt2:((lim:Int)-(z:Int)<(sizG e:Int))=False:=by simp;omega
 generalize hQ:sizG e=Q at *
 have HQQ:=hid hQ;generalize valE e=V at *
 clear h he h1 h2 h3 hd hn hl hQ ht;go_enter Tryz.func60,Tryz.ntmps60;(go_wp2_with fail);refine HH.out.mono ?_;rintro r w1 ⟨rfl,rfl⟩;(go_wp2_with fail);refine HS.out.mono ?_;rintro r w2 ⟨rfl,hb2⟩;have HB2:=hid hb2;clear hb2 HS HH;(go_wp2_with fail);refine(HP.out w2 (HR.out.go HB2.out).blk).mono ?_;rintro r w3 ⟨rfl,hb3⟩;have HB3:=hid (zab HB2.out hb3);clear hb3 HP HB2;(go_wp2_with fail);refine(HQ.out w3 (HR.out.go HB3.out).blk).mono ?_;rintro r w4 ⟨rfl,hb4⟩;have HB4:=hid (zab HB3.out hb4);have c2:=(HR.out.go HB4.out).blk.cell 2;have c4:=(HR.out.go HB4.out).blk.cell 4;clear hb4 HQ HB3;(go_wp2_with fail)
 go_quiet (fail)
 have hdr:Below w.heap.size w (w4.drewN nq):=zat HB4.out nq;have HB5:=hid hdr;have hFF:=HF.out _ (HR.out.go hdr);generalize w4.drewN nq=w5 at *
 clear HF HR c2 c4 hdr HB4;(go_wp2_with fail);refine hFF.mono ?_;rintro r w6 ⟨rfl,vh',vo',hP⟩;have HE:=hid (zajy HB5.out hP rfl rfl rfl);clear hP hFF;go_wp2;go_ret2;exact HE.out
theorem zte {w:World} {b lim z:Nat} {vh vo:Value} {H:List Ev} {op:List Cn} (h:SgR w b lim z vh vo H op) (hlim:lim≤2000∧z≤2000) (e:Ev) (he:mayE e) (ht:sizG e≤1000)
  (h1:¬(op=[]∧¬opnE e)) (h2:¬(e.k=7∧op.length=1)) (h3:lim<z+sizG e) :
  Calls Tryz.prog 60 #[.pointer (some ⟨b,0,none⟩),valE e] w fun r w'=>zeq lim w b vh vo ⟨.bad,[],10⟩ r w':=by
 obtain⟨a5,cp5,rfl,_,_⟩:=h.wo.slice_form;have HH:=hid (zjg h.blk);have HS:=hid (zf4 e he ht w);have HP:=hid (fun W (hb:Sgb W b 0 lim vh z (.slice a5 op.length cp5))=>zfa hb e he);have HQ:=hid (fun W (hb:Sgb W b 0 lim vh z (.slice a5 op.length cp5))=>zij hb e he);rw[show decide (op.length=0∧¬opnE e)=false by simpa using h1] at HP;rw[show decide (e.k=7∧op.length=1)=false by simpa using h2] at HQ;have hq0:((sizG e:Int)==0)=false:=by
  have:=zfz e;rw[beq_eq_false_iff_ne];omega
 have HR:=hid h;have hwz:IntKind.i64.wrap ((lim:Int)-(z:Int))=(lim:Int)-(z:Int):=by simp only[IntKind.wrap_i64];omega
 have hwz2:wrap64 ((lim:Int)-(z:Int))=(lim:Int)-(z:Int):=by unfold wrap64;omega
 have hgt:((sizG e:Int)>(lim:Int)-(z:Int))=True:=by simp;omega
 have hgt2:((lim:Int)-(z:Int)<(sizG e:Int))=True:=by simp;omega
 have HK:=hid (fun(W:World) (hb:Sgb W b 10 0 (.slice none 0 0) 0 (.slice none 0 0)) (hs:Step (za2 b vh (.slice a5 op.length cp5)) (za2 b vh (.slice a5 op.length cp5)) w W)=>(show zeq lim w b vh (.slice a5 op.length cp5) ⟨.bad,[],10⟩ (.returned (.tuple #[.slice none 0 0,.int .i64 10])) W from
  ⟨_,rfl,.slice none 0 0,.slice none 0 0,Win.nil_ _ _ _,fun k hk=>by simp[Value.owner] at hk,⟨hb,rfl,rfl⟩,hs.widen fun k hk=>by simp[za2,Value.owner] at hk;subst hk;exact .inl (by simp[za2])⟩))
 generalize sizG e=Q at *
 generalize valE e=V at *
 clear h he h1 h2 h3 ht;go_enter Tryz.func60,Tryz.ntmps60;(go_wp2_with fail);refine HH.out.mono ?_;rintro r w1 ⟨rfl,rfl⟩;(go_wp2_with fail);refine HS.out.mono ?_;rintro r w2 ⟨rfl,hb2⟩;have HB2:=hid hb2;clear hb2 HS HH;(go_wp2_with fail);refine(HP.out w2 (HR.out.go HB2.out).blk).mono ?_;rintro r w3 ⟨rfl,hb3⟩;have HB3:=hid (zab HB2.out hb3);clear hb3 HP HB2;(go_wp2_with fail);refine(HQ.out w3 (HR.out.go HB3.out).blk).mono ?_;rintro r w4 ⟨rfl,hb4⟩;have HB4:=hid (zab HB3.out hb4);have c2:=(HR.out.go HB4.out).blk.cell 2;have c4:=(HR.out.go HB4.out).blk.cell 4;clear hb4 HQ HB3;(go_wp2_with fail)
 go_quiet (fail)
 have hdr:Below w.heap.size w (w4.drewN nq):=zat HB4.out nq;have HB5:=hid hdr;have hbk:=(HR.out.go hdr).blk;generalize w4.drewN nq=w5 at *
 clear HR c2 c4 hdr HB4;have c0:=hbk.cell 0;have c1:=hbk.cell 1;have c2:=hbk.cell 2;have c3:=hbk.cell 3;have c4:=hbk.cell 4;have c5:=hbk.cell 5;have f0:=hbk.froz 0;have f1:=hbk.froz 1;have f2:=hbk.froz 2;have f3:=hbk.froz 3;have f4:=hbk.froz 4;have f5:=hbk.froz 5;have HBK:=hid hbk;clear hbk;go_wp2;go_ret2;refine HK.out _ ((((((HBK.out.set 0 _).set 1 _).set 2 _).set 3 _).set 4 _).set 5 _) ?_;refine(Step.of_below _ HB5.out).trans ?_;exact(((((zal _ _ _ _ (by simp[za2])).trans (zal _ _ _ _ (by simp[za2]))).trans (zal _ _ _ _ (by simp[za2]))).trans (zal _ _ _ _ (by simp[za2]))).trans (zal _ _ _ _ (by simp[za2]))).trans (zal _ _ _ _ (by simp[za2]))
theorem zxp {w:World} {b lim:Nat} {vh vo:Value} {s:Gs} (h:StG w b lim vh vo s) (hwf:WfG lim s) (hlim:lim≤2000) (e:Ev) (he:mayE e) (ht:sizG e≤1000) :
    Calls Tryz.prog 60 #[.pointer (some ⟨b,0,none⟩),valE e] w fun r w'=>zeq lim w b vh vo (zgh lim s e) r w':=by
  cases s with
  | bad=>exact zyr h _
  | live z H op =>
    have hR:SgR w b lim z vh vo H op:=⟨h.1,h.2.1,h.2.2⟩
    obtain⟨w1,w2,w3,w4⟩:=hwf;simp only[zgh];split
    · rename_i hp
      exact ztw hR e he ht hp
    · rename_i hp
      split
      · rename_i h7
        obtain⟨h7,h1⟩:=h7
        match op,h1 with
        | [x],_=>exact ztk hR ⟨(w4 x (by simp)).1,by have:=(w4 x (by simp)).2;omega⟩ (by omega) e he ht h7
      · rename_i h7
        split
        · rename_i h3
          exact zte hR ⟨hlim,by omega⟩ e he ht hp h7 h3
        · rename_i h3
          exact zsl hR ⟨hlim,by omega⟩ (by omega) (fun x hx=>⟨(w4 x hx).1,by have:=(w4 x hx).2;omega⟩) (by omega) e he ht hp h7 h3
end
section
open Go.RowKit
open Go.Lib
def gts:List Nat:=[118,20,173]
structure GK (w0 w:World) (b lim:Nat) (s:Gs):Prop where
 at_:∃vh vo,StG w b lim vh vo s∧∀k∈za2 b vh vo,w0.heap.size≤k
 wf:WfG lim s
 lim:lim≤2000
 bel:Below w0.heap.size w0 w
theorem StG.typed {w:World} {b lim:Nat} {vh vo:Value} {s:Gs} (h:StG w b lim vh vo s):∀k∈za2 b vh vo,∃c t fr,w.heap[k]? = some (.cells c t fr)∧t∈gts:=by
 obtain⟨n,m,xs,ys,hW,hO,_⟩:=h.rows;intro k hk;simp only[za2,List.mem_cons,List.mem_append] at hk;rcases hk with rfl|hk|hk
 ·exact⟨_,_,_,h.sgb,by decide⟩
 ·obtain⟨c,hc⟩:=hW.typed k hk
  exact⟨_,_,_,hc,by decide⟩
 ·obtain⟨c,hc⟩:=hO.typed k hk
  exact⟨_,_,_,hc,by decide⟩
theorem StG.off {w w':World} {b lim:Nat} {vh vo:Value} {s:Gs} {F':List Nat} (h:StG w b lim vh vo s) (k:Step (za2 b vh vo) F' w w'):Off gts w w':=fun i c t fr hi ht=>by
 rw[k.block i (Array.getElem?_eq_some_iff.1 hi).1 (fun hk=> ?_)]
 ·exact hi
 ·obtain⟨c',t',fr',hc,ht'⟩:=h.typed i hk
  rw[hi] at hc
  injection hc with hc
  injection hc with _ h2 _
  exact ht (h2▸ht')
end
section
open Go.RowKit
open Go.Lib
theorem CP.keep2 {w w':World} {b o D pl:Nat} {h:Hd} {mj:Nat} {ch:Bool} {lk:Nat} {vt:Value} {t:List UInt8} {u:Option (Nat×Nat×Nat)} {vs:Value} {n:Nat} {xs:List Value} (c:CP w b o D pl h mj ch lk vt t u vs n xs)
  (hb:w'.heap[b]? = w.heap[b]?) (ho:∀k∈Value.owner vt++Value.owner vs,w'.heap[k]? = w.heap[k]?):CP w' b o D pl h mj ch lk vt t u vs n xs :=
 ⟨c.a.keep hb,c.hd.keep hb,c.tx.keep hb,c.ck.keep hb,⟨c.op.ptr.keep hb,c.op.win.keep fun i hi=>ho i (by simp[hi]),c.op.far⟩,c.wt.keep fun i hi=>ho i (by simp[hi]),c.ft⟩
theorem PP.keep2 {w w':World} {b o D pl kd nm fm:Nat} {h:Hd} {tk lk:Nat} {vt:Value} {t:List UInt8} {u:Option (Nat×Nat×Nat)} {vs:Value} {n:Nat} {xs:List Value} (c:PP w b o D pl kd nm fm h tk lk vt t u vs n xs)
  (hb:w'.heap[b]? = w.heap[b]?) (ho:∀k∈Value.owner vt++Value.owner vs,w'.heap[k]? = w.heap[k]?):PP w' b o D pl kd nm fm h tk lk vt t u vs n xs :=
 ⟨c.a.keep hb,c.it.keep hb,c.hd.keep hb,c.tx.keep hb,c.ck.keep hb,⟨c.op.ptr.keep hb,c.op.win.keep fun i hi=>ho i (by simp[hi]),c.op.far⟩,c.wt.keep fun i hi=>ho i (by simp[hi]),c.ft⟩
theorem CP.own {w:World} {b o D pl:Nat} {h:Hd} {mj:Nat} {ch:Bool} {lk:Nat} {vt:Value} {t:List UInt8} {u:Option (Nat×Nat×Nat)} {vs:Value} {n:Nat} {xs:List Value} (c:CP w b o D pl h mj ch lk vt t u vs n xs):∀k∈Value.owner vt++Value.owner vs,k<w.heap.size:=fun k hk=>(List.mem_append.1 hk).elim (c.wt.lt k) (c.op.win.lt k)
theorem PP.own {w:World} {b o D pl kd nm fm:Nat} {h:Hd} {tk lk:Nat} {vt:Value} {t:List UInt8} {u:Option (Nat×Nat×Nat)} {vs:Value} {n:Nat} {xs:List Value} (c:PP w b o D pl kd nm fm h tk lk vt t u vs n xs):∀k∈Value.owner vt++Value.owner vs,k<w.heap.size:=fun k hk=>(List.mem_append.1 hk).elim (c.wt.lt k) (c.op.win.lt k)
theorem StP.keep {w w':World} {b o D:Nat} {s:Ci} {vt vs:Value} (h:StP w b o D s vt vs) (hb:w'.heap[b]? = w.heap[b]?) (ho:∀k∈Value.owner vt++Value.owner vs,w'.heap[k]? = w.heap[k]?):StP w' b o D s vt vs:=by
 cases s with
 | bad e=>exact⟨h.1,h.2.1.keep hb,h.2.2⟩
 | _=>exact CP.keep2 h hb ho
theorem StP.own {w:World} {b o D:Nat} {s:Ci} {vt vs:Value} (h:StP w b o D s vt vs):∀k∈Value.owner vt++Value.owner vs,k<w.heap.size:=by
  cases s with
  | bad e =>
    obtain⟨_,_,rfl,rfl⟩:=h;simp[Value.owner]
  | _=>exact CP.own h
theorem StPm.keep {w w':World} {b o D:Nat} {s:Pm} {vt vs:Value} (h:StPm w b o D s vt vs) (hb:w'.heap[b]? = w.heap[b]?) (ho:∀k∈Value.owner vt++Value.owner vs,w'.heap[k]? = w.heap[k]?):StPm w' b o D s vt vs:=by
  cases s with
  | c x =>
    cases x with
    | bad e=>exact⟨h.1,h.2.1.keep hb,h.2.2⟩
    | item s dn =>
      obtain⟨kd,nm,fm,g,c⟩:=h;exact⟨kd,nm,fm,g,c.keep2 hb ho⟩
    | text s m n t u =>
      obtain⟨kd,nm,fm,g,c⟩:=h;exact⟨kd,nm,fm,g,c.keep2 hb ho⟩
    | head _ _=>exact h.elim
    | open_ _ _ _=>exact h.elim
    | chead _ _ _ _=>exact h.elim
    | ctext _ _ _ _ _=>exact h.elim
  | num s k q n a =>
    obtain⟨nm,c⟩:=h;exact⟨nm,c.keep2 hb ho⟩
theorem StPm.own {w:World} {b o D:Nat} {s:Pm} {vt vs:Value} (h:StPm w b o D s vt vs):∀k∈Value.owner vt++Value.owner vs,k<w.heap.size:=by
  cases s with
  | c x =>
    cases x with
    | bad e =>
      obtain⟨_,_,rfl,rfl⟩:=h;simp[Value.owner]
    | item s dn =>
      obtain⟨kd,nm,fm,g,c⟩:=h;exact c.own
    | text s m n t u =>
      obtain⟨kd,nm,fm,g,c⟩:=h;exact c.own
    | head _ _=>exact h.elim
    | open_ _ _ _=>exact h.elim
    | chead _ _ _ _=>exact h.elim
    | ctext _ _ _ _ _=>exact h.elim
  | num s k q n a =>
    obtain⟨nm,c⟩:=h;exact c.own
theorem StG.keep {w w':World} {b lim:Nat} {vh vo:Value} {s:Gs} (h:StG w b lim vh vo s) (hk:∀k∈za2 b vh vo,w'.heap[k]? = w.heap[k]?):StG w' b lim vh vo s:=by
  have hb:=hk b (by simp[za2]);cases s with
  | bad =>
    obtain⟨h1,h2⟩:=h;exact⟨hb.trans h1,h2⟩
  | live z H op =>
    obtain⟨h1,h2,h3⟩:=h;exact⟨hb.trans h1,h2.keep fun i hi=>hk i (by simp[za2,hi]),h3.keep fun i hi=>hk i (by simp[za2,hi])⟩
def RdAt (w:World) (D:Nat) (V:Value) (F:List Nat):Rs→Prop
 | .js s=>∃b,V= .iface 94 (.pointer (some ⟨b,0,none⟩))∧F=[b]∧PAt w b 0 D s
 | .cb s=>∃b vt vs,V= .iface 96 (.pointer (some ⟨b,0,none⟩))∧F=b::(Value.owner vt++Value.owner vs)∧StP w b 0 D s vt vs
 | .pk s=>∃b vt vs,V= .iface 98 (.pointer (some ⟨b,0,none⟩))∧F=b::(Value.owner vt++Value.owner vs)∧StPm w b 0 D s vt vs
theorem RdAt.keep {w w':World} {D:Nat} {V:Value} {F:List Nat} {r:Rs} (h:RdAt w D V F r) (hk:∀k∈F,w'.heap[k]? = w.heap[k]?):RdAt w' D V F r:=by
  cases r with
  | js s =>
    obtain⟨b,rfl,rfl,h⟩:=h;exact⟨b,rfl,rfl,h.keep (hk b (by simp))⟩
  | cb s =>
    obtain⟨b,vt,vs,rfl,rfl,h⟩:=h;exact⟨b,vt,vs,rfl,rfl,h.keep (hk b (by simp)) fun k hi=>hk k (List.mem_cons_of_mem _ hi)⟩
  | pk s =>
    obtain⟨b,vt,vs,rfl,rfl,h⟩:=h;exact⟨b,vt,vs,rfl,rfl,h.keep (hk b (by simp)) fun k hi=>hk k (List.mem_cons_of_mem _ hi)⟩
theorem RdAt.lt {w:World} {D:Nat} {V:Value} {F:List Nat} {r:Rs} (h:RdAt w D V F r):∀k∈F,k<w.heap.size:=by
  cases r with
  | js s =>
    obtain⟨b,rfl,rfl,h⟩:=h;intro k hk;simp only[List.mem_singleton] at hk;exact hk▸h.lt
  | cb s =>
    obtain⟨b,vt,vs,rfl,rfl,h⟩:=h;intro k hk;exact(List.mem_cons.1 hk).elim (fun e=>e▸h.lt) (h.own k)
  | pk s =>
    obtain⟨b,vt,vs,rfl,rfl,h⟩:=h;intro k hk;exact(List.mem_cons.1 hk).elim (fun e=>e▸h.lt) (h.own k)
theorem RdAt.go {w w':World} {D:Nat} {V:Value} {F:List Nat} {r:Rs} (h:RdAt w D V F r) (k:Below w.heap.size w w'):RdAt w' D V F r:=h.keep fun i hi=>k.block i (h.lt i hi)
def zkx (w w':World) (D:Nat) (V:Value) (F:List Nat) (q:Rs×List Ev) (r:Ending):Prop :=
 ∃u F',r= .returned (.tuple #[u,.int .i64 (zbz q.1:Nat)])∧Vls w w' u q.2∧RdAt w' D V F' q.1∧Step F F' w w'
theorem Subg.stepF {g g':List Nat} {b o n:Nat} {w w':World} (h:Subg g b o n w w') (hg:∀k∈g',k∈g∨w.heap.size≤k):Step (b::g) (b::g') w w' :=
 ⟨h.os,h.tape,h.output,h.size,fun k hk hn=>h.block k hk (fun e=>hn (by simp[e])) (fun e=>hn (by simp[e])),fun k hk=>(List.mem_cons.1 hk).elim (fun e=> .inl (by simp[e])) (fun hk=>(hg k hk).imp (fun h=>by simp[h]) id)⟩
theorem zalh {w:World} {b D:Nat} {s:Js} (h:PAt w b 0 D s) (y:UInt8) :
  Calls Tryz.prog 97 #[.pointer (some ⟨b,0,none⟩),.int .u8 y.toNat] w fun r w'=>zkx w w' D (.iface 94 (.pointer (some ⟨b,0,none⟩))) [b] (zaf D (.js s) y) r :=
 (zadt h y).mono fun r w' k=>by
  obtain⟨u,hr,hv⟩:=k.tells;exact⟨u,[b],hr,hv,⟨b,rfl,rfl,k.at_⟩,k.sub.step⟩
theorem zak3 {w:World} {b D M:Nat} {s:Ci} {vt vs:Value} (hD:1≤D∧D≤16) (h:StP w b 0 D s vt vs) (hw:WfK D M s) (hM:M+1≤2000000000) (y:UInt8) :
  Calls Tryz.prog 154 #[.pointer (some ⟨b,0,none⟩),.int .u8 y.toNat] w fun r w'=>zkx w w' D (.iface 96 (.pointer (some ⟨b,0,none⟩))) (b::(Value.owner vt++Value.owner vs)) (zaf D (.cb s) y) r :=
 (zaer hD h hw hM y).mono fun r w' k=>by
  obtain⟨⟨u,hr,hv⟩,⟨vt',vs',hst,ho⟩,hs⟩:=k;exact⟨u,_,hr,hv,⟨b,vt',vs',rfl,rfl,hst⟩,hs.stepF ho⟩
theorem zalb {w:World} {b D:Nat} {s:Pm} {vt vs:Value} (hD:1≤D∧D≤16) (h:StPm w b 0 D s vt vs) (hw:WfPm D s) (y:UInt8) :
  Calls Tryz.prog 195 #[.pointer (some ⟨b,0,none⟩),.int .u8 y.toNat] w fun r w'=>zkx w w' D (.iface 98 (.pointer (some ⟨b,0,none⟩))) (b::(Value.owner vt++Value.owner vs)) (zaf D (.pk s) y) r :=
 (zaco hD h hw y).mono fun r w' k=>by
  obtain⟨⟨u,hr,hv⟩,⟨vt',vs',hst,ho⟩,hs⟩:=k;exact⟨u,_,hr,hv,⟨b,vt',vs',rfl,rfl,hst⟩,hs.stepF ho⟩
def GtAt (w:World) (lim:Nat) (V:Value) (F:List Nat):Option Gs→Prop
 | none=>V= .pointer none∧F=[]
 | some g=>∃b vh vo,V= .pointer (some ⟨b,0,none⟩)∧F=za2 b vh vo∧StG w b lim vh vo g
theorem GtAt.keep {w w':World} {lim:Nat} {V:Value} {F:List Nat} {g:Option Gs} (h:GtAt w lim V F g) (hk:∀k∈F,w'.heap[k]? = w.heap[k]?):GtAt w' lim V F g:=by
  cases g with
  | none=>exact h
  | some g =>
    obtain⟨b,vh,vo,rfl,rfl,h⟩:=h;exact⟨b,vh,vo,rfl,rfl,h.keep hk⟩
theorem GtAt.typed {w:World} {lim:Nat} {V:Value} {F:List Nat} {g:Option Gs} (h:GtAt w lim V F g):∀k∈F,∃c t fr,w.heap[k]? = some (.cells c t fr)∧t∈gts:=by
  cases g with
  | none =>
    obtain⟨_,rfl⟩:=h;simp
  | some g =>
    obtain⟨b,vh,vo,rfl,rfl,h⟩:=h;exact h.typed
theorem GtAt.lt {w:World} {lim:Nat} {V:Value} {F:List Nat} {g:Option Gs} (h:GtAt w lim V F g):∀k∈F,k<w.heap.size:=fun k hk=>by
 obtain⟨c,t,fr,hc,_⟩:=h.typed k hk;exact(Array.getElem?_eq_some_iff.1 hc).1
theorem GtAt.go {w w':World} {lim:Nat} {V:Value} {F:List Nat} {g:Option Gs} (h:GtAt w lim V F g) (k:Below w.heap.size w w'):GtAt w' lim V F g:=h.keep fun i hi=>k.block i (h.lt i hi)
theorem GtAt.kept {w w':World} {lim:Nat} {V:Value} {F:List Nat} {g:Option Gs} {ts:List Nat} (h:GtAt w lim V F g) (k:Off ts w w') (ht:∀t∈gts,t∉ts):GtAt w' lim V F g:=h.keep fun i hi=>by
 obtain⟨c,t,fr,hc,h1⟩:=h.typed i hi;rw[hc,k _ _ _ _ hc (ht t h1)]
def WtAt (w0 w:World) (V:Value) (F:List Nat):Ws→Prop
 | .js pr q=>∃b F',V= .iface 100 (.pointer (some ⟨b,0,none⟩))∧F=b::F'∧JW w0 w b F' q∧PrintC w0 pr
 | .cb q=>∃b F',V= .iface 104 (.pointer (some ⟨b,0,none⟩))∧F=b::F'∧QW w0 w b F' q
 | .pk q=>∃b F',V= .iface 109 (.pointer (some ⟨b,0,none⟩))∧F=b::F'∧PoW w0 w b F' q
def wts:List Nat:=[103,4,108,284,113,288]
theorem WtAt.bel {w0 w:World} {V:Value} {F:List Nat} {q:Ws} (h:WtAt w0 w V F q):Below w0.heap.size w0 w:=by
 cases q with
 | js pr q=>obtain⟨b,F',rfl,rfl,h,_⟩:=h;exact h.bel
 | cb q=>obtain⟨b,F',rfl,rfl,h⟩:=h;exact h.bel
 | pk q=>obtain⟨b,F',rfl,rfl,h⟩:=h;exact h.bel
theorem WtAt.low {w0 w:World} {V:Value} {F:List Nat} {q:Ws} (h:WtAt w0 w V F q):∀k∈F,w0.heap.size≤k:=by
 cases q with
 | js pr q=>obtain⟨b,F',rfl,rfl,h,_⟩:=h;exact fun k hk=>(List.mem_cons.1 hk).elim (fun e=>e▸h.lo) (h.row k)
 | cb q=>obtain⟨b,F',rfl,rfl,h⟩:=h;exact fun k hk=>(List.mem_cons.1 hk).elim (fun e=>e▸h.lo) (h.row k)
 | pk q=>obtain⟨b,F',rfl,rfl,h⟩:=h;exact fun k hk=>(List.mem_cons.1 hk).elim (fun e=>e▸h.lo) (h.row k)
theorem WtAt.typed {w0 w:World} {V:Value} {F:List Nat} {q:Ws} (h:WtAt w0 w V F q):∀k∈F,∃c t fr,w.heap[k]? = some (.cells c t fr)∧t∈wts:=by
  cases q with
  | js pr q =>
    obtain⟨b,F',rfl,rfl,h,_⟩:=h;intro k hk;rcases List.mem_cons.1 hk with rfl|hk
    · obtain⟨c,fr,hc⟩:=h.typ
      exact⟨c,_,fr,hc,by simp[wts]⟩
    · obtain⟨_,_,cur,hc⟩:=h.at_.row k hk
      exact⟨cur,_,_,hc,by simp[wts]⟩
  | cb q =>
    obtain⟨b,F',rfl,rfl,h⟩:=h;intro k hk;rcases List.mem_cons.1 hk with rfl|hk
    · obtain⟨c,fr,hc⟩:=h.typ
      exact⟨c,_,fr,hc,by simp[wts]⟩
    · obtain⟨_,_,cur,hc⟩:=h.at_.row k hk
      exact⟨cur,_,_,hc,by simp[wts]⟩
  | pk q =>
    obtain⟨b,F',rfl,rfl,h⟩:=h;intro k hk;rcases List.mem_cons.1 hk with rfl|hk
    · obtain⟨c,fr,hc⟩:=h.typ
      exact⟨c,_,fr,hc,by simp[wts]⟩
    · obtain⟨_,_,cur,hc⟩:=h.at_.row k hk
      exact⟨cur,_,_,hc,by simp[wts]⟩
theorem WtAt.lt {w0 w:World} {V:Value} {F:List Nat} {q:Ws} (h:WtAt w0 w V F q):∀k∈F,k<w.heap.size:=fun k hk=>by
 obtain⟨c,t,fr,hc,_⟩:=h.typed k hk;exact(Array.getElem?_eq_some_iff.1 hc).1
theorem WtAt.keep {w0 w w':World} {V:Value} {F:List Nat} {q:Ws} (h:WtAt w0 w V F q) (hk:∀k∈F,w'.heap[k]? = w.heap[k]?) (hb:Below w0.heap.size w0 w'):WtAt w0 w' V F q:=by
  cases q with
  | js pr q =>
    obtain⟨b,F',rfl,rfl,h,hT⟩:=h;obtain⟨c,fr,hc⟩:=h.typ;exact⟨b,F',rfl,rfl,⟨h.at_.keep fun i hi=>hk i (by simpa using hi),h.lo,h.row,hb,c,fr,(hk b (by simp)).trans hc⟩,hT⟩
  | cb q =>
    obtain⟨b,F',rfl,rfl,h⟩:=h;obtain⟨c,fr,hc⟩:=h.typ;exact⟨b,F',rfl,rfl,⟨h.at_.keep fun i hi=>hk i (by simpa using hi),h.lo,h.row,hb,c,fr,(hk b (by simp)).trans hc⟩⟩
  | pk q =>
    obtain⟨b,F',rfl,rfl,h⟩:=h;obtain⟨c,fr,hc⟩:=h.typ;exact⟨b,F',rfl,rfl,⟨h.at_.keep fun i hi=>hk i (by simpa using hi),h.lo,h.row,hb,c,fr,(hk b (by simp)).trans hc⟩⟩
theorem WtAt.go {w0 w w':World} {V:Value} {F:List Nat} {q:Ws} (h:WtAt w0 w V F q) (k:Below w.heap.size w w'):WtAt w0 w' V F q:=h.keep (fun i hi=>k.block i (h.lt i hi)) (h.bel.trans (k.mono h.bel.size))
theorem WtAt.kept {w0 w w':World} {V:Value} {F:List Nat} {q:Ws} {ts:List Nat} (h:WtAt w0 w V F q) (k:Off ts w w') (ht:∀t∈wts,t∉ts) (hb:Below w0.heap.size w0 w'):WtAt w0 w' V F q:=h.keep (fun i hi=>by
 obtain⟨c,t,fr,hc,h1⟩:=h.typed i hi;rw[hc,k _ _ _ _ hc (ht t h1)]) hb
theorem WtAt.prW {w0 w:World} {V:Value} {F:List Nat} {q:Ws} (h:WtAt w0 w V F q):PrW q:=by
  cases q with
  | js pr q =>
    obtain⟨_,_,_,_,_,hT⟩:=h;exact hT.size
  | cb q=>trivial
  | pk q=>trivial
def zkb (w0 w w':World) (V:Value) (F:List Nat) (q:(List UInt8×Nat)×Ws) (r:Ending):Prop :=
 r= .returned (.tuple #[.string ⟨q.1.1.toArray⟩,.int .i64 (q.1.2:Nat)])∧∃F',WtAt w0 w' V F' q.2∧Step F F' w w'∧Off wts w w'
theorem Off.more {ts us:List Nat} {w w':World} (h:Off ts w w') (hs:∀t∈ts,t∈us):Off us w w':=fun k c t fr hc ht=>h k c t fr hc (fun hm=>ht (hs t hm))
theorem zak5 {pr:Bool→Nat→List UInt8} {w0 w:World} {b:Nat} {F:List Nat} {q:Os} (h:JW w0 w b F q) (hT:PrintC w0 pr) (hs:q.s.length≤890) {e:Ev} (he:TolE e) :
  Calls Tryz.prog 218 #[.pointer (some ⟨b,0,none⟩),valE e] w fun r w'=>zkb w0 w w' (.iface 100 (.pointer (some ⟨b,0,none⟩))) (b::F) (zbk (.js pr q) e) r :=
 (zac5 h hT (by omega) e he.1 he.2.1.2.1 (Nat.le_trans he.2.2 (by decide))).mono fun r w' k=>by
  obtain⟨hr,F',h1,h2⟩:=k;exact⟨hr,_,⟨b,F',rfl,rfl,h1,hT⟩,h2.step,(h.off h2).more (by simp[wts])⟩
theorem zak4 {w0 w:World} {b:Nat} {F:List Nat} {q:Kq} (h:QW w0 w b F q) (hs:dpQ q.s≤890) {e:Ev} (he:TolE e) :
  Calls Tryz.prog 256 #[.pointer (some ⟨b,0,none⟩),valE e] w fun r w'=>zkb w0 w w' (.iface 104 (.pointer (some ⟨b,0,none⟩))) (b::F) (zbk (.cb q) e) r :=
 (zahl h (by omega) e he.1 he.2.1 (Nat.le_trans he.2.2 (by decide))).mono fun r w' k=>by
  obtain⟨hr,F',h1,h2⟩:=k;exact⟨hr,_,⟨b,F',rfl,rfl,h1⟩,h2.step,(h.off h2).more (by simp[wts])⟩
theorem zak9 {w0 w:World} {b:Nat} {F:List Nat} {q:Kq} (h:PoW w0 w b F q) (hs:q.s.length≤890) {e:Ev} (he:TolE e) :
  Calls Tryz.prog 279 #[.pointer (some ⟨b,0,none⟩),valE e] w fun r w'=>zkb w0 w w' (.iface 109 (.pointer (some ⟨b,0,none⟩))) (b::F) (zbk (.pk q) e) r :=
 (zab4 h (by omega) e he.1 he.2.1 (Nat.le_trans he.2.2 (by decide))).mono fun r w' k=>by
  obtain⟨hr,F',h1,h2⟩:=k;exact⟨hr,_,⟨b,F',rfl,rfl,h1⟩,h2.step,(h.off h2).more (by simp[wts])⟩
end
section
open Go.RowKit
open Go.Lib
structure Pf (B:Nat) (F F':List Nat) (w w':World):Prop where
 os:w'.os=w.os
 tape:w'.tape=w.tape
 output:w'.output=w.output
 size:w.heap.size≤w'.heap.size
 block:∀k,k<B→k∉F→w'.heap[k]? = w.heap[k]?
 foot:∀k∈F',k∈F∨B≤k
theorem Pf.refl (B:Nat) (F:List Nat) (w:World):Pf B F F w w:=⟨rfl,rfl,rfl,Nat.le_refl _,fun _ _ _=>rfl,fun _ h=> .inl h⟩
theorem Pf.trans {B:Nat} {F F' F'':List Nat} {a b c:World} (h:Pf B F F' a b) (k:Pf B F' F'' b c):Pf B F F'' a c :=
 ⟨k.os.trans h.os,k.tape.trans h.tape,k.output.trans h.output,Nat.le_trans h.size k.size,fun i hi hF=>(k.block i hi (fun hF'=>(h.foot i hF').elim hF (fun hB=>by omega))).trans (h.block i hi hF),fun i hi=>(k.foot i hi).elim (h.foot i) .inr⟩
theorem Step.pf {F F':List Nat} {w w':World} {B:Nat} (h:Step F F' w w') (hB:B≤w.heap.size):Pf B F F' w w' :=
 ⟨h.os,h.tape,h.output,h.size,fun k hk hF=>h.block k (by omega) hF,fun k hk=>(h.foot k hk).imp id (fun h=>by omega)⟩
theorem Pf.step {F F':List Nat} {w w':World} (h:Pf w.heap.size F F' w w'):Step F F' w w':=⟨h.os,h.tape,h.output,h.size,h.block,h.foot⟩
theorem zlg {B:Nat} {w w':World} (h:Below B w w') (F:List Nat):Pf B F F w w':=⟨h.os,h.tape,h.output,h.size,fun k hk _=>h.block k hk,fun _ h=> .inl h⟩
theorem Pf.widen {B:Nat} {F F' G G':List Nat} {w w':World} (h:Pf B F F' w w') (hF:∀k∈F,k∈G) (hG:∀k∈G',k∈G∨k∈F'):Pf B G G' w w' :=
 ⟨h.os,h.tape,h.output,h.size,fun k hk hn=>h.block k hk (fun hk'=>hn (hF k hk')),fun k hk=>(hG k hk).elim .inl (fun hk=>(h.foot k hk).imp (hF k) id)⟩
def pipC (e:Nat) (RV SV WV:Value):Array Value:=#[.int .i64 (e:Int),RV,SV,WV]
def PipAt (w0 w:World) (pb D lim:Nat) (F:List Nat):Pp→Prop
 | .over e=>Blk w pb (pipC e .nilIface (.pointer none) .nilIface) 80∧w0.heap.size≤pb∧Below w0.heap.size w0 w∧F=[pb]
 | .live r g q=>∃RV SV WV FR FS FW,Blk w pb (pipC 0 RV SV WV) 80∧RdAt w D RV FR r∧GtAt w lim SV FS g∧WtAt w0 w WV FW q ∧
   w0.heap.size≤pb∧(∀k∈FR++(FS++FW),w0.heap.size≤k∧k≠pb)∧(∀k∈FR,k∉FS++FW)∧(∀k∈FS,k∉FW)∧Below w0.heap.size w0 w∧F=pb::(FR++(FS++FW))
theorem PipAt.bel {w0 w:World} {pb D lim:Nat} {F:List Nat} {s:Pp} (h:PipAt w0 w pb D lim F s):Below w0.heap.size w0 w:=by
  cases s with
  | over e=>exact h.2.2.1
  | live r g q =>
    obtain⟨_,_,_,_,_,_,_,_,_,_,_,_,_,_,h,_⟩:=h;exact h
theorem PipAt.low {w0 w:World} {pb D lim:Nat} {F:List Nat} {s:Pp} (h:PipAt w0 w pb D lim F s):∀k∈F,w0.heap.size≤k∧k<w.heap.size:=by
  cases s with
  | over e =>
    obtain⟨h1,h2,h3,rfl⟩:=h;intro k hk;simp only[List.mem_singleton] at hk;subst hk;exact⟨h2,h1.lt⟩
  | live r g q =>
    obtain⟨RV,SV,WV,FR,FS,FW,h1,h2,h3,h4,h5,h6,h7,h8,h9,rfl⟩:=h;intro k hk;rcases List.mem_cons.1 hk with rfl|hk
    · exact⟨h5,h1.lt⟩
    · refine⟨(h6 k hk).1,?_⟩
      rcases List.mem_append.1 hk with hk|hk
      · exact h2.lt k hk
      · exact(List.mem_append.1 hk).elim (h3.lt k) (h4.lt k)
theorem PipAt.keep {w0 w w':World} {pb D lim:Nat} {F:List Nat} {s:Pp} (h:PipAt w0 w pb D lim F s) (hk:∀k∈F,w'.heap[k]? = w.heap[k]?) (hb:Below w0.heap.size w0 w'):PipAt w0 w' pb D lim F s:=by
  cases s with
  | over e =>
    obtain⟨h1,h2,h3,rfl⟩:=h;exact⟨(hk pb (by simp)).trans h1,h2,hb,rfl⟩
  | live r g q =>
    obtain⟨RV,SV,WV,FR,FS,FW,h1,h2,h3,h4,h5,h6,h7,h8,h9,rfl⟩:=h;exact⟨RV,SV,WV,FR,FS,FW,(hk pb (by simp)).trans h1,h2.keep fun k h=>hk k (by simp[h]),h3.keep fun k h=>hk k (by simp[h]),h4.keep (fun k h=>hk k (by simp[h])) hb,h5,h6,h7,h8,hb,rfl⟩
theorem PipAt.go {w0 w w':World} {pb D lim:Nat} {F:List Nat} {s:Pp} (h:PipAt w0 w pb D lim F s) (k:Below w.heap.size w w'):PipAt w0 w' pb D lim F s :=
 h.keep (fun i hi=>k.block i (h.low i hi).2) (h.bel.trans (k.mono h.bel.size))
theorem RdAt.form {w:World} {D:Nat} {V:Value} {F:List Nat} {r:Rs} (h:RdAt w D V F r):∃d b,V= .iface d (.pointer (some ⟨b,0,none⟩)):=by
 cases r with
 | js s=>obtain⟨b,rfl,_⟩:=h;exact⟨_,b,rfl⟩
 | cb s=>obtain⟨b,_,_,rfl,_⟩:=h;exact⟨_,b,rfl⟩
 | pk s=>obtain⟨b,_,_,rfl,_⟩:=h;exact⟨_,b,rfl⟩
theorem zac1 {w:World} {pb e:Nat} {SV WV:Value} (h:Blk w pb (pipC e .nilIface SV WV) 80) :
  Calls Tryz.prog 55 #[.pointer (some ⟨pb,0,none⟩)] w fun r w'=>r= .returned (.bool true)∧w=w':=by
 have c1:=h.cell 1;simp only[pipC] at c1;clear h;go_enter Tryz.func55,Tryz.ntmps55;go_wp2;go_ret;exact⟨rfl,rfl⟩
theorem zady {w:World} {pb e d b:Nat} {SV WV:Value} (h:Blk w pb (pipC e (.iface d (.pointer (some ⟨b,0,none⟩))) SV WV) 80) :
  Calls Tryz.prog 55 #[.pointer (some ⟨pb,0,none⟩)] w fun r w'=>r= .returned (.bool false)∧w=w':=by
 have c1:=h.cell 1;simp only[pipC] at c1;clear h;go_enter Tryz.func55,Tryz.ntmps55;go_wp2;go_ret;exact⟨rfl,rfl⟩
theorem zjy {w:World} {pb e:Nat} {SV WV:Value} (h:Blk w pb (pipC e .nilIface SV WV) 80) :
  Calls Tryz.prog 43 #[.pointer (some ⟨pb,0,none⟩)] w fun r w'=>r= .returned (.int .i64 (zhj e:Nat))∧w=w':=by
 have HO:=hid (zac1 h);have c0:=h.cell 0;simp only[pipC] at c0;clear h;unfold zhj;by_cases he:e=0
 ·subst he
  rw[if_pos rfl];go_enter Tryz.func43,Tryz.ntmps43;(go_wp2_with fail);refine HO.out.mono ?_;rintro r w1 ⟨rfl,rfl⟩;go_wp2;go_ret;exact⟨rfl,rfl⟩
 ·rw[if_neg he]
  have hz:((e:Int)==0)=false:=by rw[beq_eq_false_iff_ne];omega
  clear he;go_enter Tryz.func43,Tryz.ntmps43;(go_wp2_with fail);refine HO.out.mono ?_;rintro r w1 ⟨rfl,rfl⟩;go_wp2;go_ret;exact⟨rfl,rfl⟩
theorem ze5 {w:World} {pb e d b:Nat} {SV WV:Value} (h:Blk w pb (pipC e (.iface d (.pointer (some ⟨b,0,none⟩))) SV WV) 80) :
  Calls Tryz.prog 43 #[.pointer (some ⟨pb,0,none⟩)] w fun r w'=>r= .returned (.int .i64 0)∧w=w':=by
 have HO:=hid (zady h);clear h;go_enter Tryz.func43,Tryz.ntmps43;(go_wp2_with fail);refine HO.out.mono ?_;rintro r w1 ⟨rfl,rfl⟩;go_wp2;go_ret;exact⟨rfl,rfl⟩
theorem zzd (e:Ev):(zfi e).t.size≤e.t.size:=by
 unfold zfi
 repeat' split
 all_goals first | exact Nat.zero_le _|exact Nat.le_refl _
def zafi (w w':World) (lim:Nat) (SV:Value) (FS:List Nat) (q:Option Gs×List Ev×Nat) (r:Ending):Prop :=
 ∃u FS',r= .returned (.tuple #[u,.int .i64 (q.2.2:Nat)])∧Win w' 20 1 u q.2.1.length (q.2.1.map valE)∧GtAt w' lim SV FS' q.1∧Step FS FS' w w'∧Off gts w w'
theorem zs9 {w:World} {pb lim e0:Nat} {RV SV WV:Value} {FS:List Nat} {g:Option Gs} (h:Blk w pb (pipC e0 RV SV WV) 80) (hG:GtAt w lim SV FS g) (hok:OkOG lim g) (hlim:lim≤2000) {e:Ev} (he:TolE e) :
    Calls Tryz.prog 59 #[.pointer (some ⟨pb,0,none⟩),valE e] w fun r w'=>zafi w w' lim SV FS (zcm lim g e) r:=by
  have c2:=h.cell 2;simp only[pipC] at c2;cases g with
  | none =>
    obtain⟨rfl,rfl⟩:=hG;have HF:Hid (∀W,Below w.heap.size w W→zafi w (W.alloc (.cells #[valE e] 20)) lim (.pointer none) [] (zcm lim none e) (.returned (.tuple #[.slice (some ⟨W.heap.size,0,none⟩) 1 1,.int .i64 0]))):=hid (fun W k=>by
      have k2:=zaa k (.cells #[valE e] 20);refine⟨_,[],rfl,?_,⟨rfl,rfl⟩,Step.of_below _ k2,fun i c t fr hi _=>by rw[k2.block i (Array.getElem?_eq_some_iff.1 hi).1];exact hi⟩;exact⟨rfl,.inr ⟨W.heap.size,0,1,_,rfl,heap_alloc_new W _,Nat.le_refl _,by simp,by unfold maxLen;omega,by simp[zcm]⟩⟩)
    have HB:=hid (Below.refl w.heap.size w);have hform:=zd2 e;generalize valE e=V at *
    clear h hok he;rcases hform with rfl|⟨d,zz,rfl⟩
    all_goals
      go_enter Tryz.func59,Tryz.ntmps59;go_wp2;go_ret2;exact HF.out _ HB.out
  | some g =>
    obtain⟨b,vh,vo,rfl,rfl,hg⟩:=hG;have HS:Hid (Calls Tryz.prog 60 #[.pointer (some ⟨b,0,none⟩),valE e] w fun r w'=>zafi w w' lim (.pointer (some ⟨b,0,none⟩)) (za2 b vh vo) (zcm lim (some g) e) r):=hid (by
      refine(zxp hg hok.1 hlim e he.1 (by have:=zzd e;have:=he.2.2;unfold sizG;omega)).mono ?_;rintro r w' ⟨v,rfl,vh',vo',hW,hk,hs',hst⟩;exact⟨v,_,rfl,hW,⟨b,vh',vo',rfl,rfl,hs'⟩,hst,hg.off hst⟩)
    generalize zcm lim (some g) e=R at *
    generalize valE e=V at *
    clear h hok he hg;go_enter Tryz.func59,Tryz.ntmps59;(go_wp2_with fail);refine HS.out.mono ?_;rintro r w1 ⟨u,FS',rfl,h1,h2,h3,h4⟩;have HF:Hid (zafi w w1 lim (.pointer (some ⟨b,0,none⟩)) (za2 b vh vo) R (.returned (.tuple #[u,.int .i64 (R.2.2:Nat)]))):=hid ⟨u,FS',rfl,h1,h2,h3,h4⟩;clear h1 h2 h3 h4;go_wp2;go_ret2;exact HF.out
end
section
open Go.RowKit
open Go.Lib
theorem zfc {L:List Ev} {j:Nat} (h:j<L.length):L.drop j=L[j]::L.drop (j+1):=List.drop_eq_getElem_cons h
theorem zgz {q:Ws} {e:Ev} {l:List Ev} (h:(zbk q e).1.2≠0):za6 q (e::l)=(([],(zbk q e).1.2),(zbk q e).2):=by
 conv=>lhs;unfold za6
 rw[if_pos h]
theorem zxm {q:Ws} {e:Ev} {l:List Ev} (h:(zbk q e).1.2=0):za6 q (e::l)=(((zbk q e).1.1++(za6 (zbk q e).2 l).1.1,(za6 (zbk q e).2 l).1.2),(za6 (zbk q e).2 l).2):=by
 conv=>lhs;unfold za6
 rw[if_neg (fun hh=>hh h)]
structure WrI (w0 w1 wr:World) (B bo lim n:Nat) (SV WV u:Value) (FS FW FW':List Nat) (g:Option Gs) (l:List Ev) (q:Ws) (bs:List UInt8) (R:(List UInt8×Nat)×Ws) (j:Nat) (qj:Ws) (acc:List UInt8):Prop where
 gs:GtAt wr lim SV FS g
 ws:WtAt w0 wr WV FW' qj
 bld:IsB B bo (bs++acc) wr
 lst:Win wr 20 1 u n (l.map valE)
 fr:Pf B FW FW' w1 wr
 eq:R=((acc++(za6 qj (l.drop j)).1.1,(za6 qj (l.drop j)).1.2),(za6 qj (l.drop j)).2)
 len:acc.length≤100001*j
 dep:dpW qj≤dpW q+j
 B0:B≤wr.heap.size∧w0.heap.size≤B
 ap:∀k∈FS,k∉FW'
theorem WrI.mid {w0 w1 wr w2:World} {B bo lim n:Nat} {SV WV u:Value} {FS FW FW' F2:List Nat} {g:Option Gs} {l:List Ev} {q:Ws} {bs:List UInt8} {R:(List UInt8×Nat)×Ws} {j:Nat} {qj q2:Ws} {acc:List UInt8} (h:WrI w0 w1 wr B bo lim n SV WV u FS FW FW' g l q bs R j qj acc)
  (_hw:WtAt w0 w2 WV F2 q2) (hs:Step FW' F2 wr w2) (ho:Off wts wr w2):GtAt w2 lim SV FS g∧IsB B bo (bs++acc) w2∧Win w2 20 1 u n (l.map valE)∧Pf B FW F2 w1 w2∧B≤w2.heap.size :=
 ⟨h.gs.kept ho (by decide),zaar h.bld ho (by decide) (by decide),h.lst.keep (fun k hk=>by
  obtain⟨cur,hc⟩:=h.lst.typed k hk;rw[hc,ho _ _ _ _ hc (by decide)]),h.fr.trans (hs.pf h.B0.1),Nat.le_trans h.B0.1 hs.size⟩
theorem WrI.next {w0 w1 wr w2 w3:World} {B bo lim n:Nat} {SV WV u:Value} {FS FW FW' F2:List Nat} {g:Option Gs} {l:List Ev} {q:Ws} {bs:List UInt8} {R:(List UInt8×Nat)×Ws} {j:Nat} {qj q2:Ws} {acc T:List UInt8} (h:WrI w0 w1 wr B bo lim n SV WV u FS FW FW' g l q bs R j qj acc)
  (hj:j<l.length) (hq:zbk qj l[j]=((T,0),q2)) (hT:T.length≤100001) (hw:WtAt w0 w2 WV F2 q2) (hs:Step FW' F2 wr w2) (ho:Off wts wr w2)
  (hi:IsB B bo (bs++acc++T) w3) (hb:Below B w2 w3) (hk:Lib.OthersKept 5 (some bo) w2 w3):WrI w0 w1 w3 B bo lim n SV WV u FS FW F2 g l q bs R (j+1) q2 (acc++T):=by
 obtain⟨m1,m2,m3,m4,m5⟩:=h.mid hw hs ho;have hO:=zrk m2 hk;have hd:=zrd qj l[j];rw[hq] at hd;refine⟨m1.kept hO (by decide),hw.kept hO (by decide) (hw.bel.trans (hb.mono h.B0.2)),by rw[← List.append_assoc];exact hi,m3.keep (fun k hk=>by
  obtain⟨cur,hc⟩:=m3.typed k hk;rw[hc,hO _ _ _ _ hc (by decide)]),m4.trans (zlg hb _),?_,?_,?_,⟨Nat.le_trans m5 hb.size,h.B0.2⟩,fun k hk hm=>(hs.foot k hm).elim (h.ap k hk) (fun h1=>by have:=h.gs.lt k hk;omega)⟩
 ·have:=h.eq
  rw[zfc hj,zxm (by rw[hq]),hq] at this;rw[this];simp
 ·have:=h.len
  rw[List.length_append];omega
 ·have:=h.dep
  simp only at hd;omega
def zyc (w0 w w':World) (B bo lim:Nat) (SV WV:Value) (FS FW:List Nat) (bs:List UInt8) (q:(List UInt8×Nat)×(Option Gs×Ws)) (r:Ending):Prop :=
 r= .returned (.int .i64 (q.1.2:Nat))∧∃FS' FW',GtAt w' lim SV FS' q.2.1∧WtAt w0 w' WV FW' q.2.2∧IsB B bo (bs++q.1.1) w'∧Pf B (FS++FW) (FS'++FW') w w'∧(∀k∈FS',k∉FW')∧B≤w'.heap.size
theorem zpo {w w1 wr:World} {B:Nat} {FS0 FS FW FW':List Nat} (h0:Step FS0 FS w w1) (hB:B≤w.heap.size) (h:Pf B FW FW' w1 wr):Pf B (FS0++FW) (FS++FW') w wr :=
  ((h0.pf hB).widen (G:=FS0++FW) (G':=FS++FW) (fun k hk=>by simp[hk]) (fun k hk=>by
    rcases List.mem_append.1 hk with hk|hk
    · exact .inr hk
    · exact .inl (by simp[hk]))).trans (h.widen (fun k hk=>by simp[hk]) (fun k hk=>by
    rcases List.mem_append.1 hk with hk|hk
    · exact .inl (by simp[hk])
    · exact .inr hk))
theorem zvq {w0 w w1:World} {pb B bo e0:Nat} {RV SV WV:Value} {FS FS1 FW:List Nat} {q:Ws} {bs:List UInt8} (h:Blk w pb (pipC e0 RV SV WV) 80) (hW:WtAt w0 w WV FW q)
  (hap:∀k∈FS,k∉FW) (hpb:pb<B∧pb∉FS∧pb∉FW) (hSl:∀k∈FS,w0.heap.size≤k) (hI:IsB B bo bs w) (hB:B≤w.heap.size∧w0.heap.size≤B) (hs:Step FS FS1 w w1) (ho:Off gts w w1) :
  WtAt w0 w1 WV FW q∧IsB B bo bs w1∧Blk w1 pb (pipC e0 RV SV WV) 80∧(∀k∈FS1,k∉FW)∧B≤w1.heap.size:=by
 have hbl:∀k,k<w.heap.size→k∉FS→w1.heap[k]? = w.heap[k]? := hs.block;have hlt:pb<w.heap.size:=h.lt;exact⟨hW.keep (fun k hk=>hbl k (hW.lt k hk) (fun hk'=>hap k hk' hk)) (hW.bel.trans ⟨hs.os,hs.tape,hs.output,hs.size,fun k hk=>hbl k (by omega) (fun hk'=>by have:=hSl k hk';omega)⟩),zaar hI ho (by decide) (by decide),(hbl pb hlt hpb.2.1).trans h,fun k hk hm=>(hs.foot k hk).elim (fun h1=>hap k h1 hm) (fun h1=>by have:=hW.lt k hm;omega),Nat.le_trans hB.1 hs.size⟩
theorem zt8 {w0 w:World} {pb B bo lim e0:Nat} {RV SV WV:Value} {FS FW:List Nat} {g:Option Gs} {q:Ws} {bs:List UInt8} (h:Blk w pb (pipC e0 RV SV WV) 80) (hG:GtAt w lim SV FS g) (hW:WtAt w0 w WV FW q)
    (hap:∀k∈FS,k∉FW) (hpb:pb<B∧pb∉FS∧pb∉FW) (hSl:∀k∈FS,w0.heap.size≤k) (hok:OkOG lim g) (hlim:lim≤2000) (hdep:zdp g+dpW q≤880) (hbs:bs.length≤1000000000000) (hI:IsB B bo bs w) (hB:B≤w.heap.size∧w0.heap.size≤B) {e:Ev} (he:TolE e) :
    Calls Tryz.prog 56 #[.pointer (some ⟨pb,0,none⟩),valE e,.pointer (some ⟨bo,0,none⟩)] w fun r w'=>zyc w0 w w' B bo lim SV WV FS FW bs (zbu lim g q e) r:=by
  have HFree:=hid (zs9 h hG hok hlim he);obtain⟨f1,f2,f3⟩:=znb hlim hok he;have hP:zbu lim g q e=if(zcm lim g e).2.2≠0 then(([],(zcm lim g e).2.2),((zcm lim g e).1,q)) else((za6 q (zcm lim g e).2.1).1,((zcm lim g e).1,(za6 q (zcm lim g e).2.1).2)):=rfl
  generalize zbu lim g q e=PP0 at *
  generalize zcm lim g e=R0 at *
  obtain⟨g',l,er⟩:=R0;simp only at f1 f2 f3 hP;have HK:Hid (∀w1 FS1,GtAt w1 lim SV FS1 g'→Step FS FS1 w w1→Off gts w w1→WtAt w0 w1 WV FW q∧IsB B bo bs w1∧Blk w1 pb (pipC e0 RV SV WV) 80∧(∀k∈FS1,k∉FW)∧B≤w1.heap.size):=hid (fun w1 FS1 _ hs ho=>zvq h hW hap hpb hSl hI hB hs ho);generalize valE e=V0 at *
  by_cases hz:er=0
  · subst hz
    rw[if_neg (by simp)] at hP;obtain⟨n,hn⟩:∃n,l.length=n:=⟨_,rfl⟩
    obtain⟨R,hR⟩:∃R,za6 q l=R:=⟨_,rfl⟩
    rw[hR] at hP;have HPP:=hid hP;have HR:=hid hR;have HNN:=hid hn;have HTOL:=hid f2;have HNB:Hid (n+dpW q≤881∧bs.length≤1000000000000∧B≤w.heap.size∧w0.heap.size≤B∧pb<B∧pb∉FW):=hid ⟨by omega,hbs,hB.1,hB.2,hpb.1,hpb.2.2⟩;have hn1:n≤881:=by omega
    clear h hG hok he hP hR hn f1 f2 f3 hbs hB hpb hSl hap hdep hlim hI hW;go_enter Tryz.func56,Tryz.ntmps56;(go_wp2_with fail);refine HFree.out.mono ?_;rintro r w1 ⟨u,FS1,rfl,hWin,hg1,hs1,ho1⟩;simp only at hWin hg1;rw[HNN.out] at hWin;obtain⟨A,cp,rfl,_,_⟩:=hWin.slice_form;have HK1:=hid (HK.out w1 FS1 hg1 hs1 ho1);have HS1:=hid hs1;have H0:Hid (WrI w0 w1 w1 B bo lim n SV WV (.slice A n cp) FS1 FW FW g' l q bs R 0 q []):=hid ⟨hg1,HK1.out.1,by rw[List.append_nil];exact HK1.out.2.1,hWin,Pf.refl _ _ _,by rw[List.drop_zero,HR.out];simp,by simp,by simp,⟨HK1.out.2.2.2.2,HNB.out.2.2.2.1⟩,HK1.out.2.2.2.1⟩;have HC0:Hid (w1.cell? ⟨pb,3,none⟩=some WV):=hid ((HK1.out.2.2.1.cell 3).trans rfl);have HCL:Hid (∀(w2 w3:World) (F2:List Nat),Pf B FW F2 w1 w3→w3.cell? ⟨pb,3,none⟩=some WV):=hid (fun _ w3 F2 hf=>by
      have hbk:Blk w3 pb (pipC e0 RV SV WV) 80:=(hf.block pb HNB.out.2.2.2.2.1 HNB.out.2.2.2.2.2).trans HK1.out.2.2.1;exact(hbk.cell 3).trans rfl)
    clear hWin hg1 hs1 ho1 HFree HK;go_wp2
    go_loopw [10,11,12,24] (fun _ _ _ i wr=>∃(j:Nat) (qj:Ws) (F1:List Nat) (acc:List UInt8),i= .int .i64 j∧j≤n∧Hid (WrI w0 w1 wr B bo lim n SV WV (.slice A n cp) FS1 FW F1 g' l q bs R j qj acc)) (fun _ _ _ i _=>n-(RowKit.intOf i).toNat)
    case atStart=>exact⟨0,_,_,_,rfl,by omega,H0⟩
    case round =>
      obtain⟨j,qj,F1,acc,rfl,hj,HI⟩:=hrel;clear H0 HC0;by_cases hlt:j<n
      · have hjl:j<l.length:=by rw[HNN.out];exact hlt
        have hTe:=HTOL.out _ (List.getElem_mem hjl);have hws:=HI.out.ws;have hpw:=hws.prW;have hdj:dpW qj≤890:=by have:=HI.out.dep;have:=HNB.out.1;omega
        have hcell:=HCL.out wr wr _ HI.out.fr;obtain⟨gg,off,c',hv,x0⟩:=HI.out.lst.elem j (valE l[j]) (by simp[hjl]);simp only[Value.slice.injEq] at hv;obtain⟨rfl,hv2,rfl⟩:=hv;clear hv2;have HFIN:Hid (∀(w2:World) (F2:List Nat) (q2:Ws) (T:List UInt8),WtAt w0 w2 WV F2 q2→Step F1 F2 wr w2→Off wts wr w2→∀e1,R=((acc,e1),q2)→zyc w0 w w2 B bo lim SV WV FS FW bs PP0 (.returned (.int .i64 (e1:Nat)))):=hid (fun w2 F2 q2 T a b c e1 hr=>by
          obtain⟨m1,m2,m3,m4,m5⟩:=HI.out.mid a b c;rw[HPP.out,hr];exact⟨rfl,FS1,F2,m1,a,m2,zpo HS1.out HNB.out.2.2.1 m4,fun k hk hm=>(b.foot k hm).elim (HI.out.ap k hk) (fun h1=>by have:=HI.out.gs.lt k hk;omega),m5⟩)
        cases qj with
        | js pr q2 =>
          obtain⟨b,F2,hWV,rfl,hJ,hT⟩:=hws;have HS:=hid (zak5 hJ hT hdj hTe);have hsz:=zh2 hpw hTe;rw[hWV] at hcell;have HWV:=hid hWV;generalize hQ:zbk (.js pr q2) l[j]=Q at HS hsz;obtain⟨⟨T,e1⟩,q3⟩:=Q;obtain⟨Z,hZ⟩:∃Z:ByteArray,(⟨T.toArray⟩:ByteArray)=Z:=⟨_,rfl⟩
          have hZl:Z.data.toList=T:=by rw[← hZ]
          have hZs:Z.size≤100001:=by rw[← hZ,zbd];exact hsz
          simp only[zkb] at HS;rw[hZ] at HS;generalize hVV:valE l[j]=V at *
          by_cases h0:e1=0
          · subst h0
            have HQ:=hid hQ;have HZ:=hid (And.intro hZl (And.intro hZs hsz));have HAL:=hid (And.intro HI.out.len hj);clear hQ hZ hZl hZs hsz hpw hTe hdj hJ hT hWV hVV HFIN;(go_wp2_with fail);refine HS.out.mono ?_;rintro r w2 ⟨rfl,F3,hw2,hs2,ho2⟩;rw[← HWV.out] at hw2;have H2:=hid (And.intro hw2 (And.intro hs2 ho2));have HM:=hid (HI.out.mid hw2 hs2 ho2);clear hw2 hs2 ho2 HS;(go_wp2_with fail);refine(zff B bo (bs++acc) Z w2 HM.out.2.1 (by have:=HAL.out;have:=HNB.out;have:=HZ.out.2.1;simp only[List.length_append];omega) HM.out.2.2.2.2).mono ?_;rintro r w3 ⟨rfl,i3,b3,k3⟩;rw[HZ.out.1] at i3;have H3:=hid (HI.out.next hjl HQ.out HZ.out.2.2 H2.out.1 H2.out.2.1 H2.out.2.2 i3 b3 k3);clear i3 b3 k3 HM;go_wp2
            go_roundw
            case rel=>exact⟨j+1,_,_,_,rfl,hlt,H3⟩
            case measure=>simp[RowKit.intOf];omega
          · have hne:((e1:Int) !=0)=true:=by rw[bne_iff_ne];omega
            have hRR:R=((acc,e1),q3):=by
              have:=HI.out.eq;rw[zfc hjl,zgz (by rw[hQ];exact h0),hQ] at this;simpa using this
            have HRR:=hid hRR;clear hQ hZ hZl hZs hsz hpw hTe hdj hJ hT hRR h0 hWV hVV;(go_wp2_with fail);refine HS.out.mono ?_;rintro r w2 ⟨rfl,F3,hw2,hs2,ho2⟩;rw[← HWV.out] at hw2;have HF:=hid (HFIN.out _ _ _ T hw2 hs2 ho2 _ HRR.out);clear hw2 hs2 ho2 HS;go_wp2;go_ret;exact HF.out
        | cb q2 =>
          obtain⟨b,F2,hWV,rfl,hJ⟩:=hws;have HS:=hid (zak4 hJ hdj hTe);have hsz:=zh2 hpw hTe;rw[hWV] at hcell;have HWV:=hid hWV;generalize hQ:zbk (.cb q2) l[j]=Q at HS hsz;obtain⟨⟨T,e1⟩,q3⟩:=Q;obtain⟨Z,hZ⟩:∃Z:ByteArray,(⟨T.toArray⟩:ByteArray)=Z:=⟨_,rfl⟩
          have hZl:Z.data.toList=T:=by rw[← hZ]
          have hZs:Z.size≤100001:=by rw[← hZ,zbd];exact hsz
          simp only[zkb] at HS;rw[hZ] at HS;generalize hVV:valE l[j]=V at *
          by_cases h0:e1=0
          · subst h0
            have HQ:=hid hQ;have HZ:=hid (And.intro hZl (And.intro hZs hsz));have HAL:=hid (And.intro HI.out.len hj);clear hQ hZ hZl hZs hsz hpw hTe hdj hJ hWV hVV HFIN;(go_wp2_with fail);refine HS.out.mono ?_;rintro r w2 ⟨rfl,F3,hw2,hs2,ho2⟩;rw[← HWV.out] at hw2;have H2:=hid (And.intro hw2 (And.intro hs2 ho2));have HM:=hid (HI.out.mid hw2 hs2 ho2);clear hw2 hs2 ho2 HS;(go_wp2_with fail);refine(zff B bo (bs++acc) Z w2 HM.out.2.1 (by have:=HAL.out;have:=HNB.out;have:=HZ.out.2.1;simp only[List.length_append];omega) HM.out.2.2.2.2).mono ?_;rintro r w3 ⟨rfl,i3,b3,k3⟩;rw[HZ.out.1] at i3;have H3:=hid (HI.out.next hjl HQ.out HZ.out.2.2 H2.out.1 H2.out.2.1 H2.out.2.2 i3 b3 k3);clear i3 b3 k3 HM;go_wp2
            go_roundw
            case rel=>exact⟨j+1,_,_,_,rfl,hlt,H3⟩
            case measure=>simp[RowKit.intOf];omega
          · have hne:((e1:Int) !=0)=true:=by rw[bne_iff_ne];omega
            have hRR:R=((acc,e1),q3):=by
              have:=HI.out.eq;rw[zfc hjl,zgz (by rw[hQ];exact h0),hQ] at this;simpa using this
            have HRR:=hid hRR;clear hQ hZ hZl hZs hsz hpw hTe hdj hJ hRR h0 hWV hVV;(go_wp2_with fail);refine HS.out.mono ?_;rintro r w2 ⟨rfl,F3,hw2,hs2,ho2⟩;rw[← HWV.out] at hw2;have HF:=hid (HFIN.out _ _ _ T hw2 hs2 ho2 _ HRR.out);clear hw2 hs2 ho2 HS;go_wp2;go_ret;exact HF.out
        | pk q2 =>
          obtain⟨b,F2,hWV,rfl,hJ⟩:=hws;have HS:=hid (zak9 hJ hdj hTe);have hsz:=zh2 hpw hTe;rw[hWV] at hcell;have HWV:=hid hWV;generalize hQ:zbk (.pk q2) l[j]=Q at HS hsz;obtain⟨⟨T,e1⟩,q3⟩:=Q;obtain⟨Z,hZ⟩:∃Z:ByteArray,(⟨T.toArray⟩:ByteArray)=Z:=⟨_,rfl⟩
          have hZl:Z.data.toList=T:=by rw[← hZ]
          have hZs:Z.size≤100001:=by rw[← hZ,zbd];exact hsz
          simp only[zkb] at HS;rw[hZ] at HS;generalize hVV:valE l[j]=V at *
          by_cases h0:e1=0
          · subst h0
            have HQ:=hid hQ;have HZ:=hid (And.intro hZl (And.intro hZs hsz));have HAL:=hid (And.intro HI.out.len hj);clear hQ hZ hZl hZs hsz hpw hTe hdj hJ hWV hVV HFIN;(go_wp2_with fail);refine HS.out.mono ?_;rintro r w2 ⟨rfl,F3,hw2,hs2,ho2⟩;rw[← HWV.out] at hw2;have H2:=hid (And.intro hw2 (And.intro hs2 ho2));have HM:=hid (HI.out.mid hw2 hs2 ho2);clear hw2 hs2 ho2 HS;(go_wp2_with fail);refine(zff B bo (bs++acc) Z w2 HM.out.2.1 (by have:=HAL.out;have:=HNB.out;have:=HZ.out.2.1;simp only[List.length_append];omega) HM.out.2.2.2.2).mono ?_;rintro r w3 ⟨rfl,i3,b3,k3⟩;rw[HZ.out.1] at i3;have H3:=hid (HI.out.next hjl HQ.out HZ.out.2.2 H2.out.1 H2.out.2.1 H2.out.2.2 i3 b3 k3);clear i3 b3 k3 HM;go_wp2
            go_roundw
            case rel=>exact⟨j+1,_,_,_,rfl,hlt,H3⟩
            case measure=>simp[RowKit.intOf];omega
          · have hne:((e1:Int) !=0)=true:=by rw[bne_iff_ne];omega
            have hRR:R=((acc,e1),q3):=by
              have:=HI.out.eq;rw[zfc hjl,zgz (by rw[hQ];exact h0),hQ] at this;simpa using this
            have HRR:=hid hRR;clear hQ hZ hZl hZs hsz hpw hTe hdj hJ hRR h0 hWV hVV;(go_wp2_with fail);refine HS.out.mono ?_;rintro r w2 ⟨rfl,F3,hw2,hs2,ho2⟩;rw[← HWV.out] at hw2;have HF:=hid (HFIN.out _ _ _ T hw2 hs2 ho2 _ HRR.out);clear hw2 hs2 ho2 HS;go_wp2;go_ret;exact HF.out
      · obtain rfl:j=n:=by omega
        have HF:Hid (zyc w0 w wr B bo lim SV WV FS FW bs PP0 (.returned (.int .i64 0))):=hid (by
          have hq:=HI.out.eq;rw[List.drop_of_length_le (by rw[HNN.out];exact Nat.le_refl _)] at hq;simp only[za6,List.append_nil] at hq;rw[HPP.out,hq];exact⟨rfl,FS1,F1,HI.out.gs,HI.out.ws,HI.out.bld,zpo HS1.out HNB.out.2.2.1 HI.out.fr,HI.out.ap,HI.out.B0.1⟩)
        go_wp2;go_ret;exact HF.out
  · rw[if_pos hz] at hP
    have hne:((er:Int) !=0)=true:=by rw[bne_iff_ne];omega
    have HPP:=hid hP;have HB:=hid hB;clear h hG hok he hP f1 f2 f3 hbs hB hpb hSl hap hdep hlim hI hW hz;go_enter Tryz.func56,Tryz.ntmps56;(go_wp2_with fail);refine HFree.out.mono ?_;rintro r w1 ⟨u,FS1,rfl,hWin,hg1,hs1,ho1⟩;have HF:Hid (zyc w0 w w1 B bo lim SV WV FS FW bs PP0 (.returned (.int .i64 (er:Nat)))):=hid (by
      obtain⟨a,b,c,d,f⟩:=HK.out w1 FS1 hg1 hs1 ho1;rw[HPP.out];exact⟨rfl,FS1,FW,hg1,a,by rw[List.append_nil];exact b,zpo hs1 HB.out.1 (Pf.refl _ _ _),d,f⟩)
    clear hWin hg1 hs1 ho1;go_wp2;go_ret;exact HF.out
end
end Go.Proofs.YtpaciekgbhoncaaGreat
