/-
  Parts: CinPd, CinPe, CinPf, CinPg, CinPh, CinPi, CinPj.
-/
import Derived.Test.YtpaciekgbhoncaaGreatG1a
import Derived.Test.YtpaciekgbhoncaaGreatG0f
import Derived.StillTailTactics
set_option maxRecDepth 100000
set_option maxHeartbeats 16000000
open Go.Lib (hid)
namespace Go.Proofs.YtpaciekgbhoncaaGreat
section
open Go.RowKit
open Go.Lib
theorem zto {w:World} {b o D pl:Nat} {h:Hd} {mj:Nat} {ch:Bool} {lk:Nat} {vt:Value} {t:List UInt8} {u:Option (Nat×Nat×Nat)} {vs:Value} {n:Nat} {xs:List Value} (c:CP w b o D pl h mj ch lk vt t u vs n xs) :
    Calls Tryz.prog 168 #[.pointer (some ⟨b,o,none⟩)] w fun r w'=>r= .returned (.int .i64 (chE mj h:Nat))∧Below w.heap.size w w':=by
  obtain⟨e,p,m,q,l,v,hc⟩:=zafw h;have HB:Hid (∀W,S6 w b o e p m q l v mj W→Calls Tryz.prog 169 #[.agg #[.int .i64 e,.int .i64 p,.int .i64 m,.bool q,.int .i64 l,.int .u64 v]] W fun r w'=>r= .returned (.bool (brkH h))∧S6 w b o e p m q l v mj w') :=
    hid (fun W hS=>(zi8 c.hd.1 hc W).mono (fun r w' hr=>⟨hr.1,c.s6 hc (zab hS.2.2.out hr.2)⟩))
  have HM:Hid (∀W,S6 w b o e p m q l v mj W→Calls Tryz.prog 174 #[.pointer (some ⟨b,o+3,none⟩)] W fun r w'=>r= .returned (.int .i64 (majH h))∧S6 w b o e p m q l v mj w') :=
    hid (fun W hS=>(zbn (c.go hS.2.2.out).hd).mono (fun r w' hr=>⟨hr.1,hr.2▸hS⟩))
  have HO:Hid (∀W,S6 w b o e p m q l v mj W→Calls Tryz.prog 183 #[.pointer (some ⟨b,o+3,none⟩)] W fun r w'=>r= .returned (.bool (opnH h))∧S6 w b o e p m q l v mj w') :=
    hid (fun W hS=>(zfu (c.go hS.2.2.out).hd).mono (fun r w' hr=>⟨hr.1,hr.2▸hS⟩))
  have zm:((majH h:Int)==(mj:Int))=decide (majH h=mj):=by rw[Bool.eq_iff_iff,beq_iff_eq,decide_eq_true_eq];omega
  have hE:chE mj h=if(brkH h||(decide (majH h=mj)&& !opnH h))=true then 0 else 2:=by
    unfold chE;simp only[Bool.or_eq_true,Bool.and_eq_true,decide_eq_true_eq,Bool.not_eq_true']
  rw[hE];have HS:S6 w b o e p m q l v mj w.drew:=c.s6 hc (zbj (Below.refl _ _));clear c hc hE;generalize brkH h=B at *
  generalize decide (majH h=mj)=bm at *
  generalize opnH h=O at *
  generalize majH h=M at *
  cases B with
  | true=>exact zaei HS HB
  | false =>
    cases bm with
    | false=>exact zvd HS HB HM zm
    | true =>
      cases O with
      | false=>exact zad3 HS HB HM zm HO
      | true=>exact zac8 HS HB HM zm HO
def refE (D pl mj:Nat) (s:List Bx) (h:Hd) (l:Nat):Nat:=if pl=1 then chE mj h else if brkH h=true then(if mayB s=true then 0 else 2) else zhm D s h l
theorem zcq {w:World} {b o D pl:Nat} {h:Hd} {mj:Nat} {ch:Bool} {lk:Nat} {vt:Value} {t:List UInt8} {u:Option (Nat×Nat×Nat)} {vs:Value} {s:List Bx} (c:CP w b o D pl h mj ch lk vt t u vs s.length (inL s)) (hd:s.length≤16) (x:Nat) :
    Calls Tryz.prog 162 #[.pointer (some ⟨b,o,none⟩),.int .u8 (x:Int)] w fun r w'=>r= .returned (.int .i64 (refE D pl mj s h x:Nat))∧Below w.heap.size w w':=by
  obtain⟨e,p,m,q,l,v,hc⟩:=zafw h;have hA:=c.hd.2;rw[hc] at hA;obtain⟨⟨k0,_⟩,⟨k1,_⟩,⟨k2,_⟩,⟨k3,_⟩,⟨k4,_⟩,⟨k5,_⟩⟩:=hA.six;have c2:=c.cells.1.2.2.1;have HB:=hid (fun W=>zi8 c.hd.1 hc W);have HR:=hid (zto c);have HK:=hid (fun w1 (k:Below w.heap.size w w1)=>ztz (c.go k) hd);have HI:=hid (fun w1 (k:Below w.heap.size w w1)=>zwd (c.go k) hd x);unfold refE;clear c hc hA hd;by_cases hp:pl=1
  · subst hp
    rw[if_pos rfl];go_enter Tryz.func162,Tryz.ntmps162;(go_wp2_with fail);refine HR.out.mono ?_;rintro r w1 ⟨rfl,b1⟩;have B1:=hid b1;clear b1;go_wp2;go_ret;exact⟨rfl,B1.out⟩
  · rw[if_neg hp]
    have zp:((pl:Int)==1)=false:=by rw[beq_eq_false_iff_ne];omega
    clear hp;generalize brkH h=B at *
    cases B with
    | true =>
      rw[if_pos rfl];generalize (if mayB s=true then 0 else 2:Nat)=R at *
      go_enter Tryz.func162,Tryz.ntmps162;(go_wp2_with fail);refine(HB.out _).mono ?_;rintro r w1 ⟨rfl,b1⟩;have B1:=hid b1;clear b1;(go_wp2_with fail);refine(HK.out _ B1.out).mono ?_;rintro r w2 ⟨rfl,b2⟩;have B2:=hid b2;clear b2;go_wp2;go_ret;exact⟨rfl,zab B1.out B2.out⟩
    | false =>
      rw[if_neg (by decide)];generalize zhm D s h x=R at *
      go_enter Tryz.func162,Tryz.ntmps162;(go_wp2_with fail);refine(HB.out _).mono ?_;rintro r w1 ⟨rfl,b1⟩;have B1:=hid b1;clear b1;(go_wp2_with fail);refine(HI.out _ B1.out).mono ?_;rintro r w2 ⟨rfl,b2⟩;have B2:=hid b2;clear b2;go_wp2;go_ret;exact⟨rfl,zab B1.out B2.out⟩
end
section
open Go.RowKit
open Go.Lib
theorem CP.setA {w:World} {b o D pl:Nat} {h:Hd} {mj:Nat} {ch:Bool} {lk:Nat} {vt:Value} {t:List UInt8} {u:Option (Nat×Nat×Nat)} {vs:Value} {n:Nat} {xs:List Value} (c:CP w b o D pl h mj ch lk vt t u vs n xs) {w':World} (k:Sub b o 3 w w') {D' pl':Nat} (ha:At w' b o [.int .i64 0,.int .i64 D',.int .i64 pl']):CP w' b o D' pl' h mj ch lk vt t u vs n xs :=
 ⟨ha,c.hd.sub k (by omega),c.tx.sub k (by simp),c.ck.sub k (by omega),c.op.subg (k.subg []) (by omega) (by simp),c.wt.subg (k.subg []) c.ft (by simp),c.ft⟩
theorem CP.setPl {w:World} {b o D pl:Nat} {h:Hd} {mj:Nat} {ch:Bool} {lk:Nat} {vt:Value} {t:List UInt8} {u:Option (Nat×Nat×Nat)} {vs:Value} {n:Nat} {xs:List Value} (c:CP w b o D pl h mj ch lk vt t u vs n xs) (p:Nat):CP (w.setCell ⟨b,o+2,none⟩ (.int .i64 p)) b o D p h mj ch lk vt t u vs n xs :=
 c.setA (zac w (o+2) _ (by omega)) (c.a.set 2 (by simp) _)
theorem CP.setHd {w:World} {b o D pl:Nat} {h:Hd} {mj:Nat} {ch:Bool} {lk:Nat} {vt:Value} {t:List UInt8} {u:Option (Nat×Nat×Nat)} {vs:Value} {n:Nat} {xs:List Value} (c:CP w b o D pl h mj ch lk vt t u vs n xs) {w':World} (k:Sub b (o+3) 6 w w') {h':Hd} (ha:HAt w' b (o+3) h'):CP w' b o D pl h' mj ch lk vt t u vs n xs :=
 ⟨c.a.sub k (by simp),ha,c.tx.sub k (by simp),c.ck.sub k (by omega),c.op.subg (k.subg []) (by omega) (by simp),c.wt.subg (k.subg []) c.ft (by simp),c.ft⟩
theorem CP.setTx {w:World} {b o D pl:Nat} {h:Hd} {mj:Nat} {ch:Bool} {lk:Nat} {vt:Value} {t:List UInt8} {u:Option (Nat×Nat×Nat)} {vs:Value} {n:Nat} {xs:List Value} (c:CP w b o D pl h mj ch lk vt t u vs n xs) {w':World} {g:List Nat} (k:Subg g b (o+9) 8 w w') (hg:∀x∈Value.owner vs,x∉g) {mj' lk':Nat} {ch':Bool} {vt':Value} {t':List UInt8} {u':Option (Nat×Nat×Nat)}
  (ha:At w' b (o+9) [.int .i64 mj',.bool ch',.int .i64 lk',vt']) (hk:CAt w' b (o+13) u') (hw:Win w' 5 1 vt' t'.length (zbe t')) (hf:b∉Value.owner vt'):CP w' b o D pl h mj' ch' lk' vt' t' u' vs n xs :=
 ⟨c.a.subg k (by simp),c.hd.map fun vs hv h=>h.subg k (by omega),ha,hk,c.op.subg k (by omega) hg,hw,hf⟩
theorem CP.setOp {w:World} {b o D pl:Nat} {h:Hd} {mj:Nat} {ch:Bool} {lk:Nat} {vt:Value} {t:List UInt8} {u:Option (Nat×Nat×Nat)} {vs:Value} {n:Nat} {xs:List Value} (c:CP w b o D pl h mj ch lk vt t u vs n xs) {w':World} {g:List Nat} (k:Subg g b (o+17) 1 w w') (hg:∀x∈Value.owner vt,x∉g) {vs':Value} {n':Nat} {xs':List Value} (ha:Nst w' b (o+17) vs' n' xs'):CP w' b o D pl h mj ch lk vt t u vs' n' xs' :=
 ⟨c.a.subg k (by simp),c.hd.map fun vs hv h=>h.subg k (by omega),c.tx.subg k (by simp),(by
  refine c.ck.map fun vs hv h=>h.subg k (by omega)),ha,c.wt.subg k c.ft hg,c.ft⟩
theorem CP.drewN {w:World} {b o D pl:Nat} {h:Hd} {mj:Nat} {ch:Bool} {lk:Nat} {vt:Value} {t:List UInt8} {u:Option (Nat×Nat×Nat)} {vs:Value} {n:Nat} {xs:List Value} (c:CP w b o D pl h mj ch lk vt t u vs n xs) (q:Nat):CP (w.drewN q) b o D pl h mj ch lk vt t u vs n xs:=⟨c.a,c.hd.drewN q,c.tx,(c.ck.map fun _ _ h=>h),c.op.drewN q,c.wt,c.ft⟩
theorem zaid {w:World} {b o:Nat} {m ch:Bool} {lk:Nat} {vt:Value} {t:List UInt8} (hA:At w b o [.int .i64 (mjT m:Nat),.bool ch,.int .i64 lk,vt]) (hW:Win w 5 1 vt t.length (zbe t)) :
    Calls Tryz.prog 180 #[.pointer (some ⟨b,o,none⟩)] w fun r w'=>r= .returned (valE (zby m t))∧w=w':=by
  have c0:=(hA 0 _ rfl).1;have c3:=(hA 3 _ rfl).1;simp only[Nat.add_zero] at c0;cases m with
  | true =>
    have hcv:=zmf (T:=179) Tryz.underlying179 hW;rw[show valE (zby true t)= .iface 179 (.string ⟨t.toArray⟩) from rfl];obtain⟨a,cp,rfl,_,_⟩:=hW.slice_form;simp only[mjT] at c0;generalize (⟨t.toArray⟩:ByteArray)=X at *
    clear hA hW;go_enter Tryz.func180,Tryz.ntmps180;go_wp2;go_ret;exact⟨rfl,rfl⟩
  | false =>
    have hcv:=zmf (T:=181) Tryz.underlying181 hW;rw[show valE (zby false t)= .iface 181 (.string ⟨t.toArray⟩) from rfl];obtain⟨a,cp,rfl,_,_⟩:=hW.slice_form;simp only[mjT] at c0;generalize (⟨t.toArray⟩:ByteArray)=X at *
    clear hA hW;go_enter Tryz.func180,Tryz.ntmps180;go_wp2;go_ret;exact⟨rfl,rfl⟩
end
section
open Go.RowKit
open Go.Lib
structure EndsI (w0 w wr:World) (b o D pl:Nat) (h:Hd) (mj:Nat) (ch:Bool) (lk:Nat) (vt:Value) (t:List UInt8) (u:Option (Nat×Nat×Nat)) (v vs':Value) (q:List Bx) (L:List Ev) (j:Nat) (v1:Value) (g:List Nat):Prop where
 cp:CP wr b o D pl h mj ch lk vt t u vs' q.length (inL q)
 vls:Vls w0 wr v1 (L++List.replicate j zbm)
 sub:Subg g b o 18 w wr
 size:w0.heap.size≤wr.heap.size
theorem EndsI.next {w0 w wr w3:World} {b o D pl:Nat} {h:Hd} {mj:Nat} {ch:Bool} {lk:Nat} {vt:Value} {t:List UInt8} {u:Option (Nat×Nat×Nat)} {v vs':Value} {q:List Bx} {L:List Ev} {j:Nat} {v1 v3:Value} {vs:Value} {ob:Obj}
  (I:EndsI w0 w wr b o D pl h mj ch lk vt t u v vs' q L j v1 (Value.owner v++Value.owner vs))
  (hv1:∀k∈Value.owner v1,k∈Value.owner v∨w.heap.size≤k) (hb0:b<w0.heap.size) (hvt:∀k∈Value.owner vt,k<w0.heap.size) (hvs:∀k∈Value.owner vs',k<w0.heap.size)
  (hW:Win w3 20 1 v3 (L.length+j+1) ((L++List.replicate j zbm).map valE++[valE zbm])) (hG:(wr.alloc ob).grownBy w3 v1.ownBlock) (hO:v3.ownBlock=v1.ownBlock∨v3.ownBlock=some (wr.alloc ob).heap.size∧(wr.alloc ob).heap.size<w3.heap.size) :
  EndsI w0 w w3 b o D pl h mj ch lk vt t u v vs' q L (j+1) v3 (Value.owner v++Value.owner vs)∧(∀k∈Value.owner v3,k∈Value.owner v∨w.heap.size≤k):=by
 have hz:(wr.alloc ob).heap.size=wr.heap.size+1:=by simp
 have hkeep:∀k,k<w0.heap.size→w3.heap[k]? = wr.heap[k]? := fun k hk=>by
  have hk2:k<wr.heap.size:=Nat.lt_of_lt_of_le hk I.size;refine(hG.block k (by omega) (fun e=> ?_)).trans (Below.heap_alloc wr ob k hk2);have:=I.vls.new k ((zad _ _).1 e.symm);omega
 have hB:Below w0.heap.size wr w3:=⟨hG.os,hG.tape,hG.output,by have:=hG.size;omega,hkeep⟩
 have hw:=I.sub.size;refine⟨⟨?_,?_,?_,by have:=hG.size;have:=I.size;omega⟩,fun k hk=> ?_⟩
 ·have hk:=hkeep b hb0
  exact⟨I.cp.a.keep hk,I.cp.hd.keep hk,I.cp.tx.keep hk,I.cp.ck.keep hk,⟨I.cp.op.ptr.keep hk,I.cp.op.win.keep fun k hx=>hkeep k (hvs k hx),I.cp.op.far⟩,I.cp.wt.keep fun k hx=>hkeep k (hvt k hx),I.cp.ft⟩
 ·rw[List.replicate_succ',← List.append_assoc]
  refine zlo (K:=[zbm]) (w:=wr.alloc ob) (n:=L.length+j) (m:=1) ((I.vls.go ((Below.refl _ _).alloc (Nat.le_refl _) ob))) (by simp) rfl (by have:=I.size;omega) ?_ hO;simpa using hW
 ·have h1:Subg (Value.owner v1) b o 18 wr w3 :=
   (zae ((Below.refl _ _).alloc (Nat.le_refl _) ob) I.cp.lt _ _ _).tr (zc6 hG (fun k hk=>(zad _ _).1 hk) (fun e=>by have:=I.vls.new b ((zad _ _).1 e);omega) (by have:=I.cp.lt;omega))
  refine I.sub.trans h1 (fun k hk=> ?_);exact(hv1 k hk).imp (fun h=>List.mem_append.2 (.inl h)) id
 ·rcases hO with e|⟨e,_⟩
  ·exact hv1 k ((zad _ _).1 (e▸(zad _ _).2 hk))
  ·have h2:=(zad _ _).2 hk
   rw[e] at h2;cases h2;exact .inr (by omega)
structure EndsR (w0 w w':World) (b o D:Nat) (h:Hd) (mj:Nat) (ch:Bool) (lk:Nat) (vt:Value) (t:List UInt8) (u:Option (Nat×Nat×Nat)) (v vs:Value) (s:List Bx) (L:List Ev) (x:Value):Prop where
 cp:∃vs',CP w' b o D (plE (zap s)) h mj ch lk vt t u vs' (zap s).length (inL (zap s))∧Value.owner vs'=Value.owner vs
 vls:Vls w0 w' x (L++zes s)
 sub:Subg (Value.owner v++Value.owner vs) b o 18 w w'
theorem zlr {w0 w:World} {b o D pl:Nat} {h:Hd} {mj:Nat} {ch:Bool} {lk:Nat} {vt:Value} {t:List UInt8} {u:Option (Nat×Nat×Nat)} {vs:Value} {s:List Bx} {v:Value} {L:List Ev} (c:CP w b o D pl h mj ch lk vt t u vs s.length (outL s)) (hV:Vls w0 w v L) (hL:L.length≤2) (hs:w0.heap.size≤w.heap.size) (hb0:b<w0.heap.size) (hvt:∀k∈Value.owner vt,k<w0.heap.size) (hvs:∀k∈Value.owner vs,k<w0.heap.size)
    (hk:∀x∈s,1≤x.have_∧x.have_≤2000000000) (hd:s.length≤16) :
    Calls Tryz.prog 175 #[.pointer (some ⟨b,o,none⟩),v] w fun r w'=>∃x,r= .returned x∧EndsR w0 w w' b o D h mj ch lk vt t u v vs s L x:=by
  have hE:=zup c.op hk hd;have hnum:numC s≤16:=by
    have:∀s:List Bx,numC s≤s.length:=by
      intro s
      induction s with
      | nil=>simp[numC]
      | cons b r ih=>simp only[numC,List.length_cons];split <;>omega
    have:=this s;omega
  have HE:=hid hE;have H:=hid (And.intro c (And.intro hV (And.intro hL (And.intro hs (And.intro hb0 (And.intro hvt hvs))))));obtain⟨N,hN⟩:∃N,numC s=N:=⟨_,rfl⟩
  have HNN:=hid hN;rw[hN] at HE hnum;obtain⟨n0,hn0⟩:∃n0,L.length=n0:=⟨_,rfl⟩
  have HN0:=hid hn0;have hn2:n0≤2:=by omega
  obtain⟨a,cp,hv⟩:=hV.form;rw[hn0] at hv;subst hv;clear hE hN c hV hL hs hb0 hvt hvs hk hd hn0;go_enter Tryz.func175,Tryz.ntmps175;(go_wp2_with fail);refine HE.out.mono ?_;rintro r w1 ⟨rfl,vs',hN1,ho1,hS1⟩;have hI:EndsI w0 w w1 b o D pl h mj ch lk vt t u (.slice a n0 cp) vs' (zap s) L 0 (.slice a n0 cp) (Value.owner (.slice a n0 cp)++Value.owner vs):=by
    obtain⟨c,hV,hL,hs,hb0,hvt,hvs⟩:=H.out;have hne:∀x∈Value.owner (.slice a n0 cp),x≠b∧x∉Value.owner vs:=fun x hx=>by
      have h1:=hV.new x hx;exact⟨by omega,fun h2=>by have:=hvs x h2;omega⟩
    refine⟨c.setOp hS1 (fun x hx h2=>c.apart x h2 hx) hN1,?_,hS1.widen (fun x hx=>List.mem_append.2 (.inr hx)) (by omega) (by omega),Nat.le_trans hs hS1.size⟩;rw[List.replicate_zero,List.append_nil];exact⟨hV.win.keep fun k hk=>hS1.block k (hV.win.lt k hk) (hne k hk).1 (hne k hk).2,hV.new⟩
  have HI:=hid hI;have HO:=hid ho1;clear hN1 ho1 hS1 hI HE;go_wp2
  go_loopw [1,9] (fun l i wr=>∃(j:Nat) (a1:Option Addr) (c1:Nat),l= .slice a1 (n0+j) c1∧i= .int .i64 j∧j≤N∧Hid (EndsI w0 w wr b o D pl h mj ch lk vt t u (.slice a n0 cp) vs' (zap s) L j (.slice a1 (n0+j) c1) (Value.owner (.slice a n0 cp)++Value.owner vs)∧(∀k∈Value.owner (.slice a1 (n0+j) c1),k∈Value.owner (.slice a n0 cp)∨w.heap.size≤k))) (fun _ i _=>N-(RowKit.intOf i).toNat)
  case atStart=>exact⟨0,a,cp,rfl,rfl,by omega,hid ⟨HI.out,fun k hk=> .inl hk⟩⟩
  case round =>
    obtain⟨j,a1,c1,rfl,rfl,hj,HR⟩:=hrel;clear HI;by_cases hlt:j<N
    · have hwin:Hid (∀ob,Win (wr.alloc ob) 20 1 (.slice a1 (n0+j) c1) (n0+j) ((L++List.replicate j zbm).map valE)):=hid (fun ob=>by
        have:=HR.out.1.vls.win.alloc ob;simpa [HN0.out] using this)
      go_wp2_with (at_builtin;refine zaj rfl _ _ _ rfl Tryz.underlying85 zed rfl rfl (hwin.out _) _ rfl 1 _ (zcl _ Tryz.underlying85 1 1 [valE zbm] 20 _ rfl (zhn [zbm]) (heap_alloc_new _ _)) ?e1 ?e2 ?_)
      case e1=>unfold maxLen;omega
      case e2=>omega
      intro v3 w3 hW3 hG3 hO3;have hX:=HR.out.1.next (vs:=vs) HR.out.2 H.out.2.2.2.2.1 H.out.2.2.2.2.2.1 (by rw[HO.out];exact H.out.2.2.2.2.2.2) (by rw[HN0.out];simpa using hW3.out) hG3.out (by simpa using hO3.out);obtain⟨a3,c3,rfl,_,_⟩:=Win.slice_form hW3.out;have H3:=hid hX;clear hW3 hG3 hO3 hX;go_wp2
      go_roundw
      case rel=>exact⟨j+1,a3,c3,by rw[Nat.add_assoc],rfl,hlt,hid (by have:=H3.out;rwa [Nat.add_assoc] at this)⟩
      case measure=>simp[RowKit.intOf];omega
    · obtain rfl:j=N:=by omega
      have hF:=HR.out.1.cp;obtain⟨⟨_,_,⟨c2,f2⟩⟩,_,c17,f17⟩:=hF.cells;have hlen:=HR.out.1.cp.op.win.slice_form;obtain⟨a5,c5,rfl,_,_⟩:=hlen;have HF:=hid hF;have hfin:Hid (∀x wq q,CP wq b o D (plE (zap s)) h mj ch lk vt t u (.slice a5 (zap s).length c5) (zap s).length (inL (zap s))→Sub b o 18 wr wq→x=(Value.slice a1 (n0+j) c1)→EndsR w0 w (wq.drewN q) b o D h mj ch lk vt t u (.slice a n0 cp) vs s L x):=hid (by
        rintro x wq q hc hs rfl;refine⟨⟨_,hc.drewN q,HO.out⟩,?_,(HR.out.1.sub.tr (hs.subg _)).drewN q⟩;have:=HR.out.1.vls.sub hs H.out.2.2.2.2.1;unfold zes;rw[HNN.out];exact⟨this.win,this.new⟩)
      by_cases he:(zap s).length=0
      · have hp:plE (zap s)=3:=by unfold plE;rw[if_pos (by simpa using he)]
        rw[hp] at hfin;have HP:=hid (And.intro ((hF.setPl 0).setPl 3) ((zac (b:=b) (o:=o) (n:=18) wr (o+2) (.int .i64 0) (by omega)).setCell (o+2) (.int .i64 3) (by omega)));have hz:((zap s).length:Int)=0:=by omega
        have hz2:(((zap s).length:Int)==0)=true:=by rw[hz];rfl
        generalize (zap s).length=K at *
        clear HR hF HF hz he hp;go_wp2;go_ret;exact⟨_,rfl,hfin.out _ _ 0 HP.out.1 HP.out.2 rfl⟩
      · have hp:plE (zap s)=0:=by unfold plE;rw[if_neg (by simpa using he)]
        rw[hp] at hfin;have HP:=hid (And.intro (hF.setPl 0) (zac (b:=b) (o:=o) (n:=18) wr (o+2) (.int .i64 0) (by omega)));have hz2:(((zap s).length:Int)==0)=false:=by rw[beq_eq_false_iff_ne];omega
        generalize (zap s).length=K at *
        clear HR hF HF he hp;go_wp2;go_ret;exact⟨_,rfl,hfin.out _ _ 0 HP.out.1 HP.out.2 rfl⟩
end
section
open Go.RowKit
open Go.Lib
def StC (w:World) (b o D:Nat) (s:Ci) (vt vs:Value):Prop :=
 match s with
 | .bad e=>e≠0∧Room w b o 18∧w.cell? ⟨b,o+1,none⟩=some (.int .i64 D)
 | .item s dn=>CP w b o D (if dn=true then 3 else 0) .new 0 false 0 vt [] st0 vs s.length (inL s)
 | .head s h=>CP w b o D 0 h 0 false 0 vt [] st0 vs s.length (inL s)
 | .text s m n t u=>CP w b o D 2 .new (mjT m) false n vt t u vs s.length (inL s)
 | .open_ s m t=>CP w b o D 1 .new (mjT m) true 0 vt t st0 vs s.length (inL s)
 | .chead s m t h=>CP w b o D 1 h (mjT m) true 0 vt t st0 vs s.length (inL s)
 | .ctext s m t n u=>CP w b o D 2 .new (mjT m) true n vt t u vs s.length (inL s)
structure GoR (w0 w w':World) (b o D:Nat) (vt vs:Value) (q:Ci×List Ev) (x:Value):Prop where
 vls:Vls w0 w' x q.2
 st:∃vt' vs',StC w' b o D q.1 vt' vs'∧∀k∈Value.owner vt'++Value.owner vs',k∈Value.owner vt++Value.owner vs∨w.heap.size≤k
 sub:Subg (Value.owner vt++Value.owner vs) b o 18 w w'
theorem zj4 {s:List Bx} (h:OkS s) (hm:∀x∈s,x.have_+1≤2000000000):(∀x∈incB s,1≤x.have_∧x.have_≤2000000000)∧(incB s).length≤16:=by
  cases s with
  | nil=>exact⟨fun x hx=>by simp[incB] at hx,by simp[incB]⟩
  | cons y r =>
    refine⟨fun x hx=> ?_,h.deep⟩;simp only[incB,List.mem_cons] at hx;rcases hx with rfl|hx
    · have:=hm y (by simp)
      exact⟨by simp,this⟩
    · exact⟨h.some_ x hx,h.most x (List.mem_cons_of_mem _ hx)⟩
theorem zli {w0 w w1 w':World} {b o D:Nat} {vt vs v vs1:Value} {s:List Bx} {L:List Ev} {x:Value} {vt1:Value} (h:EndsR w0 w1 w' b o D .new 0 false 0 vt1 [] st0 v vs1 s L x) (hvt:Value.owner vt1=[]∨vt1=vt) (ho:Value.owner vs1=Value.owner vs)
  (hv:∀k∈Value.owner v,w.heap.size≤k) (hS:Subg (Value.owner vt++Value.owner vs) b o 18 w w1):GoR w0 w w' b o D vt vs (atC s,L++zes s) x:=by
 obtain⟨vs',hc,hvs⟩:=h.cp;refine⟨h.vls,⟨vt1,vs',?_,fun k hk=> ?_⟩,hS.trans h.sub (fun k hk=> ?_)⟩
 ·simpa [StC,atC,plE] using hc
 ·rcases List.mem_append.1 hk with hk|hk
  ·rcases hvt with e|e
   ·rw[e] at hk;cases hk
   ·rw[e] at hk;exact .inl (List.mem_append.2 (.inl hk))
  ·rw[hvs,ho] at hk
   exact .inl (List.mem_append.2 (.inr hk))
 ·rcases List.mem_append.1 hk with hk|hk
  ·exact .inr (hv k hk)
  ·rw[ho] at hk
   exact .inl (List.mem_append.2 (.inr hk))
theorem CP.tx8 {w:World} {b o D pl:Nat} {h:Hd} {mj:Nat} {ch:Bool} {lk:Nat} {vt:Value} {t:List UInt8} {u:Option (Nat×Nat×Nat)} {vs:Value} {n:Nat} {xs:List Value} (c:CP w b o D pl h mj ch lk vt t u vs n xs):Room w b (o+9) 8:=by
 obtain⟨n,lo,hi,hk⟩:=c.ck.cells;have:=(At.append c.tx (us:=za9 n lo hi u.isNone) hk).room (by simp);simpa [za9] using this
theorem CP.room {w:World} {b o D pl:Nat} {h:Hd} {mj:Nat} {ch:Bool} {lk:Nat} {vt:Value} {t:List UInt8} {u:Option (Nat×Nat×Nat)} {vs:Value} {n:Nat} {xs:List Value} (c:CP w b o D pl h mj ch lk vt t u vs n xs):Room w b o 18:=by
 obtain⟨n,lo,hi,hk⟩:=c.ck.cells;have h1:=At.append c.tx (us:=za9 n lo hi u.isNone) hk;have h2:=At.append h1 (us:=[vs]) (by simpa [za9] using c.op.ptr);have h3:=At.append c.hd.2 (us:=_) (by rw[zck];exact h2);have h4:=At.append c.a h3;have:=h4.room (by simp);simpa [za9,zck] using this
def txZ:List Value:=[.int .i64 0,.bool false,.int .i64 0,.slice none 0 0,.int .i64 0,.int .u8 0,.int .u8 0,.bool false]
theorem zkq {w0 w:World} {b o D pl:Nat} {vt:Value} {t:List UInt8} {u:Option (Nat×Nat×Nat)} {vs:Value} {s:List Bx} {m ch:Bool} {lk:Nat} (c:CP w b o D pl .new (mjT m) ch lk vt t u vs s.length (inL s)) (hl:Low w0 w b vs) (hk:OkS s) (hm:∀x∈s,x.have_+1≤2000000000) :
  Calls Tryz.prog 166 #[.pointer (some ⟨b,o,none⟩)] w fun r w'=>∃x,r= .returned x∧GoR w0 w w' b o D vt vs (putC s (zby m t)) x:=by
 have HP:=hid (zaid c.tx c.wt);have HR:=hid c.tx8;have H:=hid (And.intro c (And.intro hl (And.intro (zj4 hk hm).1 (zj4 hk hm).2)));have hone:(valE (zby m t)).oneCell'=true:=zhn [zby m t] _ (by simp);clear c hl hk hm;go_enter Tryz.func166,Tryz.ntmps166;(go_wp2_with fail);refine HP.out.mono ?_;rintro r w1 ⟨rfl,rfl⟩;have HV:Hid (∀W:World,w.heap.size≤W.heap.size→Vls w0 (W.alloc (.cells #[valE (zby m t)] 20)) (.slice (some ⟨W.heap.size,0,none⟩) 1 1) [zby m t]):=hid (fun W hW=>⟨zfv W _ _ _ rfl,fun k hk=>by
  simp only[Value.owner,List.mem_singleton] at hk;have:=H.out.2.1.size;omega⟩)
 obtain⟨T,V,hV⟩:∃T V,valE (zby m t)= .iface T V:=by cases m <;>exact⟨_,_,rfl⟩
 rw[hV] at hone HV;have HVV:=hid hV;rw[hV];clear hV HP
 go_wp2_with (refine zas rfl 144 _ _ rfl b (o+9) txZ rfl rfl HR.out (by kernel_rfl) (by kernel_rfl) ?_)
 intro w1 h1;have hc1:CP w1 b o D pl .new 0 false 0 (.slice none 0 0) [] st0 vs s.length (inL s) :=
  H.out.1.setTx (h1.out.2.subg []) (by simp) (h1.out.1.left (us:=[.int .i64 0,.int .u8 0,.int .u8 0,.bool false])) (zeb (h1.out.1.right (vs:=[.int .i64 0,.bool false,.int .i64 0,.slice none 0 0]))) (Win.nil_ _ _ _) (by simp[Value.owner])
 have HC1:=hid hc1;have HS1:=hid h1.out.2;clear h1 hc1 HR;have HC2:Hid (∀ob,CP (w1.alloc ob) b o D pl .new 0 false 0 (.slice none 0 0) [] st0 vs (incB s).length (outL (incB s))):=hid (fun ob=>by
  rw[zbh,zlt];exact HC1.out.go ((Below.refl _ _).alloc (Nat.le_refl _) ob))
 have hs1:=HS1.out.step.size;have hsz:∀ob,w0.heap.size≤(w1.alloc ob).heap.size:=fun ob=>by have:=H.out.2.1.size;simp;omega
 have HSZ:=hid hsz;have HHV:=hid (HV.out w1 hs1);clear hs1 hsz HV HC1;(go_wp2_with fail);refine(zlr (w0:=w0) (L:=[zby m t]) (HC2.out _) HHV.out (by simp) (HSZ.out _) H.out.2.1.b (by simp[Value.owner]) H.out.2.1.vs H.out.2.2.1 H.out.2.2.2).mono ?_;rintro r w' ⟨x,rfl,hR⟩;have HR:=hid hR;clear hR;go_wp2;go_ret;refine⟨x,rfl,zli (vs1:=vs) HR.out (.inl rfl) rfl (fun k hk=> ?_) ?_⟩
 ·simp only[Value.owner,List.mem_singleton] at hk
  have:=HS1.out.step.size;omega
 ·exact(((HS1.out.widen (o':=o) (n':=18) (by omega) (by simp[txZ])).subg _)).tr (zae ((Below.refl _ _).alloc (Nat.le_refl _) _) (Nat.lt_of_lt_of_le H.out.1.lt HS1.out.step.size) _ _ _)
def goC (s:List Bx) (m ch:Bool) (t:List UInt8) (n:Nat) (u:Option (Nat×Nat×Nat)):Ci×List Ev :=
 if 0<n then(if ch=true then .ctext s m t n u else .text s m n t u,[]) else if ch=true then(.open_ s m t,[]) else putC s (zby m t)
theorem zaam {w0 w:World} {b o D pl:Nat} {vt:Value} {t:List UInt8} {u:Option (Nat×Nat×Nat)} {vs:Value} {s:List Bx} {m ch:Bool} {lk:Nat} (c:CP w b o D pl .new (mjT m) ch lk vt t u vs s.length (inL s)) (hz:lk=0→ch=true→CAt w b (o+13) st0) (hl:Low w0 w b vs) (hk:OkS s) (hm:∀x∈s,x.have_+1≤2000000000) :
    Calls Tryz.prog 160 #[.pointer (some ⟨b,o,none⟩)] w fun r w'=>∃x,r= .returned x∧GoR w0 w w' b o D vt vs (goC s m ch t lk u) x:=by
  have H:=hid (And.intro c hl);have HE:=hid (zkq c hl hk hm);obtain⟨⟨_,_,⟨c2,f2⟩⟩,⟨_,⟨c10,_⟩,⟨c11,_⟩,_⟩,_⟩:=c.cells;have own:∀k∈Value.owner vt++Value.owner vs,k∈Value.owner vt++Value.owner vs∨w.heap.size≤k:=fun k hk=> .inl hk
  unfold goC;by_cases hp:0<lk
  · rw[if_pos hp]
    have HG:Hid (GoR w0 w (w.setCell ⟨b,o+2,none⟩ (.int .i64 2)) b o D vt vs ((if ch=true then .ctext s m t lk u else .text s m lk t u),[]) (.slice none 0 0)):=hid (by
      refine⟨Vls.nil_ _ _,⟨vt,vs,?_,own⟩,((zac w (o+2) _ (by omega)).subg _)⟩;have:=c.setPl 2;cases ch <;>exact this)
    have zp:(0<lk)=True:=by simp;omega
    generalize (if ch=true then Ci.ctext s m t lk u else .text s m lk t u)=Q at *
    clear c hz hl hk hm H HE own hp;go_enter Tryz.func160,Tryz.ntmps160;go_wp2;go_ret;exact⟨_,rfl,HG.out⟩
  · obtain rfl:lk=0:=by omega
    rw[if_neg hp];cases ch with
    | true =>
      rw[if_pos rfl];have HG:Hid (GoR w0 w (w.setCell ⟨b,o+2,none⟩ (.int .i64 1)) b o D vt vs (.open_ s m t,[]) (.slice none 0 0)):=hid (by
        refine⟨Vls.nil_ _ _,⟨vt,vs,?_,own⟩,((zac w (o+2) _ (by omega)).subg _)⟩;have h1:=c.setPl 1;have h2:=(hz rfl rfl)
        exact⟨h1.a,h1.hd,h1.tx,h2.sub (zac (b:=b) (o:=o+2) (n:=1) w (o+2) _ (by omega)) (by omega),h1.op,h1.wt,h1.ft⟩)
      clear c hz hl hk hm H HE own hp;go_enter Tryz.func160,Tryz.ntmps160;go_wp2;go_ret;exact⟨_,rfl,HG.out⟩
    | false =>
      rw[if_neg (by decide)];clear c hz hl hk hm H own hp;go_enter Tryz.func160,Tryz.ntmps160;(go_wp2_with fail);refine HE.out.mono ?_;rintro r w' ⟨x,rfl,hR⟩;have HR:=hid hR;clear hR;go_wp2;go_ret;exact⟨x,rfl,HR.out⟩
def expC (s:List Bx) (m ch:Bool) (t:List UInt8) (v:Nat) (u:Option (Nat×Nat×Nat)):Ci×List Ev:=if 200<v+t.length then(.bad 5,[]) else goC s m ch t v u
theorem znd {w0 w:World} {b o D pl:Nat} {vt:Value} {t:List UInt8} {u:Option (Nat×Nat×Nat)} {vs:Value} {s:List Bx} {m ch:Bool} {lk:Nat} (c:CP w b o D pl .new (mjT m) ch lk vt t u vs s.length (inL s)) (hz:ch=true→CAt w b (o+13) st0) (ht:t.length≤200) (hl:Low w0 w b vs) (hk:OkS s) (hm:∀x∈s,x.have_+1≤2000000000) (v:Nat) (hv:v<18446744073709551616) :
  Calls Tryz.prog 172 #[.pointer (some ⟨b,o,none⟩),.int .u64 (v:Int)] w fun r w'=>∃x,r= .returned (.tuple #[x,.int .i64 (zbs (expC s m ch t v u).1:Nat)])∧GoR w0 w w' b o D vt vs (expC s m ch t v u) x:=by
 have H:=hid (And.intro c hl);obtain⟨⟨_,⟨c1,_⟩,⟨c2,f2⟩⟩,⟨_,⟨c10,_⟩,⟨c11,f11⟩,⟨c12,_⟩⟩,_⟩:=c.cells;obtain⟨a,cp,hvt,_,_⟩:=c.wt.slice_form;have hw1:IntKind.i64.wrap (200-(t.length:Int))=200-(t.length:Int):=by simp only[IntKind.wrap_i64];omega
 have hw2:IntKind.u64.wrap (200-(t.length:Int))=200-(t.length:Int):=zbx _ (by omega) (by omega);unfold expC;by_cases hp:200<v+t.length
 ·rw[if_pos hp]
  have HG:Hid (GoR w0 w w b o D vt vs (.bad 5,[]) (.slice none 0 0)):=hid ⟨Vls.nil_ _ _,⟨vt,vs,⟨by decide,c.room,c1⟩,fun k hk=> .inl hk⟩,Subg.refl _ _ _ _ _⟩;have zp:(200-(t.length:Int)<(v:Int))=True:=by simp;omega
  rw[hvt] at c12;generalize t.length=TL at *
  clear c hz hl hk hm H hp;go_enter Tryz.func172,Tryz.ntmps172;go_wp2;go_ret2;exact⟨_,rfl,HG.out⟩
 ·rw[if_neg hp]
  have zp:(200-(t.length:Int)<(v:Int))=False:=by simp;omega
  have hw3:IntKind.i64.wrap (v:Int)=(v:Int):=by simp only[IntKind.wrap_i64];omega
  have hS:Sub b (o+9) 8 w (w.setCell ⟨b,o+9+2,none⟩ (.int .i64 (v:Int))):=zac w _ _ (by omega);have h1:CP (w.setCell ⟨b,o+9+2,none⟩ (.int .i64 (v:Int))) b o D pl .new (mjT m) ch v vt t u vs s.length (inL s) :=
   c.setTx (hS.subg []) (by simp) (c.tx.set 2 (by simp) _) (c.ck.sub (zac (b:=b) (o:=o+9+2) (n:=1) w _ _ (by omega)) (by omega)) (c.wt.subg (hS.subg []) c.ft (by simp)) c.ft
  have HGO:=hid (zaam (w0:=w0) h1 (fun _ h2=>(hz h2).sub (zac (b:=b) (o:=o+9+2) (n:=1) w _ _ (by omega)) (by omega)) (hl.of hS.step.size rfl) hk hm);have HS:=hid hS;have herr:zbs (goC s m ch t v u).1=0:=by
   unfold goC putC atC
   repeat' split
   all_goals rfl
  rw[herr];rw[hvt] at c12;clear c hz hl hk hm H hp hS h1 herr;generalize t.length=TL at *
  go_enter Tryz.func172,Tryz.ntmps172;(go_wp2_with fail);refine HGO.out.mono ?_;rintro r w' ⟨x,rfl,hR⟩;have HR:=hid hR;clear hR;go_wp2;go_ret2;obtain⟨vt',vs',hst,ho⟩:=HR.out.st;exact⟨x,rfl,⟨HR.out.vls,⟨vt',vs',hst,fun k hk=>(ho k hk).imp id (fun h=>Nat.le_trans HS.out.step.size h)⟩,((HS.out.widen (o':=o) (n':=18) (by omega) (by omega)).subg _).tr HR.out.sub⟩⟩
end
section
open Go.RowKit
open Go.Lib
theorem GoR.from_ {w0 w w1 w':World} {b o D:Nat} {vt vs vt1:Value} {q:Ci×List Ev} {x:Value} (h:GoR w0 w1 w' b o D vt1 vs q x) (hS:Subg (Value.owner vt++Value.owner vs) b o 18 w w1) (ho:∀k∈Value.owner vt1,k∈Value.owner vt∨w.heap.size≤k):GoR w0 w w' b o D vt vs q x:=by
 have hg:∀k∈Value.owner vt1++Value.owner vs,k∈Value.owner vt++Value.owner vs∨w.heap.size≤k:=fun k hk=>by
  rcases List.mem_append.1 hk with hk|hk
  ·exact(ho k hk).imp (fun h=>List.mem_append.2 (.inl h)) id
  ·exact .inl (List.mem_append.2 (.inr hk))
 obtain⟨vt',vs',hst,ho'⟩:=h.st;exact⟨h.vls,⟨vt',vs',hst,fun k hk=>(ho' k hk).elim (hg k) (fun h2=> .inr (Nat.le_trans hS.size h2))⟩,hS.trans h.sub hg⟩
theorem GoR.up {w0 w w1 w':World} {b o D:Nat} {vt vs:Value} {q:Ci×List Ev} {x:Value} (h:GoR w0 w1 w' b o D vt vs q x) (hB:Below w.heap.size w w1) (hb:b<w.heap.size):GoR w0 w w' b o D vt vs q x :=
 h.from_ (zae hB hb _ _ _) (fun _ hk=> .inl hk)
def txB (M:Nat) (q:Bool):List Value:=[.int .i64 (M:Int),.bool q,.int .i64 0,.slice none 0 0,.int .i64 0,.int .u8 0,.int .u8 0,.bool false]
theorem zahz (M:Nat) (q:Bool):(txB M q).toArray.all (·.oneCell')=true:=by simp[txB,Value.oneCell']
theorem zhb {w0 w:World} {b o D pl:Nat} {mj lk:Nat} {ch:Bool} {vt:Value} {t:List UInt8} {u:Option (Nat×Nat×Nat)} {vs:Value} {s:List Bx} (c:CP w b o D pl .new mj ch lk vt t u vs s.length (inL s)) (hl:Low w0 w b vs) (hk:OkS s) (hm:∀x∈s,x.have_+1≤2000000000)
  {m:Bool} {v:Nat} {q:Bool} (hW:WfH (.fin (mjT m) v q)) :
  Calls Tryz.prog 176 #[.pointer (some ⟨b,o,none⟩),.agg #[.int .i64 (0:Nat),.int .i64 (2:Nat),.int .i64 (mjT m:Nat),.bool q,.int .i64 (0:Nat),.int .u64 (v:Nat)]] w fun r w' =>
   ∃x,r= .returned (.tuple #[x,.int .i64 (zbs (expC s m q [] v st0).1:Nat)])∧GoR w0 w w' b o D vt vs (expC s m q [] v st0) x:=by
 have hB:Below w.heap.size w (w.alloc (.cells #[.int .i64 (0:Nat),.int .i64 (2:Nat),.int .i64 (mjT m:Nat),.bool q,.int .i64 (0:Nat),.int .u64 (v:Nat)] 142)):=zaa (Below.refl _ _) _;have HX:=hid (zb8 hW rfl w 142);have H:=hid (And.intro (c.go hB) (And.intro (hl.up hB) (And.intro hk (And.intro hm (And.intro c.lt hB)))));have hv:v<18446744073709551616:=hW.2;have HM:=hid (zbn HX.out);have HO:=hid (zfu HX.out);have HR:=hid H.out.1.tx8;have HV:=hid (hv);have HXB:=hid (fun(w1:World) (k:Sub b (o+9) 8 (w.alloc (.cells #[.int .i64 (0:Nat),.int .i64 (2:Nat),.int .i64 (mjT m:Nat),.bool q,.int .i64 (0:Nat),.int .u64 (v:Nat)] 142)) w1)=>zbi (HX.out.keep (k.step.block w.heap.size (by simp) (by simp;have:=c.lt;omega))));simp only[majH,opnH,valH] at HM HO HXB;clear c hB hl hk hm hW hv;go_enter Tryz.func176,Tryz.ntmps176;(go_wp2_with fail);refine HM.out.mono ?_;rintro r w1 ⟨rfl,rfl⟩;(go_wp2_with fail);refine HO.out.mono ?_;rintro r w1 ⟨rfl,rfl⟩;generalize w.alloc (.cells #[.int .i64 (0:Nat),.int .i64 (2:Nat),.int .i64 (mjT m:Nat),.bool q,.int .i64 (0:Nat),.int .u64 (v:Nat)] 142)=W at *
 go_wp2_with (refine zas rfl 144 _ _ rfl b (o+9) (txB (mjT m) q) rfl rfl HR.out (by kernel_rfl) (zahz _ _) ?_)
 intro w1 h1;have hc1:CP w1 b o D pl .new (mjT m) q 0 (.slice none 0 0) [] st0 vs s.length (inL s) :=
  H.out.1.setTx (h1.out.2.subg []) (by simp) (h1.out.1.left (us:=[.int .i64 0,.int .u8 0,.int .u8 0,.bool false])) (zeb (h1.out.1.right (vs:=[.int .i64 (mjT m:Nat),.bool q,.int .i64 0,.slice none 0 0]))) (Win.nil_ _ _ _) (by simp[Value.owner])
 have hs1:Sub b o 18 W w1:=h1.out.2.widen (by omega) (by simp[txB]);have HE:=hid (znd hc1 (fun _=>hc1.ck) (by simp) (H.out.2.1.of hs1.step.size rfl) H.out.2.2.1 H.out.2.2.2.1 v HV.out);have HS1:=hid hs1;have HVV:=hid (HXB.out w1 (h1.out.2.widen (by omega) (by simp[txB])));clear h1 hc1 HR HX HM HO hs1 HXB;(go_wp2_with fail);refine HVV.out.mono ?_;rintro r w2 ⟨rfl,rfl⟩;(go_wp2_with fail);refine HE.out.mono ?_;rintro r w' ⟨x,rfl,hR⟩;have HR:=hid hR;clear hR;go_wp2;go_ret2;exact⟨x,rfl,(HR.out.from_ (HS1.out.subg _) (fun k hk=>by simp[Value.owner] at hk)).up H.out.2.2.2.2.2 H.out.2.2.2.2.1⟩
def zje (s:List Bx) (m:Bool) (t:List UInt8) (h:Hd):Ci×List Ev:=if brkH h=true then putC s (zby m t) else expC s m true t (valH h) st0
theorem zaeo {w0 w:World} {b o D pl:Nat} {vt:Value} {t:List UInt8} {vs:Value} {s:List Bx} {m:Bool} {lk:Nat} (c:CP w b o D pl .new (mjT m) true lk vt t st0 vs s.length (inL s)) (ht:t.length≤200) (hl:Low w0 w b vs) (hk:OkS s) (hm:∀x∈s,x.have_+1≤2000000000)
    {M v:Nat} {q:Bool} (hW:WfH (.fin M v q)) :
    Calls Tryz.prog 164 #[.pointer (some ⟨b,o,none⟩),.agg #[.int .i64 (0:Nat),.int .i64 (2:Nat),.int .i64 (M:Nat),.bool q,.int .i64 (0:Nat),.int .u64 (v:Nat)]] w fun r w' =>
      ∃x,r= .returned (.tuple #[x,.int .i64 (zbs (zje s m t (.fin M v q)).1:Nat)])∧GoR w0 w w' b o D vt vs (zje s m t (.fin M v q)) x:=by
  have hB:Below w.heap.size w (w.alloc (.cells #[.int .i64 (0:Nat),.int .i64 (2:Nat),.int .i64 (M:Nat),.bool q,.int .i64 (0:Nat),.int .u64 (v:Nat)] 142)):=zaa (Below.refl _ _) _;have HX:=hid (zb8 hW rfl w 142);have H:=hid (And.intro (c.go hB) (And.intro (hl.up hB) (And.intro hk (And.intro hm (And.intro c.lt hB)))));have hv:v<18446744073709551616:=hW.2;obtain⟨⟨x0,_⟩,⟨x1,_⟩,⟨x2,_⟩,⟨x3,_⟩,⟨x4,_⟩,⟨x5,_⟩⟩:=HX.out.2.six;have HBR:=hid (fun W=>zi8 hW rfl W);have HV:=hid (And.intro hv ht);unfold zje;simp only[valH];have HXV:=hid (fun w1 (k:Below (w.alloc (.cells #[.int .i64 (0:Nat),.int .i64 (2:Nat),.int .i64 (M:Nat),.bool q,.int .i64 (0:Nat),.int .u64 (v:Nat)] 142)).heap.size (w.alloc (.cells #[.int .i64 (0:Nat),.int .i64 (2:Nat),.int .i64 (M:Nat),.bool q,.int .i64 (0:Nat),.int .u64 (v:Nat)] 142)) w1)=>zbi (HX.out.keep (k.block w.heap.size (by simp))));simp only[valH] at HXV;clear c hB hl hk hm hW hv ht x0 x1 x2 x3 x4 x5;generalize brkH (.fin M v q)=B at *
  cases B with
  | true =>
    rw[if_pos rfl,zagt];go_enter Tryz.func164,Tryz.ntmps164;(go_wp2_with fail);refine(HBR.out _).mono ?_;rintro r w1 ⟨rfl,b1⟩;have HE:=hid (zkq (H.out.1.go b1) (H.out.2.1.up b1) H.out.2.2.1 H.out.2.2.2.1);have B1:=hid (zab H.out.2.2.2.2.2 b1);clear b1 HBR HXV HX;(go_wp2_with fail);refine HE.out.mono ?_;rintro r w' ⟨x,rfl,hR⟩;have HR:=hid hR;clear hR;go_wp2;go_ret2;exact⟨x,rfl,HR.out.up B1.out H.out.2.2.2.2.1⟩
  | false =>
    rw[if_neg (by decide)];go_enter Tryz.func164,Tryz.ntmps164;(go_wp2_with fail);refine(HBR.out _).mono ?_;rintro r w1 ⟨rfl,b1⟩;have HE:=hid (znd (w0:=w0) (H.out.1.go b1) (fun _=>(H.out.1.go b1).ck) HV.out.2 (H.out.2.1.up b1) H.out.2.2.1 H.out.2.2.2.1 v HV.out.1);have B1:=hid (zab H.out.2.2.2.2.2 b1);have HVV:=hid (HXV.out w1 b1);clear b1 HBR HXV HX;(go_wp2_with fail);refine HVV.out.mono ?_;rintro r w2 ⟨rfl,rfl⟩;(go_wp2_with fail);refine HE.out.mono ?_;rintro r w' ⟨x,rfl,hR⟩;have HR:=hid hR;clear hR;go_wp2;go_ret2;exact⟨x,rfl,HR.out.up B1.out H.out.2.2.2.2.1⟩
theorem zu8 {w:World} {b o:Nat} {m ch:Bool} {lk:Nat} {vt:Value} {u:Option (Nat×Nat×Nat)} (hA:At w b o [.int .i64 (mjT m:Nat),.bool ch,.int .i64 lk,vt]) (hC:CAt w b (o+4) u) (y:UInt8) :
    Calls Tryz.prog 159 #[.pointer (some ⟨b,o,none⟩),.int .u8 (y.toNat:Int)] w fun r w'=>r= .returned (.bool (mayH m lk (zbq m u y)))∧CAt w' b (o+4) (zbq m u y)∧Sub b (o+4) 4 w w':=by
  have c0:=(hA 0 _ rfl).1;simp only[Nat.add_zero] at c0;cases m with
  | false =>
    simp only[mjT] at c0;have HC:=hid hC;have hE:mayH false lk (zbq false u y)=true:=rfl;rw[hE];clear hA hC hE;go_enter Tryz.func159,Tryz.ntmps159;go_wp2;go_ret;exact⟨rfl,HC.out,Sub.refl _ _ _ _⟩
  | true =>
    simp only[mjT] at c0;have hS:=zei hC y;have hn:zbq true u y=zb7 u y:=rfl;rw[hn];have HA:=hid hA;obtain⟨X,hX⟩:∃X,(y.toNat:Int)=X:=⟨_,rfl⟩
    rw[hX] at hS ⊢;generalize zb7 u y=u' at *
    have HS:=hid hS;clear hA hC hn hS;cases hu:u'.isSome with
    | false =>
      rw[hu] at HS;have hE:mayH true lk u'=false:=by simp[mayH,hu]
      rw[hE];clear hE hu;go_enter Tryz.func159,Tryz.ntmps159;(go_wp2_with fail);refine HS.out.mono ?_;rintro r w1 ⟨rfl,h1,h2⟩;have H1:=hid (And.intro h1 h2);clear h1 h2;go_wp2;go_ret;exact⟨rfl,H1.out⟩
    | true =>
      rw[hu] at HS;by_cases hp:0<lk
      · have hE:mayH true lk u'=true:=by simp[mayH,hu,hp]
        rw[hE];have zp:(0<lk)=True:=by simp[hp]
        clear hE hu hp;go_enter Tryz.func159,Tryz.ntmps159;(go_wp2_with fail);refine HS.out.mono ?_;rintro r w1 ⟨rfl,h1,h2⟩;have c2:=((HA.out.sub h2 (by simp)) 2 _ rfl).1;have H1:=hid (And.intro h1 h2);clear h1 h2;go_wp2;go_ret;exact⟨rfl,H1.out⟩
      · obtain rfl:lk=0:=by omega
        have hE:mayH true 0 u'=zch u':=by simp[mayH,hu]
        rw[hE];have HWW:=hid (fun(w1:World) (h:CAt w1 b (o+4) u')=>zlb h);generalize zch u'=U at *
        clear hE hu hp;go_enter Tryz.func159,Tryz.ntmps159;(go_wp2_with fail);refine HS.out.mono ?_;rintro r w1 ⟨rfl,h1,h2⟩;have c2:=((HA.out.sub h2 (by simp)) 2 _ rfl).1;have HW:=hid (HWW.out w1 h1);have H1:=hid (And.intro h1 h2);clear h1 h2;(go_wp2_with fail);refine HW.out.mono ?_;rintro r w2 ⟨rfl,rfl⟩;go_wp2;go_ret;exact⟨rfl,H1.out⟩
end
section
open Go.RowKit
open Go.Lib
theorem zvn {w:World} {b o:Nat} {u:Option (Nat×Nat×Nat)} (h:zch u=true) (hC:CAt w b o u):CAt w b o st0:=by
  match u,h,hC with
  | some (0,lo,hi),_,hC =>
    obtain⟨_,lo',hi',hA,_⟩:=hC;exact⟨by omega,lo',hi',hA,fun h=>by omega⟩
def bytC (s:List Bx) (m ch:Bool) (t:List UInt8) (n:Nat) (u:Option (Nat×Nat×Nat)) (y:UInt8):Ci×List Ev :=
 if mayH m n (zbq m u y)=true then goC s m ch (t++[y]) n (zbq m u y) else(.bad 9,[])
theorem zaiz (s:List Bx) (m ch:Bool) (t:List UInt8) (n:Nat) (u:Option (Nat×Nat×Nat)):zbs (goC s m ch t n u).1=0:=by
 unfold goC putC atC
 repeat' split
 all_goals rfl
theorem zx9 {W w3:World} {b o D pl:Nat} {h:Hd} {mj:Nat} {ch:Bool} {lk:Nat} {vt v3:Value} {t:List UInt8} {u:Option (Nat×Nat×Nat)} {vs:Value} {n:Nat} {xs:List Value} {y:UInt8} {ob:Obj} (c:CP W b o D pl h mj ch lk vt t u vs n xs)
  (hW:Win w3 5 1 v3 (t.length+1) (zbe t++[.int .u8 (y.toNat:Int)])) (hG:(W.alloc ob).grownBy w3 vt.ownBlock) (hO:v3.ownBlock=vt.ownBlock∨v3.ownBlock=some (W.alloc ob).heap.size∧(W.alloc ob).heap.size<w3.heap.size) :
  (w3.cell? ⟨b,o+9+3,none⟩=some vt∧w3.frozen? ⟨b,o+9+3,none⟩=false)∧CP (w3.setCell ⟨b,o+9+3,none⟩ v3) b o D pl h mj ch lk v3 (t++[y]) u vs n xs∧(∀k∈Value.owner v3,k∈Value.owner vt∨W.heap.size≤k)∧Subg (Value.owner vt) b o 18 W (w3.setCell ⟨b,o+9+3,none⟩ v3):=by
 have hz:(W.alloc ob).heap.size=W.heap.size+1:=by simp
 have hnb:vt.ownBlock≠some b:=fun e=>c.ft ((zad _ _).1 e)
 have hb:=c.lt;have hblk:w3.heap[b]? = W.heap[b]? :=(hG.block b (by omega) (fun e=>hnb e.symm)).trans (Below.heap_alloc W ob b hb);have hown:∀k∈Value.owner v3,k∈Value.owner vt∨W.heap.size≤k:=by
  intro k hk;rcases hO with e|⟨e,_⟩
  ·exact .inl ((zad _ _).1 (e▸(zad _ _).2 hk))
  ·have h2:=(zad _ _).2 hk
   rw[e] at h2;cases h2;exact .inr (by omega)
 have hfar:b∉Value.owner v3:=fun hk=>(hown b hk).elim c.ft (fun h=>by omega)
 have hvs:∀k∈Value.owner vs,w3.heap[k]? = W.heap[k]? := fun k hk=>by
  have hlt:=c.op.win.lt k hk;exact(hG.block k (by omega) (fun e=>c.apart k hk ((zad _ _).1 e.symm))).trans (Below.heap_alloc W ob k hlt)
 have hc3:CP w3 b o D pl h mj ch lk (.slice none 0 0) [] u vs n xs→True:=fun _=>trivial
 have hA:=c.tx.keep hblk;have hS:Sub b (o+9) 8 w3 (w3.setCell ⟨b,o+9+3,none⟩ v3):=zac w3 _ _ (by omega);refine⟨hA 3 _ rfl,⟨(c.a.keep hblk).sub hS (by simp),(c.hd.keep hblk).sub hS (by omega),hA.set 3 (by simp) v3,(c.ck.keep hblk).sub (zac (b:=b) (o:=o+9+3) (n:=1) w3 _ _ (by omega)) (by omega),
  ⟨(c.op.ptr.keep hblk).sub hS (by simp),(c.op.win.keep hvs).setCell_far c.op.far _,c.op.far⟩,?_,hfar⟩,hown,?_⟩
 ·rw[List.length_append,zf9]
  exact hW.setCell_far hfar _
 ·exact((zae ((Below.refl _ _).alloc (Nat.le_refl _) ob) hb _ _ _).tr (zc6 hG (fun k hk=>(zad _ _).1 hk) hnb (by omega))).tr ((hS.widen (by omega) (by omega)).subg _)
theorem zf1 {w0 w:World} {b o D pl:Nat} {vt:Value} {t:List UInt8} {u:Option (Nat×Nat×Nat)} {vs:Value} {s:List Bx} {m ch:Bool} {n:Nat} (c:CP w b o D pl .new (mjT m) ch (n+1) vt t u vs s.length (inL s)) (hu:m=false→u=st0) (ht:t.length+(n+1)≤200) (hl:Low w0 w b vs) (hk:OkS s) (hm:∀x∈s,x.have_+1≤2000000000) (y:UInt8) :
    Calls Tryz.prog 157 #[.pointer (some ⟨b,o,none⟩),.int .u8 (y.toNat:Int)] w fun r w' =>
      ∃x,r= .returned (.tuple #[x,.int .i64 (zbs (bytC s m ch t n u y).1:Nat)])∧GoR w0 w w' b o D vt vs (bytC s m ch t n u y) x:=by
  obtain⟨_,⟨_,_,⟨c11,f11⟩,⟨c12,f12⟩⟩,_⟩:=c.cells;obtain⟨a,cp,hvt,_,_⟩:=c.wt.slice_form;subst hvt;have hw1:IntKind.i64.wrap (n:Int)=(n:Int):=by simp only[IntKind.wrap_i64];omega
  have hwn:wrap64 (n:Int)=(n:Int):=by unfold wrap64;omega
  have hS:Sub b (o+9) 8 w (w.setCell ⟨b,o+9+2,none⟩ (.int .i64 (n:Int))):=zac w _ _ (by omega);have hc1:CP (w.setCell ⟨b,o+9+2,none⟩ (.int .i64 (n:Int))) b o D pl .new (mjT m) ch n (.slice a t.length cp) t u vs s.length (inL s) :=
    c.setTx (hS.subg []) (by simp) (c.tx.set 2 (by simp) _) (c.ck.sub (zac (b:=b) (o:=o+9+2) (n:=1) w _ _ (by omega)) (by omega)) (c.wt.subg (hS.subg []) c.ft (by simp)) c.ft
  have d12:=hc1.cells.2.1.2.2.2;have HC1:=hid (And.intro hc1 (And.intro hS c.lt));have H:=hid (And.intro hu (And.intro hl (And.intro hk (And.intro hm (And.intro c ht)))));have HW1:=hid (fun ob=>hc1.wt.alloc ob);have hn1:t.length≤200:=by omega
  clear c hc1 hS hu hl hk hm d12;have HNW:Hid (∀ob,((w.setCell ⟨b,o+9+2,none⟩ (.int .i64 (n:Int))).alloc ob).heap[w.heap.size]? = some ob):=hid (fun ob=>by
    have:=heap_alloc_new (w.setCell ⟨b,o+9+2,none⟩ (.int .i64 (n:Int))) ob;simpa using this)
  go_enter Tryz.func157,Tryz.ntmps157
  go_wp2_with (at_builtin;refine zaj rfl _ _ _ rfl Tryz.underlying30 zahu rfl rfl (HW1.out _) _ rfl 1 _ (zcl _ Tryz.underlying30 1 1 [.int .u8 (y.toNat:Int)] 5 _ rfl (by simp[Value.oneCell']) (HNW.out _)) ?e1 ?e2 ?_)
  case e1=>unfold maxLen;omega
  case e2=>omega
  intro v3 w3 hW3 hG3 hO3;obtain⟨g,hc4,hown,hS4⟩:=zx9 (vt:= .slice a t.length cp) HC1.out.1 hW3.out hG3.out (by simpa using hO3.out);obtain⟨g1,g2⟩:=g;obtain⟨a3,c3,rfl,_,_⟩:=Win.slice_form hW3.out;have H4:=hid (And.intro hc4 (And.intro hown hS4));have HMY:=hid (zu8 hc4.tx hc4.ck y);clear hW3 hG3 hO3 hc4 hown hS4;(go_wp2_with fail);refine HMY.out.mono ?_;rintro r w5 ⟨rfl,hk5,hS5⟩;have hc5:CP w5 b o D pl .new (mjT m) ch n (.slice a3 (t.length+1) c3) (t++[y]) (zbq m u y) vs s.length (inL s) :=
    H4.out.1.setTx ((hS5.widen (by omega) (by omega)).subg []) (by simp) (H4.out.1.tx.sub hS5 (by simp)) hk5 (H4.out.1.wt.subg (hS5.subg []) H4.out.1.ft (by simp)) H4.out.1.ft
  have hgo:GoR w0 w5 w5 b o D (.slice a3 (t.length+1) c3) vs (.bad 9,[]) (.slice none 0 0):=⟨Vls.nil_ _ _,⟨_,vs,⟨by decide,hc5.room,hc5.cells.1.2.1.1⟩,fun k hk=> .inl hk⟩,Subg.refl _ _ _ _ _⟩
  have hS1:Subg (Value.owner (.slice a t.length cp)++Value.owner vs) b o 18 w w5:=by
    have e1:Subg (Value.owner (.slice a t.length cp)++Value.owner vs) b o 18 w (w.setCell ⟨b,o+9+2,none⟩ (.int .i64 (n:Int))):=(HC1.out.2.1.widen (by omega) (by omega)).subg _;have e2:=H4.out.2.2.widen (g':=Value.owner (.slice a t.length cp)++Value.owner vs) (fun x hx=>List.mem_append.2 (.inl hx)) (Nat.le_refl _) (Nat.le_refl _);exact(e1.tr e2).tr ((hS5.widen (by omega) (by omega)).subg _)
  have hown:∀k∈Value.owner (.slice a3 (t.length+1) c3),k∈Value.owner (.slice a t.length cp)∨w.heap.size≤k:=fun k hk=>(H4.out.2.1 k hk).imp id (fun h=>Nat.le_trans (by simp) h)
  have HLow:Low w0 w5 b vs:=H.out.2.1.of hS1.size rfl;have HF:=hid (fun x w' (h:GoR w0 w5 w' b o D (.slice a3 (t.length+1) c3) vs (bytC s m ch t n u y) x)=>(h.from_ hS1 hown:GoR w0 w w' b o D (.slice a t.length cp) vs (bytC s m ch t n u y) x));have HMH:Hid (mayH m n (zbq m u y)=true→n=0→ch=true→CAt w5 b (o+13) st0):=hid (by
    intro hmh hn hch;cases m with
    | false =>
      have:zbq false u y=u:=rfl;rw[this,H.out.1 rfl] at hk5;exact hk5
    | true =>
      refine zvn ?_ hk5;simpa [mayH,hn] using(by simpa [mayH,hn] using hmh:_∧_).2)
  have HG:=hid hgo;have HC5:=hid (And.intro hc5 HLow);have hb:bytC s m ch t n u y=if mayH m n (zbq m u y)=true then goC s m ch (t++[y]) n (zbq m u y) else(.bad 9,[]):=rfl
  clear hk5 hS5 hc5 hgo hS1 hown HLow HMY;have HBE:=hid hb;clear hb;cases hmh:mayH m n (zbq m u y) with
  | false =>
    have hb:bytC s m ch t n u y=(.bad 9,[]):=by rw[HBE.out,hmh,if_neg (by decide)]
    have HB9:=hid hb;clear hb hmh;go_wp2;go_ret2;have hF:=HF.out (.slice none 0 0) w5;rw[HB9.out] at hF ⊢;exact⟨_,rfl,hF HG.out⟩
  | true =>
    have hb:bytC s m ch t n u y=goC s m ch (t++[y]) n (zbq m u y):=by rw[HBE.out,hmh,if_pos rfl]
    have HB9:=hid hb;have HGO:=hid (zaam (w0:=w0) HC5.out.1 (HMH.out hmh) HC5.out.2 H.out.2.2.1 H.out.2.2.2.1);clear hb hmh;(go_wp2_with fail);refine HGO.out.mono ?_;rintro r w' ⟨x,rfl,hR⟩;have HR:=hid hR;clear hR;go_wp2;go_ret2;have hF:=HF.out x w';rw[HB9.out] at hF ⊢;rw[zaiz];exact⟨x,rfl,hF HR.out⟩
end
section
open Go.RowKit
open Go.Lib
def conC (s:List Bx) (m:Bool) (v:Nat) (q:Bool):Ci×List Ev:=if 1000000<v then(.bad 7,[]) else zca s m (if q=true then -1 else v)
theorem zrj {w0 w w1 w3:World} {b o D:Nat} {vt vs v':Value} {s:List Bx} {m:Bool} {c:Int} (hC:CP w1 b o D 0 .new 0 false 0 vt [] st0 vs s.length (inL s)) (hl:Low w0 w1 b vs) (hB:Below w.heap.size w w1) (hb:b<w.heap.size) (hc:c≠0)
  (hN:Nst w3 b (o+17) v' (s.length+1) (inL (⟨m,c,0⟩::incB s))) (ho:∀k∈Value.owner v',k∈Value.owner vs∨w1.heap.size≤k) (hS:Subg (Value.owner vs) b (o+17) 1 w1 w3) (g:Nat) (hg:g=w3.heap.size) :
  GoR w0 w (w3.alloc (.cells #[valE (zb9 m c)] 20)) b o D vt vs (zca s m c) (.slice (some ⟨g,0,none⟩) 1 1):=by
 subst hg;rw[zhr s m hc];have h3:CP w3 b o D 0 .new 0 false 0 vt [] st0 v' (s.length+1) (inL (⟨m,c,0⟩::incB s)):=hC.setOp hS (fun x hx h=>hC.apart x h hx) hN;have hup:Below w3.heap.size w3 (w3.alloc (.cells #[valE (zb9 m c)] 20)):=(Below.refl _ _).alloc (Nat.le_refl _) _;have hz:w0.heap.size≤w3.heap.size:=Nat.le_trans hl.size hS.size;refine⟨⟨zfv w3 _ _ _ rfl,fun k hk=> ?_⟩,⟨vt,v',?_,fun k hk=> ?_⟩,?_⟩
 ·simp only[Value.owner,List.mem_singleton] at hk
  omega
 ·have:=h3.go hup
  simpa [StC,zbh] using this
 ·rcases List.mem_append.1 hk with hk|hk
  ·exact .inl (List.mem_append.2 (.inl hk))
  ·exact(ho k hk).imp (fun h=>List.mem_append.2 (.inr h)) (fun h=>Nat.le_trans hB.size h)
 ·have e1:=zae hB hb (Value.owner vt++Value.owner vs) o 18
  have e2:=hS.widen (g':=Value.owner vt++Value.owner vs) (o':=o) (n':=18) (fun x hx=>List.mem_append.2 (.inr hx)) (by omega) (by omega);exact(e1.tr e2).tr (zae hup h3.lt _ _ _)
theorem zxz {w0 w:World} {b o D:Nat} {vt:Value} {vs:Value} {s:List Bx} (c:CP w b o D 0 .new 0 false 0 vt [] st0 vs s.length (inL s)) {M v:Nat} {q:Bool} (hW:WfH (.fin M v q)) (hv:1000000<v) :
  Calls Tryz.prog 177 #[.pointer (some ⟨b,o,none⟩),.agg #[.int .i64 0,.int .i64 2,.int .i64 (M:Nat),.bool q,.int .i64 0,.int .u64 (v:Nat)]] w fun r w' =>
   ∃x,r= .returned (.tuple #[x,.int .i64 (7:Nat)])∧GoR w0 w w' b o D vt vs (.bad 7,[]) x:=by
 have hB:Below w.heap.size w (w.alloc (.cells #[.int .i64 0,.int .i64 2,.int .i64 (M:Nat),.bool q,.int .i64 0,.int .u64 (v:Nat)] 142)):=zaa (Below.refl _ _) _;have HX:Hid (HAt (w.alloc (.cells #[.int .i64 0,.int .i64 2,.int .i64 (M:Nat),.bool q,.int .i64 0,.int .u64 (v:Nat)] 142)) w.heap.size 0 (.fin M v q)):=hid (zb8 hW rfl w 142);have hc:=c.go hB;have HG:Hid (GoR w0 w (w.alloc (.cells #[.int .i64 0,.int .i64 2,.int .i64 (M:Nat),.bool q,.int .i64 0,.int .u64 (v:Nat)] 142)) b o D vt vs (.bad 7,[]) (.slice none 0 0)):=hid ⟨Vls.nil_ _ _,⟨vt,vs,⟨by decide,hc.room,hc.cells.1.2.1.1⟩,fun k hk=> .inl hk⟩,zae hB c.lt _ _ _⟩;have HV:=hid (zbi HX.out);simp only[valH] at HV;have zv:(1000000<(v:Int))=True:=by simp;omega
 clear c hB hc hW hv;go_enter Tryz.func177,Tryz.ntmps177;(go_wp2_with fail);refine HV.out.mono ?_;rintro r w1 ⟨rfl,rfl⟩;go_wp2;go_ret2;exact⟨_,rfl,HG.out⟩
theorem zqr {w0 w:World} {b o D:Nat} {vt:Value} {vs:Value} {s:List Bx} (c:CP w b o D 0 .new 0 false 0 vt [] st0 vs s.length (inL s)) (hl:Low w0 w b vs) (hd:s.length<16) {M v:Nat} {m:Bool} (hM:((M:Int)==5)=m) (hv:v≤1000000) (hW:WfH (.fin M v true)) :
  Calls Tryz.prog 177 #[.pointer (some ⟨b,o,none⟩),.agg #[.int .i64 0,.int .i64 2,.int .i64 (M:Nat),.bool true,.int .i64 0,.int .u64 (v:Nat)]] w fun r w' =>
   ∃x,r= .returned (.tuple #[x,.int .i64 (0:Nat)])∧GoR w0 w w' b o D vt vs (zca s m (-1)) x:=by
 have hB:Below w.heap.size w (w.alloc (.cells #[.int .i64 0,.int .i64 2,.int .i64 (M:Nat),.bool true,.int .i64 0,.int .u64 (v:Nat)] 142)):=zaa (Below.refl _ _) _;have HX:Hid (HAt (w.alloc (.cells #[.int .i64 0,.int .i64 2,.int .i64 (M:Nat),.bool true,.int .i64 0,.int .u64 (v:Nat)] 142)) w.heap.size 0 (.fin M v true)):=hid (zb8 hW rfl w 142);have HXX:=fun w1 (k:Below (w.alloc (.cells #[.int .i64 0,.int .i64 2,.int .i64 (M:Nat),.bool true,.int .i64 0,.int .u64 (v:Nat)] 142)).heap.size (w.alloc (.cells #[.int .i64 0,.int .i64 2,.int .i64 (M:Nat),.bool true,.int .i64 0,.int .u64 (v:Nat)] 142)) w1)=>(HX.out.keep (k.block w.heap.size (by simp)):HAt w1 w.heap.size 0 (.fin M v true))
 have HV:=hid (zbi HX.out);have HM:=hid (zbn HX.out);have HO:=hid (fun w1 k=>zfu (HXX w1 k));simp only[valH,majH,opnH] at HV HM HO;have hW1:Below w.heap.size w ((w.alloc (.cells #[.int .i64 0,.int .i64 2,.int .i64 (M:Nat),.bool true,.int .i64 0,.int .u64 (v:Nat)] 142)).alloc (.cells #[.bool m,.int .i64 (-1)] 166)):=zaa (zaa (Below.refl _ _) _) _;have zv:(1000000<(v:Int))=False:=by simp;omega
 have hwv:IntKind.i64.wrap (v:Int)=(v:Int):=by simp only[IntKind.wrap_i64];omega
 have H:=hid (And.intro (c.go hW1) (And.intro (hl.up hW1) (And.intro c.lt hW1)));have HL0:=hid hl.size;have HE:=hid (zr6 (w:=(((w.alloc (.cells #[.int .i64 0,.int .i64 2,.int .i64 (M:Nat),.bool true,.int .i64 0,.int .u64 (v:Nat)] 142)).alloc (.cells #[.bool m,.int .i64 (-1)] 166)).drew)) (H.out.1.op.drewN 1) hd m (-1) (by omega));have HBK:=hid (zag (w.alloc (.cells #[.int .i64 0,.int .i64 2,.int .i64 (M:Nat),.bool true,.int .i64 0,.int .u64 (v:Nat)] 142)) #[.bool m,.int .i64 (-1)] 166);clear c hB hl hd hW hv HX HXX hW1;go_enter Tryz.func177,Tryz.ntmps177;(go_wp2_with fail);refine HV.out.mono ?_;rintro r w1 ⟨rfl,rfl⟩;(go_wp2_with fail);refine HM.out.mono ?_;rintro r w1 ⟨rfl,rfl⟩;(go_wp2_with fail);refine HV.out.mono ?_;rintro r w1 ⟨rfl,rfl⟩;(go_wp2_with fail);refine(HO.out _ (zaa (Below.refl _ _) _)).mono ?_;rintro r w1 ⟨rfl,rfl⟩;(go_wp2_with fail);generalize hWg:((w.alloc (.cells #[.int .i64 0,.int .i64 2,.int .i64 (M:Nat),.bool true,.int .i64 0,.int .u64 (v:Nat)] 142)).alloc (.cells #[.bool m,.int .i64 (-1)] 166))=W at *
 have hsz:W.heap.size=w.heap.size+2:=by rw[← hWg];simp
 have hbk:Blk W (w.heap.size+1) #[.bool m,.int .i64 (-1)] 166:=by have:=HBK.out;simpa using this
 have HC:=hid H.out.1;have HLW:=hid H.out.2;have HZ:=hid hsz;have HBW:=hid hbk;have d0:W.drew.cell? ⟨w.heap.size+1,0,none⟩=some (.bool m):=hbk.cell 0;have d1:W.drew.cell? ⟨w.heap.size+1,1,none⟩=some (.int .i64 (-1)):=hbk.cell 1;clear H HBK hWg hsz hbk;refine za4 4 (by kernel_rfl) (by kernel_rfl) ?_;simp only[List.take_succ_cons,List.take_zero,List.drop_succ_cons,List.drop_zero]
 repeat still_step
 refine wpStill_nil ?_;(go_wp2_with fail);refine HE.out.mono ?_;rintro r w3 ⟨rfl,v',hN,ho,hS⟩;have hblk3:Blk w3 (w.heap.size+1) #[.bool m,.int .i64 (-1)] 166:=(hS.block _ (by show w.heap.size+1<W.heap.size;have:=HZ.out;omega) (by have:=HLW.out.2.1;omega) (fun h=>by
  have h1:=HLW.out.1.vs _ h;have h2:=HL0.out;omega)).trans HBW.out
 have e0:=hblk3.cell 0;have e1:=hblk3.cell 1;have HG:=hid (zrj (w0:=w0) (w:=w) (HC.out.drewN 1) (HLW.out.1.of (Nat.le_refl _) rfl) (zbj HLW.out.2.2) HLW.out.2.1 (show(-1:Int)≠0 by decide) hN ho hS _ rfl);rw[zfs] at HG;clear hN ho hS hblk3;go_wp2;go_ret2;exact⟨_,rfl,HG.out⟩
theorem zn5 {w0 w:World} {b o D:Nat} {vt:Value} {vs:Value} {s:List Bx} (c:CP w b o D 0 .new 0 false 0 vt [] st0 vs s.length (inL s)) (hl:Low w0 w b vs) (hd:s.length<16) {M v:Nat} {m:Bool} (hM:((M:Int)==5)=m) (hv:v≤1000000) (hv0:0<v) (hW:WfH (.fin M v false)) :
  Calls Tryz.prog 177 #[.pointer (some ⟨b,o,none⟩),.agg #[.int .i64 0,.int .i64 2,.int .i64 (M:Nat),.bool false,.int .i64 0,.int .u64 (v:Nat)]] w fun r w' =>
   ∃x,r= .returned (.tuple #[x,.int .i64 (0:Nat)])∧GoR w0 w w' b o D vt vs (zca s m (v:Int)) x:=by
 have hB:Below w.heap.size w (w.alloc (.cells #[.int .i64 0,.int .i64 2,.int .i64 (M:Nat),.bool false,.int .i64 0,.int .u64 (v:Nat)] 142)):=zaa (Below.refl _ _) _;have HX:Hid (HAt (w.alloc (.cells #[.int .i64 0,.int .i64 2,.int .i64 (M:Nat),.bool false,.int .i64 0,.int .u64 (v:Nat)] 142)) w.heap.size 0 (.fin M v false)):=hid (zb8 hW rfl w 142);have HXX:=fun w1 (k:Below (w.alloc (.cells #[.int .i64 0,.int .i64 2,.int .i64 (M:Nat),.bool false,.int .i64 0,.int .u64 (v:Nat)] 142)).heap.size (w.alloc (.cells #[.int .i64 0,.int .i64 2,.int .i64 (M:Nat),.bool false,.int .i64 0,.int .u64 (v:Nat)] 142)) w1)=>(HX.out.keep (k.block w.heap.size (by simp)):HAt w1 w.heap.size 0 (.fin M v false))
 have HV:=hid (zbi HX.out);have HM:=hid (zbn HX.out);have HO:=hid (fun w1 k=>zfu (HXX w1 k));simp only[valH,majH,opnH] at HV HM HO;have hW1:Below w.heap.size w ((w.alloc (.cells #[.int .i64 0,.int .i64 2,.int .i64 (M:Nat),.bool false,.int .i64 0,.int .u64 (v:Nat)] 142)).alloc (.cells #[.bool m,.int .i64 (v:Int)] 166)):=zaa (zaa (Below.refl _ _) _) _;have zv:(1000000<(v:Int))=False:=by simp;omega
 have zc:((v:Int)==0)=false:=by rw[beq_eq_false_iff_ne];omega
 have HV0:Hid (¬v=0):=hid (by omega);have hwv:IntKind.i64.wrap (v:Int)=(v:Int):=by simp only[IntKind.wrap_i64];omega
 have H:=hid (And.intro (c.go hW1) (And.intro (hl.up hW1) (And.intro c.lt hW1)));have HL0:=hid hl.size;have HE:=hid (zr6 (w:=(((w.alloc (.cells #[.int .i64 0,.int .i64 2,.int .i64 (M:Nat),.bool false,.int .i64 0,.int .u64 (v:Nat)] 142)).alloc (.cells #[.bool m,.int .i64 (v:Int)] 166)).drew)) (H.out.1.op.drewN 1) hd m (v:Int) (by omega));have HBK:=hid (zag (w.alloc (.cells #[.int .i64 0,.int .i64 2,.int .i64 (M:Nat),.bool false,.int .i64 0,.int .u64 (v:Nat)] 142)) #[.bool m,.int .i64 (v:Int)] 166);clear c hB hl hd hW hv hv0 HX HXX hW1;go_enter Tryz.func177,Tryz.ntmps177;(go_wp2_with fail);refine HV.out.mono ?_;rintro r w1 ⟨rfl,rfl⟩;(go_wp2_with fail);refine HM.out.mono ?_;rintro r w1 ⟨rfl,rfl⟩;(go_wp2_with fail);refine HV.out.mono ?_;rintro r w1 ⟨rfl,rfl⟩;(go_wp2_with fail);refine(HO.out _ (zaa (Below.refl _ _) _)).mono ?_;rintro r w1 ⟨rfl,rfl⟩;(go_wp2_with fail);generalize hWg:((w.alloc (.cells #[.int .i64 0,.int .i64 2,.int .i64 (M:Nat),.bool false,.int .i64 0,.int .u64 (v:Nat)] 142)).alloc (.cells #[.bool m,.int .i64 (v:Int)] 166))=W at *
 have hsz:W.heap.size=w.heap.size+2:=by rw[← hWg];simp
 have hbk:Blk W (w.heap.size+1) #[.bool m,.int .i64 (v:Int)] 166:=by have:=HBK.out;simpa using this
 have HC:=hid H.out.1;have HLW:=hid H.out.2;have HZ:=hid hsz;have HBW:=hid hbk;have d0:W.drew.cell? ⟨w.heap.size+1,0,none⟩=some (.bool m):=hbk.cell 0;have d1:W.drew.cell? ⟨w.heap.size+1,1,none⟩=some (.int .i64 (v:Int)):=hbk.cell 1;clear H HBK hWg hsz hbk;refine za4 4 (by kernel_rfl) (by kernel_rfl) ?_;simp only[List.take_succ_cons,List.take_zero,List.drop_succ_cons,List.drop_zero]
 repeat still_step
 refine wpStill_nil ?_;(go_wp2_with fail);refine HE.out.mono ?_;rintro r w3 ⟨rfl,v',hN,ho,hS⟩;have hblk3:Blk w3 (w.heap.size+1) #[.bool m,.int .i64 (v:Int)] 166:=(hS.block _ (by show w.heap.size+1<W.heap.size;have:=HZ.out;omega) (by have:=HLW.out.2.1;omega) (fun h=>by
  have h1:=HLW.out.1.vs _ h;have h2:=HL0.out;omega)).trans HBW.out
 have e0:=hblk3.cell 0;have e1:=hblk3.cell 1;have HG:=hid (zrj (w0:=w0) (w:=w) (HC.out.drewN 1) (HLW.out.1.of (Nat.le_refl _) rfl) (zbj HLW.out.2.2) HLW.out.2.1 (by simpa using HV0.out) hN ho hS _ rfl);rw[zfs] at HG;clear hN ho hS hblk3;go_wp2;go_ret2;exact⟨_,rfl,HG.out⟩
theorem zqt {w0 w:World} {b o D:Nat} {vt:Value} {vs:Value} {s:List Bx} (c:CP w b o D 0 .new 0 false 0 vt [] st0 vs s.length (inL s)) (hl:Low w0 w b vs) (hk:OkS s) (hm:∀x∈s,x.have_+1≤2000000000) (hvt:∀k∈Value.owner vt,k<w0.heap.size) {M:Nat} {m:Bool} (hM:((M:Int)==5)=m) (hW:WfH (.fin M 0 false)) :
  Calls Tryz.prog 177 #[.pointer (some ⟨b,o,none⟩),.agg #[.int .i64 0,.int .i64 2,.int .i64 (M:Nat),.bool false,.int .i64 0,.int .u64 (0:Nat)]] w fun r w' =>
   ∃x,r= .returned (.tuple #[x,.int .i64 (0:Nat)])∧GoR w0 w w' b o D vt vs (zca s m 0) x:=by
 have hB:Below w.heap.size w (w.alloc (.cells #[.int .i64 0,.int .i64 2,.int .i64 (M:Nat),.bool false,.int .i64 0,.int .u64 (0:Nat)] 142)):=zaa (Below.refl _ _) _;have HX:Hid (HAt (w.alloc (.cells #[.int .i64 0,.int .i64 2,.int .i64 (M:Nat),.bool false,.int .i64 0,.int .u64 (0:Nat)] 142)) w.heap.size 0 (.fin M 0 false)):=hid (zb8 hW rfl w 142);have HXX:=fun w1 (k:Below (w.alloc (.cells #[.int .i64 0,.int .i64 2,.int .i64 (M:Nat),.bool false,.int .i64 0,.int .u64 (0:Nat)] 142)).heap.size (w.alloc (.cells #[.int .i64 0,.int .i64 2,.int .i64 (M:Nat),.bool false,.int .i64 0,.int .u64 (0:Nat)] 142)) w1)=>(HX.out.keep (k.block w.heap.size (by simp)):HAt w1 w.heap.size 0 (.fin M 0 false))
 have HV:=hid (zbi HX.out);have HM:=hid (zbn HX.out);have HO:=hid (fun w1 k=>zfu (HXX w1 k));simp only[valH,majH,opnH] at HV HM HO;have hW1:Below w.heap.size w ((w.alloc (.cells #[.int .i64 0,.int .i64 2,.int .i64 (M:Nat),.bool false,.int .i64 0,.int .u64 (0:Nat)] 142)).alloc (.cells #[.bool m,.int .i64 0] 166)):=zaa (zaa (Below.refl _ _) _) _;have hW2:Below w.heap.size w (((w.alloc (.cells #[.int .i64 0,.int .i64 2,.int .i64 (M:Nat),.bool false,.int .i64 0,.int .u64 (0:Nat)] 142)).alloc (.cells #[.bool m,.int .i64 0] 166)).alloc (.cells #[.iface 166 (.agg #[.bool m,.int .i64 0]),.iface 169 (.agg #[])] 20)):=zaa hW1 _;have hc2:CP (((w.alloc (.cells #[.int .i64 0,.int .i64 2,.int .i64 (M:Nat),.bool false,.int .i64 0,.int .u64 (0:Nat)] 142)).alloc (.cells #[.bool m,.int .i64 0] 166)).alloc (.cells #[.iface 166 (.agg #[.bool m,.int .i64 0]),.iface 169 (.agg #[])] 20)) b o D 0 .new 0 false 0 vt [] st0 vs (incB s).length (outL (incB s)):=by
  rw[zbh,zlt];exact c.go hW2
 have hg:w.heap.size+2=((w.alloc (.cells #[.int .i64 0,.int .i64 2,.int .i64 (M:Nat),.bool false,.int .i64 0,.int .u64 (0:Nat)] 142)).alloc (.cells #[.bool m,.int .i64 0] 166)).heap.size:=by simp
 have hV:Vls w0 (((w.alloc (.cells #[.int .i64 0,.int .i64 2,.int .i64 (M:Nat),.bool false,.int .i64 0,.int .u64 (0:Nat)] 142)).alloc (.cells #[.bool m,.int .i64 0] 166)).alloc (.cells #[.iface 166 (.agg #[.bool m,.int .i64 0]),.iface 169 (.agg #[])] 20)) (.slice (some ⟨w.heap.size+2,0,none⟩) 2 2) [zb9 m 0,zbm] :=
  ⟨by
   have:=zz2 ((w.alloc (.cells #[.int .i64 0,.int .i64 2,.int .i64 (M:Nat),.bool false,.int .i64 0,.int .u64 (0:Nat)] 142)).alloc (.cells #[.bool m,.int .i64 0] 166)) (valE (zb9 m 0)) (valE zbm) 20 _ hg;rw[zfs,zmg] at this;simpa [zfs,zmg] using this,fun k hk=>by
   simp only[Value.owner,List.mem_singleton] at hk;have:=hl.size;omega⟩
 have HE:=hid (zlr (w0:=w0) hc2 hV (by simp) (Nat.le_trans hl.size hW2.size) hl.b hvt hl.vs (zj4 hk hm).1 (zj4 hk hm).2);have HF:=hid (And.intro hW2 c.lt);clear c hB hl hk hm hvt hW HX HXX hW1 hW2 hc2 hV hg;go_enter Tryz.func177,Tryz.ntmps177;(go_wp2_with fail);refine HV.out.mono ?_;rintro r w1 ⟨rfl,rfl⟩;(go_wp2_with fail);refine HM.out.mono ?_;rintro r w1 ⟨rfl,rfl⟩;(go_wp2_with fail);refine HV.out.mono ?_;rintro r w1 ⟨rfl,rfl⟩;(go_wp2_with fail);refine(HO.out _ (zaa (Below.refl _ _) _)).mono ?_;rintro r w1 ⟨rfl,rfl⟩;(go_wp2_with fail);refine HE.out.mono ?_;rintro r w' ⟨x,rfl,hR⟩;have HR:=hid hR;clear hR HE;go_wp2;go_ret2;refine⟨x,rfl,?_⟩;rw[ze3];exact zli HR.out (.inr rfl) rfl (fun k hk=>by
  simp only[Value.owner,List.mem_singleton] at hk;omega) (zae HF.out.1 HF.out.2 _ _ _)
end
end Go.Proofs.YtpaciekgbhoncaaGreat
