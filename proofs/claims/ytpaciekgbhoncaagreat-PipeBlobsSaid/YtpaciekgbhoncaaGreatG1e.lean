/-
  Parts: PipWf, CinPo, CinPp, CinPq, PinPi, PinPj, PinPk, PinPl.
-/
import Derived.Test.YtpaciekgbhoncaaGreatG1d
import Derived.Test.YtpaciekgbhoncaaGreatG1c
import Derived.Test.YtpaciekgbhoncaaGreatG0f
import Derived.Test.YtpaciekgbhoncaaGreatG0c
import Derived.Test.YtpaciekgbhoncaaGreatG1a
import Derived.Deep.RegionWith
set_option maxRecDepth 100000
set_option maxHeartbeats 16000000
open Go.Lib (hid)
namespace Go.Proofs.YtpaciekgbhoncaaGreat
section
open Go.Lib
def TolE (e:Ev):Prop:=mayE e∧EvOk e∧e.t.size≤200
theorem zh7 {e:Ev} (h:zfl e):TolE e:=⟨h.1,h.2.2.1,h.2.2.2⟩
def OkG:Gs→Prop
 | .bad=>True
 | .live _ H op=>(∀e∈H,TolE e)∧∀x∈op, -1≤x.c∧x.c≤9223372036854775807
def lenG:Gs→Nat
 | .bad=>0
 | .live _ H _=>H.length
def OkOG (lim:Nat):Option Gs→Prop
 | none=>True
 | some g=>WfG lim g∧OkG g
def zdp:Option Gs→Nat
 | none=>0
 | some g=>lenG g
theorem zail {x:Cn} (h: -1≤x.c∧x.c≤9223372036854775807) (hn:x.n≤9223372036854775807):TolE (cntE x):=by
 obtain⟨m,c,a,n⟩:=x;simp only at h hn;refine⟨⟨?_,?_,fun _=> ?_⟩,⟨?_,?_,?_,Nat.zero_le _⟩,Nat.zero_le _⟩
 ·cases m <;>simp[cntE]
 ·cases m <;>simp[cntE]
 ·simp only[cntE]
  split
  ·exact h.1
  ·split <;>omega
 ·cases m <;>simp[cntE]
 ·simp[cntE]
 ·simp only[cntE]
  split
  ·omega
  ·split <;>omega
theorem zrr {H:List Ev} {op:List Cn} (h:∀e∈H,TolE e) (ho:∀x∈op, -1≤x.c∧x.c≤9223372036854775807) (hn:∀x∈op,x.n≤9223372036854775807):∀e∈zim H op,TolE e:=by
  cases op with
  | nil=>exact h
  | cons x r =>
    intro e he;rcases List.mem_or_eq_of_mem_set he with he|rfl
    · exact h e he
    · exact zail (ho x (by simp)) (hn x (by simp))
theorem zxu {op:List Cn} (ho:∀x∈op, -1≤x.c∧x.c≤9223372036854775807):∀x∈incN op, -1≤x.c∧x.c≤9223372036854775807:=by
  cases op with
  | nil=>exact ho
  | cons y r =>
    intro x hx;rcases List.mem_cons.1 hx with rfl|hx
    · exact ho y (by simp)
    · exact ho x (by simp[hx])
theorem zaem {lim:Nat} (hlim:lim≤2000) {g:Gs} (hw:WfG lim g) (hg:OkG g) {e:Ev} (he:TolE e):OkG (zgh lim g e).s∧(∀x∈(zgh lim g e).l,TolE x)∧(zgh lim g e).l.length+lenG (zgh lim g e).s≤lenG g+1:=by
  cases g with
  | bad=>exact⟨trivial,by simp[zgh],by simp[zgh,lenG]⟩
  | live z H op =>
    obtain⟨w1,w2,w3,w4⟩:=hw;obtain⟨g1,g2⟩:=hg;have hn:∀x∈op,x.n≤9223372036854775807:=fun x hx=>by have:=(w4 x hx).2;omega
    simp only[zgh];split
    · exact⟨⟨g1,g2⟩,by simpa using he,by simp[lenG];omega⟩
    · split
      · refine⟨⟨by simp,by simp⟩,fun x hx=> ?_,by simp[lenG,gs0,zh8]⟩
        rcases List.mem_append.1 hx with hx|hx
        · exact zrr g1 g2 hn x hx
        · simp only[List.mem_singleton] at hx
          exact hx▸he
      · split
        · exact⟨trivial,by simp,by simp[lenG]⟩
        · refine⟨⟨fun x hx=> ?_,fun x hx=> ?_⟩,by simp,by simp[lenG,zdl]⟩
          · unfold zpl at hx
            rcases List.mem_append.1 hx with hx|hx
            · split at hx
              · exact zrr g1 g2 hn x hx
              · exact g1 x hx
            · simp only[List.mem_singleton] at hx
              exact hx▸he
          · unfold zox at hx
            split at hx
            · exact g2 x (List.mem_of_mem_tail hx)
            · split at hx
              · rename_i h56
                rcases List.mem_cons.1 hx with rfl|hx
                · exact⟨he.1.2.2 h56,he.2.1.2.2.1.2⟩
                · exact zxu g2 x hx
              · exact zxu g2 x hx
theorem znb {lim:Nat} (hlim:lim≤2000) {g:Option Gs} (h:OkOG lim g) {e:Ev} (he:TolE e):OkOG lim (zcm lim g e).1∧(∀x∈(zcm lim g e).2.1,TolE x)∧(zcm lim g e).2.1.length+zdp (zcm lim g e).1≤zdp g+1:=by
  cases g with
  | none=>exact⟨trivial,by simpa [zcm] using he,by simp[zcm,zdp]⟩
  | some g =>
    have:=zaem hlim h.1 h.2 he;exact⟨⟨zadd h.1 e,this.1⟩,this.2.1,this.2.2⟩
def dpW:Ws→Nat
 | .js _ q=>q.s.length
 | .cb q=>dpQ q.s
 | .pk q=>q.s.length
theorem zrd (q:Ws) (e:Ev):dpW (zbk q e).2≤dpW q+1:=by
 cases q with
 | js pr q=>exact zwb pr q e
 | cb q=>exact zacs q e
 | pk q=>exact zw4 q e
def PrW:Ws→Prop
 | .js pr _=>∀y m,(pr y m).length≤100
 | _=>True
theorem zl5 {q:Ws} (h:PrW q) (e:Ev):PrW (zbk q e).2:=by
 cases q with
 | js pr q=>exact h
 | cb q=>trivial
 | pk q=>trivial
theorem zg1:∀(l:List Ev) {q:Ws},PrW q→PrW (za6 q l).2
  | [],q,h=>h
  | e::l,q,h=>by
    simp only[za6];split
    · exact zl5 h e
    · exact zg1 l (zl5 h e)
theorem zh2 {q:Ws} (hq:PrW q) {e:Ev} (he:TolE e):(zbk q e).1.1.length≤100001:=by
 have h1:e.t.size≤1000:=Nat.le_trans he.2.2 (by decide);cases q with
 | js pr q=>exact zum hq q e he.1 he.2.1.2.1 h1
 | cb q=>exact Nat.le_trans (zu7 q e h1) (by decide)
 | pk q=>exact Nat.le_trans (zow q e h1) (by decide)
theorem zkz:∀(l:List Ev) (q:Ws),dpW (za6 q l).2≤dpW q+l.length
  | [],q=>Nat.le_refl _
  | e::l,q=>by
    have h1:=zrd q e;have h2:=zkz l (zbk q e).2;simp only[za6,List.length_cons];split
    · simp only;omega
    · simp only;omega
theorem zki:∀(l:List Ev) (q:Ws),PrW q→(∀e∈l,TolE e)→(za6 q l).1.1.length≤100001*l.length
  | [],q,_,_=>by simp[za6]
  | e::l,q,hq,h=>by
    have h1:=zh2 hq (h e (by simp));have h2:=zki l (zbk q e).2 (zl5 hq e) (fun x hx=>h x (by simp[hx]));simp only[za6,List.length_cons];split
    · simp
    · simp only[List.length_append];omega
theorem zk5 {lim:Nat} (hlim:lim≤2000) {g:Option Gs} (h:OkOG lim g) (q:Ws) {e:Ev} (he:TolE e):OkOG lim (zbu lim g q e).2.1∧zdp (zbu lim g q e).2.1+dpW (zbu lim g q e).2.2≤zdp g+dpW q+1∧(PrW q→(zbu lim g q e).1.1.length≤100001*(zdp g+1)∧PrW (zbu lim g q e).2.2):=by
 obtain⟨h1,h2,h3⟩:=znb hlim h he;have h4:=zkz (zcm lim g e).2.1 q;have h5:=fun hq=>zki (zcm lim g e).2.1 q hq h2
 unfold zbu;split
 ·refine⟨h1,?_,fun hq=>⟨by simp,hq⟩⟩
  simp only;omega
 ·refine⟨h1,?_,fun hq=>⟨?_,zg1 _ hq⟩⟩
  ·simp only
   omega
  ·have h6:=h5 hq
   simp only;have:100001*(zcm lim g e).2.1.length≤100001*(zdp g+1):=Nat.mul_le_mul_left _ (by omega);omega
theorem zql {lim:Nat} (hlim:lim≤2000):∀(L:List Ev) (g:Option Gs) (q:Ws) (told:Nat),OkOG lim g→(∀e∈L,TolE e)→OkOG lim (za3 lim g q L told).2.1∧zdp (za3 lim g q L told).2.1+dpW (za3 lim g q L told).2.2≤zdp g+dpW q+L.length
  | [],g,q,told,h,_=>⟨h,by simp[za3]⟩
  | e::L,g,q,told,h,hL=>by
    obtain⟨h1,h2,_⟩:=zk5 hlim h q (hL e (by simp));obtain⟨h3,h4⟩:=zql hlim L (zbu lim g q e).2.1 (zbu lim g q e).2.2 told h1 (fun x hx=>hL x (by simp[hx]));simp only[za3,List.length_cons];split
    · exact⟨h1,by omega⟩
    · exact⟨h3,by simp only;omega⟩
def WfPp (D lim M:Nat):Pp→Prop
 | .over _=>True
 | .live r g q=>WfRs D M r∧OkOG lim g∧zvj r+zdp g+dpW q≤2*M
theorem ziu {D lim M:Nat} (hD:D≤16) (hlim:lim≤2000) {s:Pp} (h:WfPp D lim M s) (b:UInt8):WfPp D lim (M+1) (zay D lim s b).1:=by
  cases s with
  | over e=>trivial
  | live r g q =>
    obtain⟨h1,h2,h3⟩:=h;obtain⟨r1,r2,r3⟩:=zh6 hD h1 b;obtain⟨t1,t2⟩:=zql hlim (zaf D r b).2 g q (zbz (zaf D r b).1) h2 (fun e he=>zh7 (r2 e he));simp only[zay];split
    · trivial
    · refine⟨r1,t1,?_⟩
      omega
theorem zy4 (D lim:Nat) (pr:Bool→Nat→List UInt8) (f t:Int):WfPp D lim 0 (pp0 pr f t):=by
 unfold pp0;refine⟨?_,?_,?_⟩
 ·unfold rs0
  split
  ·exact⟨trivial,fun h=>(by cases h),by simp,trivial⟩
  ·split
   ·exact⟨zaiy _ _,zaks D⟩
   ·exact zalf D
 ·split
  ·exact⟨zaj8 _,by simp[OkG,gs0]⟩
  ·trivial
 ·have h1:zvj (rs0 f)=0:=by
   unfold rs0
   repeat' split
   all_goals rfl
  have h2:zdp (if t=3 then some gs0 else none)=0:=by split <;>rfl
  have h3:dpW (ws0 pr t)=0:=by
   unfold ws0
   repeat' split
   all_goals rfl
  omega
theorem zrs {D lim:Nat} (hD:D≤16) (hlim:lim≤2000):∀(l:List UInt8) (s:Pp) (M:Nat),WfPp D lim M s→WfPp D lim (M+l.length) (zdz D lim s l).1
  | [],s,M,h=>h
  | b::l,s,M,h=>by
    have:=zrs hD hlim l (zay D lim s b).1 (M+1) (ziu hD hlim h b);simp only[zdz,List.length_cons]
    rwa [show M+(l.length+1)=M+1+l.length by omega]
end
section
open Go.RowKit
open Go.Lib
def zhh (w w':World) (b o D:Nat) (vt vs:Value) (q:Ci×List Ev) (r:Ending):Prop:=∃x,r= .returned (.tuple #[x,.int .i64 (zbs q.1:Nat)])∧GoR w w w' b o D vt vs q x
theorem zhs {w:World} {b:Nat} {vs:Value} (hb:b<w.heap.size) (hv:∀k∈Value.owner vs,k<w.heap.size):Low w w b vs:=⟨Nat.le_refl _,hb,hv⟩
theorem zrx {w:World} {b o D:Nat} {h:Hd} {vt:Value} {vs:Value} {s:List Bx} (c:CP w b o D 0 h 0 false 0 vt [] st0 vs s.length (inL s)) (hn:h= .new∨∃m n v,h= .mid m n v) (hk:OkS s) (hm:∀x∈s,x.have_+1≤2000000000) (hdD:s.length≤D) (hD:D≤16) (y:UInt8) :
    Calls Tryz.prog 158 #[.pointer (some ⟨b,o,none⟩),.int .u8 (y.toNat:Int)] w fun r w'=>zhh w w' b o D vt vs (hed0 D s h y.toNat) r:=by
  have hy:=y.toNat_lt;have hwf:=zcv h y.toNat hy c.hd.1;have hlow:Low w w b vs:=zhs c.lt c.op.win.lt;unfold zhh hed0;cases hh:zah h y.toNat with
  | bad e =>
    rw[hh] at hwf;have he:e≠0:=by rcases hwf with rfl|rfl <;>decide
    exact zaga c y hk.deep hh he
  | new=>exact absurd hh (zb2 hn)
  | mid m n v =>
    simp only;by_cases hr:refE D 0 0 s (.mid m n v) (y.toNat%32)=0
    · rw[hr,zjr]
      refine(zaf1 c y hk.deep hh hr).mono ?_;rintro r w' ⟨rfl,I⟩;exact⟨_,rfl,Vls.nil_ _ _,⟨vt,vs,I.cp,fun k hk=> .inl hk⟩,I.sub⟩
    · have hs:∀X,sel (refE D 0 0 s (.mid m n v) (y.toNat%32)) X=(.bad (refE D 0 0 s (.mid m n v) (y.toNat%32)),[]):=fun X=>if_pos hr
      rw[hs];exact zkv c y hk.deep hh rfl hr
  | fin m v q =>
    simp only;by_cases hr:refE D 0 0 s (.fin m v q) (y.toNat%32)=0
    · rw [hr,zjr]
      rw [hh] at hwf;have hq:q=true→v=0:=by
        intro hq;subst hq;rcases hn with rfl|⟨a,n,v',rfl⟩
        · simp only[zah] at hh
          repeat' split at hh
          all_goals first |(cases hh;done)|(cases hh;rfl)
        · simp only[zah] at hh
          split at hh <;>cases hh
      have h0:zhm D s (.fin m v q) (y.toNat%32)=0∨(m=7∧q=true∧mayB s=true):=by
        unfold refE at hr;rw[if_neg (by decide)] at hr;by_cases hbk:brkH (.fin m v q)=true
        · rw[if_pos hbk] at hr
          rw[zeh,Bool.and_eq_true,decide_eq_true_eq] at hbk;refine .inr ⟨hbk.1,hbk.2,?_⟩;by_cases hmb:mayB s=true
          · exact hmb
          · rw[if_neg hmb] at hr;cases hr
        · rw[if_neg hbk] at hr
          exact .inl hr
      have hitem:zhm D s (.fin m v q) (y.toNat%32)=0→m≠6∧((m=4∨m=5)→s.length≠D):=by
        intro h;unfold zhm at h;by_cases a1:opnH (.fin m v q)=true∧¬(2≤majH (.fin m v q)∧majH (.fin m v q)≤5)
        · rw[if_pos a1] at h;cases h
        rw[if_neg a1] at h;by_cases a2:keyB s=true∧majH (.fin m v q)≠3
        · rw[if_pos a2] at h;cases h
        rw[if_neg a2] at h;by_cases a3:majH (.fin m v q)=6
        · rw[if_pos a3] at h;cases h
        rw[if_neg a3] at h;have h6:m≠6:=a3;by_cases a4:majH (.fin m v q)=7
        · have h7:m=7:=a4
          exact⟨h6,fun h45=>by omega⟩
        rw[if_neg a4] at h;by_cases a5:(majH (.fin m v q)=4∨majH (.fin m v q)=5)∧s.length=D
        · rw[if_pos a5] at h;cases h
        exact⟨h6,fun h45 h10=>a5 ⟨h45,h10⟩⟩
      refine zaiv (w0:=w) c y hk.deep rfl hh hr (R:=begC s m v q) (fun w2 I=> ?_);refine zaa7 I.cp (hlow.of I.sub.size rfl) c.wt.lt hk hm hwf hq ?_ ?_ ?_
      · rcases h0 with h0|⟨h7,_⟩
        · exact(hitem h0).1
        · omega
      · intro h45
        rcases h0 with h0|⟨h7,_⟩
        · have:=(hitem h0).2 h45
          omega
        · omega
      · intro h7 hqt hnil
        rcases h0 with h0|⟨_,_,hmb⟩
        · unfold zhm at h0
          rw[if_pos] at h0
          · cases h0
          · subst h7
            exact⟨hqt,by simp[majH]⟩
        · rw[hnil] at hmb
          cases hmb
    · have hs:∀X,sel (refE D 0 0 s (.fin m v q) (y.toNat%32)) X=(.bad (refE D 0 0 s (.fin m v q) (y.toNat%32)),[]):=fun X=>if_pos hr
      rw[hs];exact zkd c y hk.deep hh rfl hr
theorem zq9 {w:World} {b o D:Nat} {h:Hd} {m:Bool} {vt:Value} {t:List UInt8} {vs:Value} {s:List Bx} (c:CP w b o D 1 h (mjT m) true 0 vt t st0 vs s.length (inL s)) (hn:h= .new∨∃m n v,h= .mid m n v) (ht:t.length≤200) (hk:OkS s) (hm:∀x∈s,x.have_+1≤2000000000) (y:UInt8) :
    Calls Tryz.prog 158 #[.pointer (some ⟨b,o,none⟩),.int .u8 (y.toNat:Int)] w fun r w'=>zhh w w' b o D vt vs (hed1 s m t h y.toNat) r:=by
  have hy:=y.toNat_lt;have hwf:=zcv h y.toNat hy c.hd.1;have hlow:Low w w b vs:=zhs c.lt c.op.win.lt;have hre:∀g l,refE D 1 (mjT m) s g l=chE (mjT m) g:=fun g l=>if_pos rfl
  unfold zhh hed1;cases hh:zah h y.toNat with
  | bad e =>
    rw[hh] at hwf;have he:e≠0:=by rcases hwf with rfl|rfl <;>decide
    exact zaga c y hk.deep hh he
  | new=>exact absurd hh (zb2 hn)
  | mid a n v =>
    simp only;by_cases hr:chE (mjT m) (.mid a n v)=0
    · rw[hr,zjr]
      refine(zaf1 c y hk.deep hh ((hre _ _).trans hr)).mono ?_;rintro r w' ⟨rfl,I⟩;exact⟨_,rfl,Vls.nil_ _ _,⟨vt,vs,I.cp,fun k hk=> .inl hk⟩,I.sub⟩
    · have hs:∀X,sel (chE (mjT m) (.mid a n v)) X=(.bad (chE (mjT m) (.mid a n v)),[]):=fun X=>if_pos hr
      rw[hs];exact zkv c y hk.deep hh (hre _ _) hr
  | fin a v q =>
    simp only;by_cases hr:chE (mjT m) (.fin a v q)=0
    · rw[hr,zjr]
      rw[hh] at hwf;refine zah2 (w0:=w) c y hk.deep rfl hh ((hre _ _).trans hr) (R:=zje s m t (.fin a v q)) (fun w2 I=> ?_);exact zaeo I.cp ht (hlow.of I.sub.size rfl) hk hm hwf
    · have hs:∀X,sel (chE (mjT m) (.fin a v q)) X=(.bad (chE (mjT m) (.fin a v q)),[]):=fun X=>if_pos hr
      rw[hs];exact zkd c y hk.deep hh (hre _ _) hr
theorem zaa5 {w:World} {b o D:Nat} {h:Hd} {mj:Nat} {ch:Bool} {lk:Nat} {vt:Value} {t:List UInt8} {u:Option (Nat×Nat×Nat)} {vs:Value} {n:Nat} {xs:List Value} (c:CP w b o D 3 h mj ch lk vt t u vs n xs) (y:UInt8) :
  Calls Tryz.prog 156 #[.pointer (some ⟨b,o,none⟩),.int .u8 (y.toNat:Int)] w fun r w'=>zhh w w' b o D vt vs (.bad 2,[]) r:=by
 have c2:=c.cells.1.2.2.1;have HG:Hid (GoR w w w b o D vt vs (.bad 2,[]) (.slice none 0 0)):=hid ⟨Vls.nil_ _ _,⟨vt,vs,⟨by decide,c.room,c.cells.1.2.1.1⟩,fun k hk=> .inl hk⟩,Subg.refl _ _ _ _ _⟩;clear c;go_enter Tryz.func156,Tryz.ntmps156;go_wp2;go_ret2;exact⟨_,rfl,HG.out⟩
theorem zj6 {w:World} {b o D:Nat} {vt vs:Value} {q:Ci×List Ev} (hc:w.cell? ⟨b,o+2,none⟩=some (.int .i64 (2:Nat))) {y:UInt8}
  (H:Calls Tryz.prog 157 #[.pointer (some ⟨b,o,none⟩),.int .u8 (y.toNat:Int)] w fun r w'=>zhh w w' b o D vt vs q r) :
  Calls Tryz.prog 156 #[.pointer (some ⟨b,o,none⟩),.int .u8 (y.toNat:Int)] w fun r w'=>zhh w w' b o D vt vs q r:=by
 have HH:=hid H;clear H;go_enter Tryz.func156,Tryz.ntmps156;(go_wp2_with fail);refine HH.out.mono ?_;rintro r w' ⟨x,rfl,hq⟩;have HQ:=hid hq;clear hq;go_wp2;go_ret2;exact⟨x,rfl,HQ.out⟩
theorem ze8 {w:World} {b o D pl:Nat} {vt vs:Value} {q:Ci×List Ev} (hp:pl=0∨pl=1) (hc:w.cell? ⟨b,o+2,none⟩=some (.int .i64 (pl:Nat))) {y:UInt8}
  (H:Calls Tryz.prog 158 #[.pointer (some ⟨b,o,none⟩),.int .u8 (y.toNat:Int)] w fun r w'=>zhh w w' b o D vt vs q r) :
  Calls Tryz.prog 156 #[.pointer (some ⟨b,o,none⟩),.int .u8 (y.toNat:Int)] w fun r w'=>zhh w w' b o D vt vs q r:=by
 have HH:=hid H;clear H;rcases hp with rfl|rfl
 all_goals
  go_enter Tryz.func156,Tryz.ntmps156;(go_wp2_with fail);refine HH.out.mono ?_;rintro r w' ⟨x,rfl,hq⟩;have HQ:=hid hq;clear hq;go_wp2;go_ret2;exact⟨x,rfl,HQ.out⟩
theorem zae2 {w:World} {b o D M:Nat} {s:Ci} {vt vs:Value} (hD:D≤16) (hs:StC w b o D s vt vs) (hw:WfK D M s) (hM:M+1≤2000000000) (hb:∀e,s≠ .bad e) (y:UInt8) :
    Calls Tryz.prog 156 #[.pointer (some ⟨b,o,none⟩),.int .u8 (y.toNat:Int)] w fun r w'=>zhh w w' b o D vt vs (za7 D s y) r:=by
  cases s with
  | bad e=>exact absurd rfl (hb e)
  | item s dn =>
    obtain⟨hp,hd,_⟩:=hw;cases dn with
    | true =>
      have:za7 D (.item s true) y=(.bad 2,[]):=by
        simp only[za7,zi6];simp
      rw[this];exact zaa5 hs y
    | false =>
      have c:CP w b o D 0 .new 0 false 0 vt [] st0 vs s.length (inL s):=hs;rw[show za7 D (.item s false) y=hed0 D s .new y.toNat from zabq D s hd y.toNat y.toNat_lt];exact ze8 (.inl rfl) c.cells.1.2.2.1 (zrx c (.inl rfl) (hp.ok hM).1 (hp.ok hM).2 hd hD y)
  | head s h =>
    obtain⟨⟨hp,hd⟩,h1,h2,h3,m,n,v,rfl⟩:=hw;have c:CP w b o D 0 (.mid m n v) 0 false 0 vt [] st0 vs s.length (inL s):=hs;rw[show za7 D (.head s (.mid m n v)) y=hed0 D s (.mid m n v) y.toNat from zah4 D s h3 h1 h2 y.toNat];exact ze8 (.inl rfl) c.cells.1.2.2.1 (zrx c (.inr ⟨_,_,_,rfl⟩) (hp.ok hM).1 (hp.ok hM).2 hd hD y)
  | text s m n t u =>
    obtain⟨⟨hp,hd⟩,hn,ht,hu⟩:=hw;obtain⟨n',rfl⟩:∃n',n=n'+1:=⟨n-1,by omega⟩
    have c:CP w b o D 2 .new (mjT m) false (n'+1) vt t u vs s.length (inL s):=hs;rw[zxb];exact zj6 c.cells.1.2.2.1 (zf1 c hu ht (zhs c.lt c.op.win.lt) (hp.ok hM).1 (hp.ok hM).2 y)
  | open_ s m t =>
    obtain⟨⟨hp,hd⟩,ht⟩:=hw;have c:CP w b o D 1 .new (mjT m) true 0 vt t st0 vs s.length (inL s):=hs;rw[zagi];exact ze8 (.inr rfl) c.cells.1.2.2.1 (zq9 c (.inl rfl) ht (hp.ok hM).1 (hp.ok hM).2 y)
  | chead s m t h =>
    obtain⟨⟨hp,hd⟩,ht,n,v,rfl⟩:=hw;have c:CP w b o D 1 (.mid (mjT m) n v) (mjT m) true 0 vt t st0 vs s.length (inL s):=hs;rw[zafo];exact ze8 (.inr rfl) c.cells.1.2.2.1 (zq9 c (.inr ⟨_,_,_,rfl⟩) ht (hp.ok hM).1 (hp.ok hM).2 y)
  | ctext s m t n u =>
    obtain⟨⟨hp,hd⟩,hn,ht,hu⟩:=hw;obtain⟨n',rfl⟩:∃n',n=n'+1:=⟨n-1,by omega⟩
    have c:CP w b o D 2 .new (mjT m) true (n'+1) vt t u vs s.length (inL s):=hs;rw[zr5];exact zj6 c.cells.1.2.2.1 (zf1 c hu ht (zhs c.lt c.op.win.lt) (hp.ok hM).1 (hp.ok hM).2 y)
end
section
open Go.RowKit
open Go.Lib
def paC (e D:Nat):List Value:=[.int .i64 (e:Int),.int .i64 (D:Int),.int .i64 0,.int .i64 0,.int .i64 0,.int .i64 0,.bool false,.int .i64 0,.int .u64 0,.int .i64 0,.bool false,.int .i64 0,.slice none 0 0,.int .i64 0,.int .u8 0,.int .u8 0,.bool false,.slice none 0 0]
theorem zaiq (e D:Nat):(paC e D).toArray.all (·.oneCell')=true:=by simp[paC,Value.oneCell']
def StP (w:World) (b o D:Nat) (s:Ci) (vt vs:Value):Prop :=
 match s with
 | .bad e=>e≠0∧At w b o (paC e D)∧vt= .slice none 0 0∧vs= .slice none 0 0
 | .item s dn=>StC w b o D (.item s dn) vt vs
 | .head s h=>StC w b o D (.head s h) vt vs
 | .text s m n t u=>StC w b o D (.text s m n t u) vt vs
 | .open_ s m t=>StC w b o D (.open_ s m t) vt vs
 | .chead s m t h=>StC w b o D (.chead s m t h) vt vs
 | .ctext s m t n u=>StC w b o D (.ctext s m t n u) vt vs
theorem StP.of {w:World} {b o D:Nat} {s:Ci} {vt vs:Value} (h:StC w b o D s vt vs) (hb:∀e,s≠ .bad e):StP w b o D s vt vs:=by
 cases s with
 | bad e=>exact absurd rfl (hb e)
 | _=>exact h
theorem StP.st {w:World} {b o D:Nat} {s:Ci} {vt vs:Value} (h:StP w b o D s vt vs) (hb:∀e,s≠ .bad e):StC w b o D s vt vs:=by
 cases s with
 | bad e=>exact absurd rfl (hb e)
 | _=>exact h
theorem StC.cp {w:World} {b o D:Nat} {s:Ci} {vt vs:Value} (h:StC w b o D s vt vs) (hb:∀e,s≠ .bad e) (hdn:∀s',s= .item s' true→s'=[]):∃pl hh mj ch lk t u,CP w b o D pl hh mj ch lk vt t u vs (stkK s).length (inL (stkK s))∧zkt s=t.length+(stkK s).length∧(pl=3↔zci s=true):=by
  cases s with
  | bad e=>exact absurd rfl (hb e)
  | item s dn =>
    cases dn with
    | false=>exact⟨_,_,_,_,_,_,_,h,by simp[zkt,stkK],by simp[zci]⟩
    | true =>
      obtain rfl:=hdn s rfl;exact⟨_,_,_,_,_,_,_,h,by simp[zkt,stkK],by simp[zci]⟩
  | head s g=>exact⟨_,_,_,_,_,_,_,h,by simp[zkt,stkK],by simp[zci]⟩
  | text s m n t u=>exact⟨_,_,_,_,_,_,_,h,rfl,by simp[zci]⟩
  | open_ s m t=>exact⟨_,_,_,_,_,_,_,h,rfl,by simp[zci]⟩
  | chead s m t g=>exact⟨_,_,_,_,_,_,_,h,rfl,by simp[zci]⟩
  | ctext s m t n u=>exact⟨_,_,_,_,_,_,_,h,rfl,by simp[zci]⟩
theorem WfK.dn {D M:Nat} {s:Ci} (h:WfK D M s):∀s',s= .item s' true→s'=[]:=by
 rintro s' rfl;exact h.2.2 rfl
theorem StP.lt {w:World} {b o D:Nat} {s:Ci} {vt vs:Value} (h:StP w b o D s vt vs):b<w.heap.size:=by
 cases s with
 | bad e=>exact h.2.1.lt (by simp[paC])
 | _=>exact CP.lt h
theorem StP.err {w:World} {b o D:Nat} {s:Ci} {vt vs:Value} (h:StP w b o D s vt vs):w.cell? ⟨b,o,none⟩=some (.int .i64 (zbs s:Nat))∧w.cell? ⟨b,o+1,none⟩=some (.int .i64 (D:Nat)):=by
 cases s with
 | bad e=>exact⟨(h.2.1 0 _ rfl).1,(h.2.1 1 _ rfl).1⟩
 | _=>exact⟨(CP.cells h).1.1.1,(CP.cells h).1.2.1.1⟩
theorem zaj9 {w:World} {b o D:Nat} (h:At w b o (paC 0 D)):CP w b o D 0 .new 0 false 0 (.slice none 0 0) [] st0 (.slice none 0 0) 0 []:=by
 have e1:=h.right (vs:=[.int .i64 ((0:Nat):Int),.int .i64 (D:Int),.int .i64 0]) (us:=_);have e2:=e1.right (vs:=hd6 0 0 0 false 0 0) (us:=_);have e3:=e2.right (vs:=[.int .i64 0,.bool false,.int .i64 0,.slice none 0 0]) (us:=_);have e4:=e3.right (vs:=za9 0 0 0 false) (us:=_);exact⟨h.left (vs:=[.int .i64 ((0:Nat):Int),.int .i64 (D:Int),.int .i64 0]),⟨trivial,e1.left (vs:=hd6 0 0 0 false 0 0)⟩,e2.left (vs:=[.int .i64 0,.bool false,.int .i64 0,.slice none 0 0]),zeb (e3.left (vs:=za9 0 0 0 false)),⟨e4,Win.nil_ _ _ _,by simp[Value.owner]⟩,Win.nil_ _ _ _,by simp[Value.owner]⟩
theorem zaf8 {w:World} {b o D e:Nat} (hD:1≤D) (c0:w.cell? ⟨b,o,none⟩=some (.int .i64 (e:Nat))) (c1:w.cell? ⟨b,o+1,none⟩=some (.int .i64 (D:Nat))) :
  Calls Tryz.prog 155 #[.pointer (some ⟨b,o,none⟩)] w fun r w'=>r= .returned (.int .i64 (e:Nat))∧w=w':=by
 have hz:((D:Int)==0)=false:=by rw[beq_eq_false_iff_ne];omega
 clear hD;go_enter Tryz.func155,Tryz.ntmps155;go_wp2;go_ret;exact⟨rfl,rfl⟩
theorem znu {w:World} {b o pl:Nat} (c2:w.cell? ⟨b,o+2,none⟩=some (.int .i64 (pl:Nat))) :
  Calls Tryz.prog 151 #[.pointer (some ⟨b,o,none⟩)] w fun r w'=>r= .returned (.bool (decide (pl=3)))∧w=w':=by
 have hz:((pl:Int)==3)=decide (pl=3):=by rw[Bool.eq_iff_iff,beq_iff_eq,decide_eq_true_eq];omega
 generalize decide (pl=3)=B at *
 go_enter Tryz.func151,Tryz.ntmps151;go_wp2;go_ret;exact⟨rfl,rfl⟩
theorem zagu {w:World} {b o D M:Nat} {s:Ci} {vt vs:Value} (h:StP w b o D s vt vs) (hw:WfK D M s) :
  Calls Tryz.prog 151 #[.pointer (some ⟨b,o,none⟩)] w fun r w'=>r= .returned (.bool (zci s))∧w=w':=by
 by_cases hb:∃e,s= .bad e
 ·obtain⟨e,rfl⟩:=hb
  exact znu (pl:=0) (h.2.1 2 _ rfl).1
 ·have hb:∀e,s≠ .bad e:=fun e he=>hb ⟨e,he⟩
  obtain⟨pl,_,_,_,_,_,_,c,_,hd⟩:=(h.st hb).cp hb hw.dn;have:=znu c.cells.1.2.2.1;have e:decide (pl=3)=zci s:=by rw[Bool.eq_iff_iff,decide_eq_true_eq];exact hd
  rwa [e] at this
theorem zahq {w:World} {b o D M:Nat} {s:Ci} {vt vs:Value} (hD:1≤D) (h:StP w b o D s vt vs) (hw:WfK D M s) :
    Calls Tryz.prog 152 #[.pointer (some ⟨b,o,none⟩)] w fun r w'=>r= .returned (.int .i64 (zl8 s:Nat))∧w=w':=by
  have HH:=hid (zaf8 hD h.err.1 h.err.2);have HD:=hid (zagu h hw);have he:∀e,s= .bad e→e≠0:=fun e h=>by subst h;exact hw
  have hdn:=hw.dn;by_cases hb:∃e,s= .bad e
  · obtain⟨e,rfl⟩:=hb
    have hz:((e:Int) !=0)=true:=by have:=he e rfl;rw[bne_iff_ne];omega
    simp only[zbs,zl8] at HH ⊢;clear h he hw hdn;go_enter Tryz.func152,Tryz.ntmps152;(go_wp2_with fail);refine HH.out.mono ?_;rintro r w1 ⟨rfl,rfl⟩;go_wp2;go_ret;exact⟨rfl,rfl⟩
  · have hb:∀e,s≠ .bad e:=fun e he=>hb ⟨e,he⟩
    have e0:zbs s=0:=by cases s <;>first | rfl|exact absurd rfl (hb _)
    have e1:zl8 s=if zci s=true then 0 else 3:=by
      cases s with
      | bad e=>exact absurd rfl (hb e)
      | item s dn =>
        cases dn with
        | false =>
          simp[zl8,zci]
        | true =>
          obtain rfl:=hdn s rfl;rfl
      | _=>rfl
    rw[e0] at HH;rw[e1];generalize zci s=B at *
    clear h he hw hdn;cases B with
    | true =>
      go_enter Tryz.func152,Tryz.ntmps152;(go_wp2_with fail);refine HH.out.mono ?_;rintro r w1 ⟨rfl,rfl⟩;(go_wp2_with fail);refine HD.out.mono ?_;rintro r w1 ⟨rfl,rfl⟩;go_wp2;go_ret;exact⟨rfl,rfl⟩
    | false =>
      go_enter Tryz.func152,Tryz.ntmps152;(go_wp2_with fail);refine HH.out.mono ?_;rintro r w1 ⟨rfl,rfl⟩;(go_wp2_with fail);refine HD.out.mono ?_;rintro r w1 ⟨rfl,rfl⟩;go_wp2;go_ret;exact⟨rfl,rfl⟩
end
section
open Go.RowKit
open Go.Lib
def zaht (w w':World) (b o D:Nat) (vt vs:Value) (q:Ci×List Ev) (r:Ending):Prop :=
 (∃u,r= .returned (.tuple #[u,.int .i64 (zbs q.1:Nat)])∧Vls w w' u q.2)∧(∃vt' vs',StP w' b o D q.1 vt' vs'∧∀k∈Value.owner vt'++Value.owner vs',k∈Value.owner vt++Value.owner vs∨w.heap.size≤k)∧Subg (Value.owner vt++Value.owner vs) b o 18 w w'
theorem zaer {w:World} {b o D M:Nat} {s:Ci} {vt vs:Value} (hD:1≤D∧D≤16) (h:StP w b o D s vt vs) (hw:WfK D M s) (hM:M+1≤2000000000) (y:UInt8) :
    Calls Tryz.prog 154 #[.pointer (some ⟨b,o,none⟩),.int .u8 (y.toNat:Int)] w fun r w'=>zaht w w' b o D vt vs (za7 D s y) r:=by
  have HH:=hid (zaf8 hD.1 h.err.1 h.err.2);by_cases hb:∃e,s= .bad e
  · obtain⟨e,rfl⟩:=hb
    have hz:((e:Int) !=0)=true:=by have:e≠0:=hw;rw[bne_iff_ne];omega
    have HK:Hid (zaht w w b o D vt vs (za7 D (.bad e) y) (.returned (.tuple #[.slice none 0 0,.int .i64 (e:Nat)]))):=hid ⟨⟨_,rfl,Vls.nil_ _ _⟩,⟨vt,vs,h,fun k hk=> .inl hk⟩,Subg.refl _ _ _ _ _⟩;simp only[zbs] at HH;clear h hw hD hM;go_enter Tryz.func154,Tryz.ntmps154;(go_wp2_with fail);refine HH.out.mono ?_;rintro r w1 ⟨rfl,rfl⟩;go_wp2;go_ret2;exact HK.out
  · have hb:∀e,s≠ .bad e:=fun e he=>hb ⟨e,he⟩
    have e0:zbs s=0:=by cases s <;>first | rfl|exact absurd rfl (hb _)
    have hT:=zae2 (y:=y) hD.2 (h.st hb) hw hM hb;have HL:=hid h.lt;rw[e0] at HH;generalize za7 D s y=R at *
    have HT:=hid hT;clear hT h hw hM hb e0 hD;by_cases he:zbs R.1=0
    · have HE:=hid he
      have HF:Hid (∀(w':World) (x:Value),GoR w w w' b o D vt vs R x→zaht w w' b o D vt vs R (.returned (.tuple #[x,.int .i64 (zbs R.1:Nat)]))):=hid (fun w' x hg=>by
        obtain⟨vt',vs',hst,ho⟩:=hg.st;have hnb:∀e,R.1≠ .bad e:=fun e h=>by
          rw[h] at hst he;exact hst.1 he
        exact⟨⟨x,rfl,hg.vls⟩,⟨vt',vs',StP.of hst hnb,ho⟩,hg.sub⟩)
      unfold zhh at HT;rw[he] at HT HF;go_enter Tryz.func154,Tryz.ntmps154;(go_wp2_with fail);refine HH.out.mono ?_;rintro r w1 ⟨rfl,rfl⟩;(go_wp2_with fail);refine HT.out.mono ?_;rintro r w1 ⟨x,rfl,hg⟩;have HG:=hid hg;clear hg;go_wp2;go_ret2;exact HF.out _ _ HG.out
    · obtain⟨e,hR,hne⟩:=zv6 he
      obtain⟨R1,R2⟩:=R;simp only at hR;subst hR;have hz:((e:Int) !=0)=true:=by rw[bne_iff_ne];omega
      unfold zhh at HT;simp only[zbs] at HT;have HN:=hid hne;clear he hne;go_enter Tryz.func154,Tryz.ntmps154;(go_wp2_with fail);refine HH.out.mono ?_;rintro r w1 ⟨rfl,rfl⟩;(go_wp2_with fail);refine HT.out.mono ?_;rintro r w1 ⟨x,rfl,hg⟩;have HG:=hid hg;obtain⟨vt',vs',⟨_,hroom,c1⟩,_⟩:=hg.st;have HR:=hid hroom;clear hg hroom
      go_wp2_with (refine zas rfl 148 _ _ rfl b o (paC e D) rfl rfl HR.out (by kernel_rfl) (zaiq _ _) ?_)
      intro w2 h2;have HA:=hid h2.out.1;have HS2:=hid h2.out.2;clear h2;go_wp2;go_ret2;refine⟨⟨x,rfl,HG.out.vls.sub HS2.out HL.out⟩,⟨.slice none 0 0,.slice none 0 0,⟨HN.out,HA.out,rfl,rfl⟩,fun k hk=>by simp[Value.owner] at hk⟩,HG.out.sub.tr (HS2.out.subg _)⟩
theorem zac2 (D:Nat) (hD:1≤D∧D≤16) (w:World) :
  Calls Tryz.prog 53 #[.int .i64 D] w fun r w'=>r= .returned (.pointer (some ⟨w.heap.size,0,none⟩))∧StP w' w.heap.size 0 D ci0 (.slice none 0 0) (.slice none 0 0)∧Below w.heap.size w w':=by
 have h1:((D:Int)<1)=False:=by simp;omega
 have h2:((16:Int)<(D:Int))=False:=by simp;omega
 have HP:Hid (StP (w.alloc (.cells (paC 0 D).toArray 148)) w.heap.size 0 D ci0 (.slice none 0 0) (.slice none 0 0)):=hid (zaj9 (zmj (heap_alloc_new w _)));clear hD;go_enter Tryz.func53,Tryz.ntmps53;go_wp2;go_ret;exact⟨rfl,HP.out,zaa (Below.refl _ _) _⟩
end
section
open Go.RowKit
open Go.Lib
structure FbI (w w2:World) (b o D:Nat) (kd nm fm:Nat) (h:Hd) (vt vs:Value) (s:List Bx) (g K N F:Nat):Prop where
 cp:PP w2 b o D 0 kd nm fm h 0 0 vt [] st0 vs s.length (inP s)
 below:Below w.heap.size w w2
 blk:Blk w2 g #[.int .i64 (K:Nat),.int .u64 (N:Nat),.int .u8 (F:Nat)] 150
 new:w.heap.size≤g
 lt:b<w.heap.size
theorem FbI.of {w w1 w2:World} {b o D kd nm fm:Nat} {h:Hd} {vt vs:Value} {s:List Bx} {K N F:Nat} (c:PP w b o D 0 kd nm fm h 0 0 vt [] st0 vs s.length (inP s)) (b1:Below w.heap.size w w1)
  (b2:Below (w1.alloc (.cells #[.int .i64 (K:Nat),.int .u64 (N:Nat),.int .u8 (F:Nat)] 150)).heap.size (w1.alloc (.cells #[.int .i64 (K:Nat),.int .u64 (N:Nat),.int .u8 (F:Nat)] 150)) w2):FbI w w2 b o D kd nm fm h vt vs s w1.heap.size K N F :=
 ⟨c.go (zab (zaa b1 _) b2),zab (zaa b1 _) b2,(zag w1 _ _).go b2,b1.size,c.lt⟩
theorem zsu {w0 w:World} {b o D kd nm fm:Nat} {h:Hd} {vt vs:Value} {s:List Bx} (c:PP w b o D 0 kd nm fm h 0 0 vt [] st0 vs s.length (inP s)) (hk:OkP s) (y:UInt8) (he:refP D s (itK y.toNat)≠0) :
  Calls Tryz.prog 200 #[.pointer (some ⟨b,o,none⟩),.int .u8 (y.toNat:Int)] w fun r w' =>
   ∃x,r= .returned (.tuple #[x,.int .i64 (refP D s (itK y.toNat):Nat)])∧GoM w0 w w' b o D vt vs (.c (.bad (refP D s (itK y.toNat))),[]) x:=by
 have HI:=hid (zpj y.toNat y.toNat_lt w);unfold itV at HI;have hK:=zagr y.toNat y.toNat_lt;obtain⟨X,hX⟩:∃X,(y.toNat:Int)=X:=⟨_,rfl⟩
 rw[hX] at HI ⊢;generalize itK y.toNat=K at *
 generalize itN y.toNat=N at *
 generalize itF y.toNat=F at *
 have HR:=hid (fun w1 (k:Below w.heap.size w w1)=>zey (c.go (zaa k (.cells #[.int .i64 (K:Nat),.int .u64 (N:Nat),.int .u8 (F:Nat)] 150))) hk K hK);have HC:=hid c;have ze:((refP D s K:Int) !=0)=true:=by rw[bne_iff_ne];omega
 have HE:=hid he;generalize refP D s K=E at *
 clear c hk he hX hK;go_enter Tryz.func200,Tryz.ntmps200;(go_wp2_with fail);refine HI.out.mono ?_;rintro r w1 ⟨rfl,b1⟩;have HR1:=hid (HR.out w1 b1);have B1:=hid b1;clear b1 HR HI;(go_wp2_with fail);refine HR1.out.mono ?_;rintro r w2 ⟨rfl,b2⟩;have HF:=hid (FbI.of HC.out B1.out b2);clear b2 HR1 B1;go_wp2;go_ret2;exact⟨_,rfl,⟨Vls.nil_ _ _,⟨vt,vs,⟨HE.out,HF.out.cp.room,HF.out.cp.cells.1.2.1.1⟩,fun k hk=> .inl hk⟩,zae HF.out.below HF.out.lt _ _ _⟩⟩
theorem zur {w0 w:World} {b o D kd nm fm:Nat} {h:Hd} {vt vs:Value} {s:List Bx} (c:PP w b o D 0 kd nm fm h 0 0 vt [] st0 vs s.length (inP s)) (hl:Low w0 w b vs) (hvt:∀k∈Value.owner vt,k<w0.heap.size) (hk:OkP s) (hd:s.length≤D) (hD:D≤16) (y:UInt8) (he:refP D s (itK y.toNat)=0) (hf:itF y.toNat=0) :
  Calls Tryz.prog 200 #[.pointer (some ⟨b,o,none⟩),.int .u8 (y.toNat:Int)] w fun r w' =>
   ∃x,r= .returned (.tuple #[x,.int .i64 (zcw (begP s (itK y.toNat) (itN y.toNat) 0).1:Nat)])∧GoM w0 w w' b o D vt vs (begP s (itK y.toNat) (itN y.toNat) 0) x:=by
 have HI:=hid (zpj y.toNat y.toNat_lt w);unfold itV at HI;rw[hf] at HI;have hK:=zagr y.toNat y.toNat_lt;obtain⟨r0,r5,r6,rc⟩:=zw0 he hd;have h3:itK y.toNat≠3:=fun h=>it_3 _ y.toNat_lt h hf
 obtain⟨X,hX⟩:∃X,(y.toNat:Int)=X:=⟨_,rfl⟩
 rw[hX] at HI ⊢;generalize itK y.toNat=K at *
 generalize itN y.toNat=N at *
 have hR:∀w1,Below w.heap.size w w1→Calls Tryz.prog 205 #[.pointer (some ⟨b,o,none⟩),.int .i64 (K:Nat)] (w1.alloc (.cells #[.int .i64 (K:Nat),.int .u64 (N:Nat),.int .u8 0] 150)) fun r w'=>r= .returned (.int .i64 0)∧Below (w1.alloc (.cells #[.int .i64 (K:Nat),.int .u64 (N:Nat),.int .u8 0] 150)).heap.size (w1.alloc (.cells #[.int .i64 (K:Nat),.int .u64 (N:Nat),.int .u8 0] 150)) w':=fun w1 k=>by
  have:=zey (c.go (zaa k (.cells #[.int .i64 (K:Nat),.int .u64 (N:Nat),.int .u8 0] 150))) hk K hK;rw[he] at this;exact this
 have HR:=hid hR;have HB:=hid (fun w2 (k:Below w.heap.size w w2)=>zkc (w0:=w0) (c.go k) (hl.up k) hvt hk K N 0 ⟨by omega,hK,r5,r6⟩ (fun e=>absurd e h3) (fun e=>Nat.lt_of_lt_of_le (rc (by omega)) hD));have HC:=hid c;clear c hl hvt hk hd hD he hf hX hK r0 r5 r6 rc h3 hR;go_enter Tryz.func200,Tryz.ntmps200;(go_wp2_with fail);refine HI.out.mono ?_;rintro r w1 ⟨rfl,b1⟩;have HR1:=hid (HR.out w1 b1);have B1:=hid b1;clear b1 HR HI;(go_wp2_with fail);refine HR1.out.mono ?_;rintro r w2 ⟨rfl,b2⟩;have HF:=hid (FbI.of (F:=0) HC.out B1.out b2);have x0:=HF.out.blk.cell 0;have x1:=HF.out.blk.cell 1;have x2:=HF.out.blk.cell 2;have HB2:=hid (HB.out w2 HF.out.below);clear b2 HR1 B1 HB;(go_wp2_with fail);refine HB2.out.mono ?_;rintro r w' ⟨x,rfl,hR⟩;have HR:=hid hR;clear hR;go_wp2;go_ret2;exact⟨x,rfl,HR.out.up HF.out.below HF.out.lt⟩
theorem zwm {f:Nat} (hf:f=24∨f=25∨f=26∨f=27):zah .new f= .mid 0 (2^(f-24)) 0:=by
 rcases hf with rfl|rfl|rfl|rfl <;>rfl
theorem FbI.num {w w2 w5:World} {b o D kd nm fm:Nat} {h:Hd} {vt vs:Value} {s:List Bx} {g K N F:Nat} (I:FbI w w2 b o D kd nm fm h vt vs s g K N F)
  {w3:World} (h3:PP w3 b o D 1 K N F h 0 0 vt [] st0 vs s.length (inP s)) (s3:Sub b o 20 w2 w3) {w4:World} (h4:zbw w3 b (o+6) .new w4) (h5:zbw w4.drew b (o+6) (.mid 0 (2^(F-24)) 0) w5)
  (hK:K=1∨K=3∨K=7∨K=8∨K=9∨K=10) (hF:F=24∨F=25∨F=26∨F=27) (w0:World):GoM w0 w w5 b o D vt vs (.num s (kOf K) (2^(F-24)) (2^(F-24)) 0,[]) (.slice none 0 0):=by
 have c4:=h3.setHd h4.2 h4.1;have c5:=(c4.drewN 1).setHd h5.2 h5.1;refine⟨Vls.nil_ _ _,⟨vt,vs,⟨N,?_⟩,fun k hk=> .inl hk⟩,?_⟩
 ·rw[zaji hK,zakn hF]
  exact c5
 ·exact(((zae I.below I.lt _ _ _).tr (s3.subg _)).tr ((h4.2.widen (by omega) (by omega)).subg _)).tr (((Subg.refl _ _ _ _ _).drewN 1).tr ((h5.2.widen (by omega) (by omega)).subg _))
theorem zsf {w0 w:World} {b o D kd nm fm:Nat} {h:Hd} {vt vs:Value} {s:List Bx} (c:PP w b o D 0 kd nm fm h 0 0 vt [] st0 vs s.length (inP s)) (hk:OkP s) (y:UInt8) (he:refP D s (itK y.toNat)=0) (hf:itF y.toNat≠0) :
  Calls Tryz.prog 200 #[.pointer (some ⟨b,o,none⟩),.int .u8 (y.toNat:Int)] w fun r w' =>
   ∃x,r= .returned (.tuple #[x,.int .i64 0])∧GoM w0 w w' b o D vt vs (.num s (kOf (itK y.toNat)) (2^(itF y.toNat-24)) (2^(itF y.toNat-24)) 0,[]) x:=by
 have HI:=hid (zpj y.toNat y.toNat_lt w);unfold itV at HI;have hK:=zagr y.toNat y.toNat_lt;obtain⟨hF,hKK⟩:=(zwg y.toNat y.toNat_lt).resolve_left hf;obtain⟨X,hX⟩:∃X,(y.toNat:Int)=X:=⟨_,rfl⟩
 rw[hX] at HI ⊢;generalize itK y.toNat=K at *
 generalize itN y.toNat=N at *
 generalize itF y.toNat=F at *
 have hR:∀w1,Below w.heap.size w w1→Calls Tryz.prog 205 #[.pointer (some ⟨b,o,none⟩),.int .i64 (K:Nat)] (w1.alloc (.cells #[.int .i64 (K:Nat),.int .u64 (N:Nat),.int .u8 (F:Nat)] 150)) fun r w'=>r= .returned (.int .i64 0)∧Below (w1.alloc (.cells #[.int .i64 (K:Nat),.int .u64 (N:Nat),.int .u8 (F:Nat)] 150)).heap.size (w1.alloc (.cells #[.int .i64 (K:Nat),.int .u64 (N:Nat),.int .u8 (F:Nat)] 150)) w':=fun w1 k=>by
  have:=zey (c.go (zaa k (.cells #[.int .i64 (K:Nat),.int .u64 (N:Nat),.int .u8 (F:Nat)] 150))) hk K hK;rw[he] at this;exact this
 have HR:=hid hR;have HC:=hid c;have zF:((F:Int)==0)=false:=by rw[beq_eq_false_iff_ne];omega
 have HQ:=hid (And.intro hKK hF);clear c hk he hf hX hK hKK hF hR;go_enter Tryz.func200,Tryz.ntmps200;(go_wp2_with fail);refine HI.out.mono ?_;rintro r w1 ⟨rfl,b1⟩;have HR1:=hid (HR.out w1 b1);have B1:=hid b1;clear b1 HR HI;(go_wp2_with fail);refine HR1.out.mono ?_;rintro r w2 ⟨rfl,b2⟩;have HF:=hid (FbI.of HC.out B1.out b2);obtain⟨g,hg⟩:∃g,w1.heap.size=g:=⟨_,rfl⟩
 rw[hg] at HF ⊢;have x0:=HF.out.blk.cell 0;have x1:=HF.out.blk.cell 1;have x2:=HF.out.blk.cell 2;obtain⟨⟨_,_,⟨c2,f2⟩⟩,⟨⟨c3,f3⟩,⟨c4,f4⟩,⟨c5,f5⟩⟩,_⟩:=HF.out.cp.cells;have hS:Sub b (o+3) 3 w2 (((w2.setCell ⟨b,o+3,none⟩ (.int .i64 K)).setCell ⟨b,o+3+1,none⟩ (.int .u64 N)).setCell ⟨b,o+3+2,none⟩ (.int .u8 F)):=((zac w2 (o+3) _ (by omega)).setCell (o+3+1) _ (by omega)).setCell (o+3+2) _ (by omega);have hA:At (((w2.setCell ⟨b,o+3,none⟩ (.int .i64 K)).setCell ⟨b,o+3+1,none⟩ (.int .u64 N)).setCell ⟨b,o+3+2,none⟩ (.int .u8 F)) b (o+3) [.int .i64 K,.int .u64 N,.int .u8 F]:=((HF.out.cp.it.set 0 (by simp) (.int .i64 K)).set 1 (by simp) (.int .u64 N)).set 2 (by simp) (.int .u8 F);have hP:=(HF.out.cp.setIt hS hA).setPl 1;have hS20:Sub b o 20 w2 ((((w2.setCell ⟨b,o+3,none⟩ (.int .i64 K)).setCell ⟨b,o+3+1,none⟩ (.int .u64 N)).setCell ⟨b,o+3+2,none⟩ (.int .u8 F)).setCell ⟨b,o+2,none⟩ (.int .i64 (1:Nat))):=(hS.widen (by omega) (by omega)).setCell (o+2) _ (by omega);have HP:=hid (And.intro hP hS20);have HCL:=hid (zlh hP.hd);clear b2 HR1 B1 hS hA hP hS20 hg;(go_wp2_with fail);refine HCL.out.mono ?_;rintro r w4 ⟨rfl,h4⟩;have H4:=hid h4;have hb4:w4.heap[g]? = w2.heap[g]? :=((HP.out.2.trans (h4.2.widen (by omega) (by omega))).step.block g (Array.getElem?_eq_some_iff.1 HF.out.blk).1 (by simp;have:=HF.out.lt;have:=HF.out.new;omega))
 have y2:w4.drew.cell? ⟨g,2,none⟩=some (.int .u8 F):=(World.cell?_of_block (w:=w2) hb4).trans x2;have HST:=hid (zc3 (x:=F) (by have:=HQ.out.2;omega) (h4.1.drewN 1));rw[zwm HQ.out.2] at HST;simp only[endH,errH] at HST;clear h4 HCL hb4;(go_wp2_with fail)
 go_region_with (go_at_call 161;refine(HST.out).mono ?_;rintro r w5 ⟨rfl,h5⟩)
 all_goals
  have HG:=hid (HF.out.num HP.out.1 HP.out.2 H4.out h5 HQ.out.1 HQ.out.2 w0);clear h5;go_wp2;go_ret2;exact⟨_,rfl,HG.out⟩
end
section
open Go.RowKit
open Go.Lib
theorem zxj {w0 w:World} {b o D kd nm fm:Nat} {h:Hd} {vt vs:Value} {s:List Bx} (c:PP w b o D 0 kd nm fm h 0 0 vt [] st0 vs s.length (inP s)) (hl:Low w0 w b vs) (hvt:∀k∈Value.owner vt,k<w0.heap.size) (hk:OkP s) (hd:s.length≤D) (hD:D≤16) (y:UInt8) :
  Calls Tryz.prog 200 #[.pointer (some ⟨b,o,none⟩),.int .u8 (y.toNat:Int)] w fun r w' =>
   ∃x,r= .returned (.tuple #[x,.int .i64 (zcw (zg6 D s y.toNat).1:Nat)])∧GoM w0 w w' b o D vt vs (zg6 D s y.toNat) x:=by
 unfold zg6;by_cases he:refP D s (itK y.toNat)=0
 ·rw[if_neg (by simpa using he)]
  by_cases hf:itF y.toNat=0
  ·rw[if_pos hf]
   exact zur c hl hvt hk hd hD y he hf
  ·rw[if_neg hf]
   exact zsf c hk y he hf
 ·rw[if_pos he]
  exact zsu c hk y he
def numB (s:List Bx) (k q n a:Nat) (y:Nat):Pm×List Ev:=if n=1 then begP s (kdK k) (a*256+y) (fmW q) else(.num s k q (n-1) (a*256+y),[])
theorem zacd {w0 w:World} {b o D nm:Nat} {vt vs:Value} {s:List Bx} {k q n a:Nat} (c:PP w b o D 1 (kdK k) nm (fmW q) (.mid 0 n a) 0 0 vt [] st0 vs s.length (inP s)) (y:UInt8) (hn:n≠1) :
  Calls Tryz.prog 198 #[.pointer (some ⟨b,o,none⟩),.int .u8 (y.toNat:Int)] w fun r w' =>
   ∃x,r= .returned (.tuple #[x,.int .i64 0])∧GoM w0 w w' b o D vt vs (.num s k q (n-1) (a*256+y.toNat),[]) x:=by
 have hS:=zc3 y.toNat_lt c.hd;have e1:zah (.mid 0 n a) y.toNat= .mid 0 (n-1) (a*256+y.toNat):=by simp only[zah];rw[if_neg hn]
 rw[e1] at hS;simp only[endH,errH] at hS;have HG:Hid (∀w',zbw w b (o+6) (.mid 0 (n-1) (a*256+y.toNat)) w'→GoM w0 w w' b o D vt vs (.num s k q (n-1) (a*256+y.toNat),[]) (.slice none 0 0)):=hid (fun w' h =>
  ⟨Vls.nil_ _ _,⟨vt,vs,⟨nm,c.setHd h.2 h.1⟩,fun k hk=> .inl hk⟩,(h.2.widen (by omega) (by omega)).subg _⟩)
 have HS:=hid hS;generalize a*256+y.toNat=v at *
 obtain⟨X,hX⟩:∃X,(y.toNat:Int)=X:=⟨_,rfl⟩
 rw[hX] at HS ⊢;clear c hS e1 hX hn;go_enter Tryz.func198,Tryz.ntmps198;(go_wp2_with fail);refine HS.out.mono ?_;rintro r w1 ⟨rfl,h1⟩;have HG1:=hid (HG.out _ h1);clear h1 HG;go_wp2;go_ret2;exact⟨_,rfl,HG1.out⟩
theorem zzm {w0 w:World} {b o D nm:Nat} {vt vs:Value} {s:List Bx} {K f a:Nat} (c:PP w b o D 1 K nm f (.mid 0 1 a) 0 0 vt [] st0 vs s.length (inP s)) (hl:Low w0 w b vs) (hvt:∀k∈Value.owner vt,k<w0.heap.size) (hk:OkP s) (y:UInt8)
  (hK:1≤K∧K≤10∧K≠5∧K≠6) (hf:K=3→24≤f∧f≤27∧a*256+y.toNat<256^(2^(f-24))) (hd:9≤K→s.length<16) :
  Calls Tryz.prog 198 #[.pointer (some ⟨b,o,none⟩),.int .u8 (y.toNat:Int)] w fun r w' =>
   ∃x,r= .returned (.tuple #[x,.int .i64 (zcw (begP s K (a*256+y.toNat) f).1:Nat)])∧GoM w0 w w' b o D vt vs (begP s K (a*256+y.toNat) f) x:=by
 have hS:=zc3 y.toNat_lt c.hd;have e1:zah (.mid 0 1 a) y.toNat= .fin 0 (a*256+y.toNat) false:=by simp[zah]
 rw[e1] at hS;simp only[endH,errH] at hS;have H:=hid (And.intro c (And.intro hl (And.intro hvt (And.intro hk (And.intro hK (And.intro hf hd))))));have HS:=hid hS;generalize a*256+y.toNat=v at *
 obtain⟨X,hX⟩:∃X,(y.toNat:Int)=X:=⟨_,rfl⟩
 rw[hX] at HS ⊢;clear c hS e1 hX hl hvt hk hK hf hd;go_enter Tryz.func198,Tryz.ntmps198;(go_wp2_with fail);refine HS.out.mono ?_;rintro r w1 ⟨rfl,h1⟩;have c1:=H.out.1.setHd h1.2 h1.1;have s1:Sub b o 20 w w1:=h1.2.widen (by omega) (by omega);have HV:=hid (zbi h1.1);simp only[valH] at HV;obtain⟨⟨d3,g3⟩,⟨d4,g4⟩,⟨d5,g5⟩⟩:=c1.cells.2.1;have s2:Sub b (o+3) 3 w1 (w1.setCell ⟨b,o+3+1,none⟩ (.int .u64 (v:Nat))):=zac w1 _ _ (by omega);have c2:PP (w1.setCell ⟨b,o+3+1,none⟩ (.int .u64 (v:Nat))) b o D 1 K v f (.fin 0 v false) 0 0 vt [] st0 vs s.length (inP s):=c1.setIt s2 (c1.it.set 1 (by simp) _);have HB:=hid (zkc (w0:=w0) c2 (H.out.2.1.of (Nat.le_trans s1.step.size s2.step.size) rfl) H.out.2.2.1 H.out.2.2.2.1 K v f H.out.2.2.2.2.1 H.out.2.2.2.2.2.1 H.out.2.2.2.2.2.2);have HX:=hid (s1.trans (s2.widen (o':=o) (n':=20) (by omega) (by omega)));clear h1 c1 s1 s2 c2;(go_wp2_with fail);refine HV.out.mono ?_;rintro r w2 ⟨rfl,rfl⟩;clear HV;(go_wp2_with fail);refine HB.out.mono ?_;rintro r w' ⟨x,rfl,hR⟩;have HR:=hid hR;clear hR;go_wp2;go_ret2;exact⟨x,rfl,HR.out.from_ (HX.out.subg _) (fun _ hk=> .inl hk)⟩
def zjt (w w':World) (b o D:Nat) (vt vs:Value) (q:Pm×List Ev) (r:Ending):Prop:=∃x,r= .returned (.tuple #[x,.int .i64 (zcw q.1:Nat)])∧GoM w w w' b o D vt vs q x
theorem zjm {w:World} {b:Nat} {vs:Value} (hb:b<w.heap.size) (hv:∀k∈Value.owner vs,k<w.heap.size):Low w w b vs:=⟨Nat.le_refl _,hb,hv⟩
theorem zyl {w:World} {b o D kd nm fm:Nat} {h:Hd} {tk lk:Nat} {vt:Value} {t:List UInt8} {u:Option (Nat×Nat×Nat)} {vs:Value} {n:Nat} {xs:List Value} (c:PP w b o D 3 kd nm fm h tk lk vt t u vs n xs) (y:UInt8) :
  Calls Tryz.prog 197 #[.pointer (some ⟨b,o,none⟩),.int .u8 (y.toNat:Int)] w fun r w'=>zjt w w' b o D vt vs (.c (.bad 2),[]) r:=by
 have c2:=c.cells.1.2.2.1;have HG:Hid (GoM w w w b o D vt vs (.c (.bad 2),[]) (.slice none 0 0)):=hid ⟨Vls.nil_ _ _,⟨vt,vs,⟨by decide,c.room,c.cells.1.2.1.1⟩,fun k hk=> .inl hk⟩,Subg.refl _ _ _ _ _⟩;clear c;go_enter Tryz.func197,Tryz.ntmps197;go_wp2;go_ret2;exact⟨_,rfl,HG.out⟩
theorem zt0 {w:World} {b o D:Nat} {vt vs:Value} {q:Pm×List Ev} (hc:w.cell? ⟨b,o+2,none⟩=some (.int .i64 (2:Nat))) {y:UInt8}
  (H:Calls Tryz.prog 199 #[.pointer (some ⟨b,o,none⟩),.int .u8 (y.toNat:Int)] w fun r w'=>zjt w w' b o D vt vs q r) :
  Calls Tryz.prog 197 #[.pointer (some ⟨b,o,none⟩),.int .u8 (y.toNat:Int)] w fun r w'=>zjt w w' b o D vt vs q r:=by
 have HH:=hid H;clear H;go_enter Tryz.func197,Tryz.ntmps197;(go_wp2_with fail);refine HH.out.mono ?_;rintro r w' ⟨x,rfl,hq⟩;have HQ:=hid hq;clear hq;go_wp2;go_ret2;exact⟨x,rfl,HQ.out⟩
theorem zaan {w:World} {b o D:Nat} {vt vs:Value} {q:Pm×List Ev} (hc:w.cell? ⟨b,o+2,none⟩=some (.int .i64 (1:Nat))) {y:UInt8}
  (H:Calls Tryz.prog 198 #[.pointer (some ⟨b,o,none⟩),.int .u8 (y.toNat:Int)] w fun r w'=>zjt w w' b o D vt vs q r) :
  Calls Tryz.prog 197 #[.pointer (some ⟨b,o,none⟩),.int .u8 (y.toNat:Int)] w fun r w'=>zjt w w' b o D vt vs q r:=by
 have HH:=hid H;clear H;go_enter Tryz.func197,Tryz.ntmps197;(go_wp2_with fail);refine HH.out.mono ?_;rintro r w' ⟨x,rfl,hq⟩;have HQ:=hid hq;clear hq;go_wp2;go_ret2;exact⟨x,rfl,HQ.out⟩
theorem zpt {w:World} {b o D:Nat} {vt vs:Value} {q:Pm×List Ev} (hc:w.cell? ⟨b,o+2,none⟩=some (.int .i64 (0:Nat))) {y:UInt8}
  (H:Calls Tryz.prog 200 #[.pointer (some ⟨b,o,none⟩),.int .u8 (y.toNat:Int)] w fun r w'=>zjt w w' b o D vt vs q r) :
  Calls Tryz.prog 197 #[.pointer (some ⟨b,o,none⟩),.int .u8 (y.toNat:Int)] w fun r w'=>zjt w w' b o D vt vs q r:=by
 have HH:=hid H;clear H;go_enter Tryz.func197,Tryz.ntmps197;(go_wp2_with fail);refine HH.out.mono ?_;rintro r w' ⟨x,rfl,hq⟩;have HQ:=hid hq;clear hq;go_wp2;go_ret2;exact⟨x,rfl,HQ.out⟩
theorem zabr {w:World} {b o D:Nat} {s:Pm} {vt vs:Value} (hD:D≤16) (hs:StM w b o D s vt vs) (hw:WfPm D s) (hb:∀e,s≠ .c (.bad e)) (y:UInt8) :
    Calls Tryz.prog 197 #[.pointer (some ⟨b,o,none⟩),.int .u8 (y.toNat:Int)] w fun r w'=>zjt w w' b o D vt vs (zcj D s y) r:=by
  cases s with
  | c x =>
    cases x with
    | bad e=>exact absurd rfl (hb e)
    | item s dn =>
      obtain⟨hp,hd,_⟩:=hw;obtain⟨kd,nm,fm,h,c⟩:=hs;cases dn with
      | true =>
        have:zcj D (.c (.item s true)) y=(.c (.bad 2),[]):=by simp only[zcj,zjo];simp
        rw[this];exact zyl c y
      | false =>
        have c:PP w b o D 0 kd nm fm h 0 0 vt [] st0 vs s.length (inP s):=c;rw[show zcj D (.c (.item s false)) y=zg6 D s y.toNat from zmr D s hd y.toNat y.toNat_lt];exact zpt c.cells.1.2.2.1 (zxj c (zjm c.lt c.op.win.lt) c.wt.lt hp hd hD y)
    | text s m n t u =>
      obtain⟨hp,hd,hn,ht⟩:=hw;obtain⟨kd,nm,fm,h,c⟩:=hs;obtain⟨n',rfl⟩:∃n',n=n'+1:=⟨n-1,by omega⟩
      rw[show zcj D (.c (.text s m (n'+1) t u)) y=bytP s m t n' u y from zk3 D s m n' t u y];exact zt0 c.cells.1.2.2.1 (zjq c ht (zjm c.lt c.op.win.lt) hp y)
    | head _ _=>exact hs.elim
    | open_ _ _ _=>exact hs.elim
    | chead _ _ _ _=>exact hs.elim
    | ctext _ _ _ _ _=>exact hs.elim
  | num s k q n a =>
    obtain⟨hp,hd,hk,hq,h1,hnq,ha,h4⟩:=hw;obtain⟨nm,c⟩:=hs;have he:zcj D (.num s k q n a) y=numB s k q n a y.toNat:=by
      simp only[zcj];unfold numB;by_cases hn:n=1
      · rw[if_pos hn,if_pos hn,zys s hk hq]
      · rw[if_neg hn,if_neg hn]
    rw[he];unfold numB;refine zaan c.cells.1.2.2.1 ?_;by_cases hn:n=1
    · subst hn
      rw[if_pos rfl];have hc:k=0∨k=1∨k=2∨k=3∨k=4∨k=5:=by omega
      have hlt:=y.toNat_lt;refine zzm c (zjm c.lt c.op.win.lt) c.wt.lt hp y ?_ (fun _=> ?_) (fun e=> ?_)
      · rcases hc with rfl|rfl|rfl|rfl|rfl|rfl <;>decide
      · obtain⟨f1,f2,f3⟩:=zakt hq
        refine⟨f2,f3,?_⟩;rw[f1];have e:q=(q-1)+1:=by omega
        rw[e,Nat.pow_succ];omega
      · have h4k:4≤k:=by
          revert e;rcases hc with rfl|rfl|rfl|rfl|rfl|rfl <;>decide
        have:=h4 h4k;omega
    · rw[if_neg hn]
      exact zacd c y hn
end
section
open Go.RowKit
open Go.Lib
def paP (e D:Nat):List Value:=[.int .i64 (e:Int),.int .i64 (D:Int),.int .i64 0,.int .i64 0,.int .u64 0,.int .u8 0,.int .i64 0,.int .i64 0,.int .i64 0,.bool false,.int .i64 0,.int .u64 0,.int .i64 0,.int .i64 0,.slice none 0 0,.int .i64 0,.int .u8 0,.int .u8 0,.bool false,.slice none 0 0]
theorem zai9 (e D:Nat):(paP e D).toArray.all (·.oneCell')=true:=by simp[paP,Value.oneCell']
def StPm (w:World) (b o D:Nat) (s:Pm) (vt vs:Value):Prop :=
 match s with
 | .c (.bad e)=>e≠0∧At w b o (paP e D)∧vt= .slice none 0 0∧vs= .slice none 0 0
 | .c (.item s dn)=>StM w b o D (.c (.item s dn)) vt vs
 | .c (.text s m n t u)=>StM w b o D (.c (.text s m n t u)) vt vs
 | .num s k q n a=>StM w b o D (.num s k q n a) vt vs
 | _=>False
theorem StPm.of {w:World} {b o D:Nat} {s:Pm} {vt vs:Value} (h:StM w b o D s vt vs) (hb:∀e,s≠ .c (.bad e)):StPm w b o D s vt vs:=by
  cases s with
  | c x =>
    cases x with
    | bad e=>exact absurd rfl (hb e)
    | item _ _=>exact h
    | text _ _ _ _ _=>exact h
    | head _ _=>exact h
    | open_ _ _ _=>exact h
    | chead _ _ _ _=>exact h
    | ctext _ _ _ _ _=>exact h
  | num _ _ _ _ _=>exact h
theorem StPm.st {w:World} {b o D:Nat} {s:Pm} {vt vs:Value} (h:StPm w b o D s vt vs) (hb:∀e,s≠ .c (.bad e)):StM w b o D s vt vs:=by
  cases s with
  | c x =>
    cases x with
    | bad e=>exact absurd rfl (hb e)
    | item _ _=>exact h
    | text _ _ _ _ _=>exact h
    | head _ _=>exact h
    | open_ _ _ _=>exact h
    | chead _ _ _ _=>exact h
    | ctext _ _ _ _ _=>exact h
  | num _ _ _ _ _=>exact h
def stkP:Pm→List Bx
 | .c (.item s _)=>s
 | .c (.text s _ _ _ _)=>s
 | .num s _ _ _ _=>s
 | _=>[]
theorem StM.pp {w:World} {b o D:Nat} {s:Pm} {vt vs:Value} (h:StM w b o D s vt vs) (hb:∀e,s≠ .c (.bad e)) (hw:WfPm D s) :
    ∃pl kd nm fm hh tk lk t u,PP w b o D pl kd nm fm hh tk lk vt t u vs (stkP s).length (inP (stkP s))∧zvp s=t.length+(stkP s).length∧(pl=3↔zfm s=true)∧t.length≤200∧(stkP s).length≤16:=by
  cases s with
  | c x =>
    cases x with
    | bad e=>exact absurd rfl (hb e)
    | item s dn =>
      obtain⟨kd,nm,fm,hh,c⟩:=h;refine⟨_,_,_,_,_,_,_,_,_,c,by simp[zvp,zkt,stkP],?_,by simp,hw.1.deep⟩;cases dn with
      | false=>simp[zfm,zci]
      | true =>
        obtain rfl:=hw.2.2 rfl;simp[zfm,zci]
    | text s m n t u =>
      obtain⟨kd,nm,fm,hh,c⟩:=h;exact⟨_,_,_,_,_,_,_,_,_,c,rfl,by simp[zfm,zci],by have:=hw.2.2.2;omega,hw.1.deep⟩
    | head _ _=>exact h.elim
    | open_ _ _ _=>exact h.elim
    | chead _ _ _ _=>exact h.elim
    | ctext _ _ _ _ _=>exact h.elim
  | num s k q n a =>
    obtain⟨nm,c⟩:=h;exact⟨_,_,_,_,_,_,_,_,_,c,by simp[zvp,stkP],by simp[zfm],by simp,hw.1.deep⟩
theorem StPm.any {w:World} {b o D:Nat} {s:Pm} {vt vs:Value} (h:StPm w b o D s vt vs):(∃e,s= .c (.bad e)∧e≠0∧At w b o (paP e D)∧vt= .slice none 0 0∧vs= .slice none 0 0)∨((∀e,s≠ .c (.bad e))∧∃pl kd nm fm hh tk lk t u,PP w b o D pl kd nm fm hh tk lk vt t u vs (stkP s).length (inP (stkP s))):=by
  cases s with
  | c x =>
    cases x with
    | bad e=>exact .inl ⟨e,rfl,h⟩
    | item _ _=>obtain⟨kd,nm,fm,hh,c⟩:=h;exact .inr ⟨fun e h=>(by cases h),_,_,_,_,_,_,_,_,_,c⟩
    | text _ _ _ _ _=>obtain⟨kd,nm,fm,hh,c⟩:=h;exact .inr ⟨fun e h=>(by cases h),_,_,_,_,_,_,_,_,_,c⟩
    | head _ _=>exact h.elim
    | open_ _ _ _=>exact h.elim
    | chead _ _ _ _=>exact h.elim
    | ctext _ _ _ _ _=>exact h.elim
  | num _ _ _ _ _=>obtain⟨nm,c⟩:=h;exact .inr ⟨fun e h=>(by cases h),_,_,_,_,_,_,_,_,_,c⟩
theorem StPm.lt {w:World} {b o D:Nat} {s:Pm} {vt vs:Value} (h:StPm w b o D s vt vs):b<w.heap.size:=by
 rcases h.any with ⟨e,_,_,hA,_⟩|⟨_,_,_,_,_,_,_,_,_,_,c⟩
 ·exact hA.lt (by simp[paP])
 ·exact c.lt
theorem StPm.err {w:World} {b o D:Nat} {s:Pm} {vt vs:Value} (h:StPm w b o D s vt vs):w.cell? ⟨b,o,none⟩=some (.int .i64 (zcw s:Nat))∧w.cell? ⟨b,o+1,none⟩=some (.int .i64 (D:Nat)):=by
  cases s with
  | c x =>
    cases x with
    | bad e=>exact⟨(h.2.1 0 _ rfl).1,(h.2.1 1 _ rfl).1⟩
    | item _ _=>obtain⟨kd,nm,fm,hh,c⟩:=h;exact⟨c.cells.1.1.1,c.cells.1.2.1.1⟩
    | text _ _ _ _ _=>obtain⟨kd,nm,fm,hh,c⟩:=h;exact⟨c.cells.1.1.1,c.cells.1.2.1.1⟩
    | head _ _=>exact h.elim
    | open_ _ _ _=>exact h.elim
    | chead _ _ _ _=>exact h.elim
    | ctext _ _ _ _ _=>exact h.elim
  | num _ _ _ _ _=>obtain⟨nm,c⟩:=h;exact⟨c.cells.1.1.1,c.cells.1.2.1.1⟩
theorem zajq {w:World} {b o D:Nat} (h:At w b o (paP 0 D)):PP w b o D 0 0 0 0 .new 0 0 (.slice none 0 0) [] st0 (.slice none 0 0) 0 []:=by
 have e1:=h.right (vs:=[.int .i64 ((0:Nat):Int),.int .i64 (D:Int),.int .i64 0]) (us:=_);have e2:=e1.right (vs:=[.int .i64 0,.int .u64 0,.int .u8 0]) (us:=_);have e3:=e2.right (vs:=hd6 0 0 0 false 0 0) (us:=_);have e4:=e3.right (vs:=[.int .i64 0,.int .i64 0,.slice none 0 0]) (us:=_);have e5:=e4.right (vs:=za9 0 0 0 false) (us:=_);exact⟨h.left (vs:=[.int .i64 ((0:Nat):Int),.int .i64 (D:Int),.int .i64 0]),e1.left (vs:=[.int .i64 0,.int .u64 0,.int .u8 0]),⟨trivial,e2.left (vs:=hd6 0 0 0 false 0 0)⟩,e3.left (vs:=[.int .i64 0,.int .i64 0,.slice none 0 0]),zeb (e4.left (vs:=za9 0 0 0 false)),⟨e5,Win.nil_ _ _ _,by simp[Value.owner]⟩,Win.nil_ _ _ _,by simp[Value.owner]⟩
theorem zxn {w:World} {b o D e:Nat} (hD:1≤D) (c0:w.cell? ⟨b,o,none⟩=some (.int .i64 (e:Nat))) (c1:w.cell? ⟨b,o+1,none⟩=some (.int .i64 (D:Nat))) :
  Calls Tryz.prog 196 #[.pointer (some ⟨b,o,none⟩)] w fun r w'=>r= .returned (.int .i64 (e:Nat))∧w=w':=by
 have hz:((D:Int)==0)=false:=by rw[beq_eq_false_iff_ne];omega
 clear hD;go_enter Tryz.func196,Tryz.ntmps196;go_wp2;go_ret;exact⟨rfl,rfl⟩
theorem zj2 {w:World} {b o pl:Nat} (c2:w.cell? ⟨b,o+2,none⟩=some (.int .i64 (pl:Nat))) :
  Calls Tryz.prog 192 #[.pointer (some ⟨b,o,none⟩)] w fun r w'=>r= .returned (.bool (decide (pl=3)))∧w=w':=by
 have hz:((pl:Int)==3)=decide (pl=3):=by rw[Bool.eq_iff_iff,beq_iff_eq,decide_eq_true_eq];omega
 generalize decide (pl=3)=B at *
 go_enter Tryz.func192,Tryz.ntmps192;go_wp2;go_ret;exact⟨rfl,rfl⟩
theorem zafc {w:World} {b o D:Nat} {s:Pm} {vt vs:Value} (h:StPm w b o D s vt vs) (hw:WfPm D s) :
  Calls Tryz.prog 192 #[.pointer (some ⟨b,o,none⟩)] w fun r w'=>r= .returned (.bool (zfm s))∧w=w':=by
 rcases h.any with ⟨e,rfl,_,hA,_⟩|⟨hb,_⟩
 ·exact zj2 (pl:=0) (hA 2 _ rfl).1
 ·obtain⟨pl,_,_,_,_,_,_,_,_,c,_,hd,_⟩:=(h.st hb).pp hb hw
  have:=zj2 c.cells.1.2.2.1;have e:decide (pl=3)=zfm s:=by rw[Bool.eq_iff_iff,decide_eq_true_eq];exact hd
  rwa [e] at this
theorem zag0 {w:World} {b o D:Nat} {s:Pm} {vt vs:Value} (hD:1≤D) (h:StPm w b o D s vt vs) (hw:WfPm D s) :
    Calls Tryz.prog 193 #[.pointer (some ⟨b,o,none⟩)] w fun r w'=>r= .returned (.int .i64 (ztq s:Nat))∧w=w':=by
  have HH:=hid (zxn hD h.err.1 h.err.2);have HD:=hid (zafc h hw);rcases h.any with ⟨e,rfl,he,_⟩|⟨hb,_⟩
  · have hz:((e:Int) !=0)=true:=by rw[bne_iff_ne];omega
    simp only[zcw,zbs,ztq,zl8] at HH ⊢;clear h hw he HD;go_enter Tryz.func193,Tryz.ntmps193;(go_wp2_with fail);refine HH.out.mono ?_;rintro r w1 ⟨rfl,rfl⟩;go_wp2;go_ret;exact⟨rfl,rfl⟩
  · have hE : zcw s=0∧ztq s=if zfm s=true then 0 else 3:=by
      cases s with
      | c x =>
        cases x with
        | bad e=>exact absurd rfl (hb e)
        | item s dn =>
          cases dn with
          | false=>exact⟨rfl,by simp[ztq,zl8,zfm,zci]⟩
          | true =>
            obtain rfl:=hw.2.2 rfl;exact⟨rfl,rfl⟩
        | text _ _ _ _ _=>exact⟨rfl,rfl⟩
        | head _ _=>exact hw.elim
        | open_ _ _ _=>exact hw.elim
        | chead _ _ _ _=>exact hw.elim
        | ctext _ _ _ _ _=>exact hw.elim
      | num _ _ _ _ _=>exact⟨rfl,rfl⟩
    rw[hE.1] at HH;rw[hE.2];generalize zfm s=B at *
    clear h hw hE hb;cases B with
    | true =>
      go_enter Tryz.func193,Tryz.ntmps193;(go_wp2_with fail);refine HH.out.mono ?_;rintro r w1 ⟨rfl,rfl⟩;(go_wp2_with fail);refine HD.out.mono ?_;rintro r w1 ⟨rfl,rfl⟩;go_wp2;go_ret;exact⟨rfl,rfl⟩
    | false =>
      go_enter Tryz.func193,Tryz.ntmps193;(go_wp2_with fail);refine HH.out.mono ?_;rintro r w1 ⟨rfl,rfl⟩;(go_wp2_with fail);refine HD.out.mono ?_;rintro r w1 ⟨rfl,rfl⟩;go_wp2;go_ret;exact⟨rfl,rfl⟩
end
section
open Go.RowKit
open Go.Lib
theorem zr3 {s:Pm} (h:zcw s≠0):∃e,s= .c (.bad e)∧e≠0:=by
  cases s with
  | num _ _ _ _ _=>exact absurd rfl h
  | c x =>
    obtain⟨e,h1,h2⟩:=zv6 (s:=x) h;exact⟨e,by rw[h1],h2⟩
def zwt (w w':World) (b o D:Nat) (vt vs:Value) (q:Pm×List Ev) (r:Ending):Prop :=
 (∃u,r= .returned (.tuple #[u,.int .i64 (zcw q.1:Nat)])∧Vls w w' u q.2)∧(∃vt' vs',StPm w' b o D q.1 vt' vs'∧∀k∈Value.owner vt'++Value.owner vs',k∈Value.owner vt++Value.owner vs∨w.heap.size≤k)∧Subg (Value.owner vt++Value.owner vs) b o 20 w w'
theorem zaco {w:World} {b o D:Nat} {s:Pm} {vt vs:Value} (hD:1≤D∧D≤16) (h:StPm w b o D s vt vs) (hw:WfPm D s) (y:UInt8) :
    Calls Tryz.prog 195 #[.pointer (some ⟨b,o,none⟩),.int .u8 (y.toNat:Int)] w fun r w'=>zwt w w' b o D vt vs (zcj D s y) r:=by
  have HH:=hid (zxn hD.1 h.err.1 h.err.2);rcases h.any with ⟨e,rfl,hne,_⟩|⟨hb,_⟩
  · have hz:((e:Int) !=0)=true:=by rw[bne_iff_ne];omega
    have HK:Hid (zwt w w b o D vt vs (zcj D (.c (.bad e)) y) (.returned (.tuple #[.slice none 0 0,.int .i64 (e:Nat)]))):=hid ⟨⟨_,rfl,Vls.nil_ _ _⟩,⟨vt,vs,h,fun k hk=> .inl hk⟩,Subg.refl _ _ _ _ _⟩;simp only[zcw,zbs] at HH;clear h hw hD hne;go_enter Tryz.func195,Tryz.ntmps195;(go_wp2_with fail);refine HH.out.mono ?_;rintro r w1 ⟨rfl,rfl⟩;go_wp2;go_ret2;exact HK.out
  · have e0:zcw s=0:=by
      by_cases h0:zcw s=0
      · exact h0
      · obtain⟨e,h1,_⟩:=zr3 h0
        exact absurd h1 (hb e)
    have hT:=zabr (y:=y) hD.2 (h.st hb) hw hb;have HL:=hid h.lt;rw[e0] at HH;generalize zcj D s y=R at *
    have HT:=hid hT;clear hT h hw hb e0 hD;by_cases he:zcw R.1=0
    · have HE:=hid he
      have HF:Hid (∀(w':World) (x:Value),GoM w w w' b o D vt vs R x→zwt w w' b o D vt vs R (.returned (.tuple #[x,.int .i64 (zcw R.1:Nat)]))):=hid (fun w' x hg=>by
        obtain⟨vt',vs',hst,ho⟩:=hg.st;have hnb:∀e,R.1≠ .c (.bad e):=fun e h=>by
          rw[h] at hst he;exact hst.1 he
        exact⟨⟨x,rfl,hg.vls⟩,⟨vt',vs',StPm.of hst hnb,ho⟩,hg.sub⟩)
      unfold zjt at HT;rw[he] at HT HF;go_enter Tryz.func195,Tryz.ntmps195;(go_wp2_with fail);refine HH.out.mono ?_;rintro r w1 ⟨rfl,rfl⟩;(go_wp2_with fail);refine HT.out.mono ?_;rintro r w1 ⟨x,rfl,hg⟩;have HG:=hid hg;clear hg;go_wp2;go_ret2;exact HF.out _ _ HG.out
    · obtain⟨e,hR,hne⟩:=zr3 he
      obtain⟨R1,R2⟩:=R;simp only at hR;subst hR;have hz:((e:Int) !=0)=true:=by rw[bne_iff_ne];omega
      unfold zjt at HT;simp only[zcw,zbs] at HT;have HN:=hid hne;clear he hne;go_enter Tryz.func195,Tryz.ntmps195;(go_wp2_with fail);refine HH.out.mono ?_;rintro r w1 ⟨rfl,rfl⟩;(go_wp2_with fail);refine HT.out.mono ?_;rintro r w1 ⟨x,rfl,hg⟩;have HG:=hid hg;obtain⟨vt',vs',⟨_,hroom,c1⟩,_⟩:=hg.st;have HR:=hid hroom;clear hg hroom
      go_wp2_with (refine zas rfl 156 _ _ rfl b o (paP e D) rfl rfl HR.out (by kernel_rfl) (zai9 _ _) ?_)
      intro w2 h2;have HA:=hid h2.out.1;have HS2:=hid h2.out.2;clear h2;go_wp2;go_ret2;refine⟨⟨x,rfl,HG.out.vls.sub HS2.out HL.out⟩,⟨.slice none 0 0,.slice none 0 0,⟨HN.out,HA.out,rfl,rfl⟩,fun k hk=>by simp[Value.owner] at hk⟩,HG.out.sub.tr (HS2.out.subg _)⟩
theorem zabm (D:Nat) (hD:1≤D∧D≤16) (w:World) :
  Calls Tryz.prog 54 #[.int .i64 D] w fun r w'=>r= .returned (.pointer (some ⟨w.heap.size,0,none⟩))∧StPm w' w.heap.size 0 D pm0 (.slice none 0 0) (.slice none 0 0)∧Below w.heap.size w w':=by
 have h1:((D:Int)<1)=False:=by simp;omega
 have h2:((16:Int)<(D:Int))=False:=by simp;omega
 have HP:Hid (StPm (w.alloc (.cells (paP 0 D).toArray 156)) w.heap.size 0 D pm0 (.slice none 0 0) (.slice none 0 0)):=hid ⟨_,_,_,_,zajq (zmj (heap_alloc_new w _))⟩;clear hD;go_enter Tryz.func54,Tryz.ntmps54;go_wp2;go_ret;exact⟨rfl,HP.out,zaa (Below.refl _ _) _⟩
end
end Go.Proofs.YtpaciekgbhoncaaGreat
