/-
  Parts: Bx, HeadPure, UtfPure, CinPure, EscPure, LexPure, JinPure, CinBack, CinFactB, RefPrint, RefWrite, RefOut, RefKout, Stk, May.
-/
import Derived.Test.YtpaciekgbhoncaaGreatG0a
import Derived.Test.YtpaciekgbhoncaaGreatG0f
import GoSem.Op.String
import Derived.Lib.ValidLaws
import Derived.Lib.RuneBytes
import Derived.Laws.Runes
import Derived.Test.YtpaciekgbhoncaaGreatG0g
import Derived.Test.YtpaciekgbhoncaaGreatG0b
import Derived.Test.YtpaciekgbhoncaaGreatG0k
import Derived.OwnWalk
import Derived.BigCall
import Derived.BigGuard
set_option maxRecDepth 100000
set_option maxHeartbeats 16000000
open Go.Lib (hid)
namespace Go.Proofs.YtpaciekgbhoncaaGreat
section
open Go.RowKit
open Go.Lib
def bxL (b:Bx):List Value:=[.bool b.map,.int .i64 b.c,.int .i64 (b.have_:Int)]
def bxsL:List Bx→List Value
 | []=>[]
 | b::r=>bxsL r++bxL b
theorem zamk:∀s:List Bx,(bxsL s).length=s.length*3
 | []=>rfl
 | b::r=>by rw[bxsL,List.length_append,zamk r];simp[bxL];omega
end
section
open Go.Lib
def valB (a:Nat):List UInt8→Nat
 | []=>a
 | b::t=>valB (a*256+b.toNat) t
theorem zan7 (a:Nat) (l:List UInt8):valB a l=a*256^l.length+valB 0 l:=by
  induction l generalizing a with
  | nil=>simp[valB]
  | cons b t ih =>
    simp only[valB,List.length_cons];rw[ih (a*256+b.toNat),ih (0*256+b.toNat),Nat.pow_succ];have e1:(a*256+b.toNat)*256^t.length=a*(256^t.length*256)+b.toNat*256^t.length:=by
      rw[Nat.add_mul,Nat.mul_assoc,Nat.mul_comm 256]
    rw[e1];simp;omega
theorem zamx (n v:Nat):valB 0 (bigB n v)=v%256^n:=by
  induction n with
  | zero=>simp[bigB,valB,Nat.mod_one]
  | succ n ih =>
    simp only[bigB,valB];rw[zan7,ih,zbo,zag6,Nat.pow_succ];have h1:v%(256^n*256)=v%256^n+256^n*(v/256^n%256):=Nat.mod_mul;rw[h1,Nat.mul_comm (256^n)];simp;omega
theorem zal6 (m l:Nat) (hm:m<8) (hl:l<32):zah .new (UInt8.ofNat (m*32+l)).toNat=if l<24 then .fin m l false else if l<28 then .mid m (2^(l-24)) 0 else if l=31 then .fin m 0 true else .bad 2:=by
 have e:(UInt8.ofNat (m*32+l)).toNat=m*32+l:=by simp;omega
 rw[e];simp only[zah];rw[show(m*32+l)%32=l by omega,show(m*32+l)/32=m by omega]
end
section
open Go.Lib
def runS (s:Option (Nat×Nat×Nat)) (l:List UInt8):Option (Nat×Nat×Nat):=l.foldl zb7 s
theorem zami (s:Option (Nat×Nat×Nat)):runS s []=s:=rfl
theorem ze2 (s:Option (Nat×Nat×Nat)) (b:UInt8) (t:List UInt8):runS s (b::t)=runS (zb7 s b) t:=rfl
theorem zalm (l:List UInt8):runS none l=none:=by
 induction l with
 | nil=>rfl
 | cons b t ih=>rw[ze2];exact ih
def zam4 (b:Nat):Bool:=match za0 b with
    | none=>decide (firstT b%8=1)
    | some (n,lo,hi)=>decide (firstT b%8=n+1∧accLo (firstT b/16)=lo∧accHi (firstT b/16)=hi∧1≤n∧n≤3)
theorem zam6:∀b:Fin 256,128≤b.val→zam4 b.val=true:=by decide +kernel
theorem zam5 {b:Nat} (h0:128≤b) (h1:b<256) (h:za0 b=none):firstT b%8=1:=by
 have:=zam6 ⟨b,h1⟩ h0;simpa [zam4,h] using this
theorem zam7 {b n lo hi:Nat} (h0:128≤b) (h1:b<256) (h:za0 b=some (n,lo,hi)):firstT b%8=n+1∧accLo (firstT b/16)=lo∧accHi (firstT b/16)=hi∧1≤n∧n≤3:=by
 have:=zam6 ⟨b,h1⟩ h0;simpa [zam4,h] using this
theorem zaov (n b1 b2 b3 lo hi:Nat):checkN n b1 b2 b3 2 lo hi=if n<2∨b1<lo∨hi<b1 then none else some 2:=by simp[checkN]
theorem zaow (n b1 b2 b3 lo hi:Nat):checkN n b1 b2 b3 3 lo hi=if n<3∨b1<lo∨hi<b1∨b2<128∨191<b2 then none else some 3:=by simp[checkN]
theorem zaox (n b1 b2 b3 lo hi:Nat):checkN n b1 b2 b3 4 lo hi=if n<4∨b1<lo∨hi<b1∨b2<128∨191<b2∨b3<128∨191<b3 then none else some 4:=by simp[checkN]
theorem zal2 (l:List UInt8):validD l=zch (runS st0 l):=by
  generalize hn:l.length=m
  induction m using Nat.strongRecOn generalizing l with
  | ind m ih =>
    match l with
    | []=>rfl
    | b0 :: t =>
      have hlt:=b0.toNat_lt;by_cases hb:b0.toNat<128
      · rw[validD_cons _ _ hb,ze2]
        have:zb7 st0 b0=st0:=by simp[zb7,st0,za0,hb]
        rw[this];exact ih t.length (by simp at hn;omega) t rfl
      · rw [validD_lead _ (by simp) (by simpa using hb),ze2]
        have hs:zb7 st0 b0=za0 b0.toNat:=rfl;rw[hs];simp only[List.getD_cons_zero,List.length_cons];cases ho:za0 b0.toNat with
        | none =>
          rw[zam5 (by omega) hlt ho,zalm];simp[checkN,zch]
        | some p =>
          obtain⟨n,lo,hi⟩:=p;obtain⟨h1,h2,h3,h4,h5⟩:=zam7 (by omega) hlt ho;rw[h1,h2,h3];rcases(show n=1∨n=2∨n=3 by omega) with rfl|rfl|rfl
          · rw[zaov]
            match t with
            | []=>rw[if_pos (by simp)];rfl
            | c1::t' =>
              have:=ih t'.length (by simp at hn;omega) t' rfl;simp only[ze2,zb7,List.getD_cons_succ,List.getD_cons_zero,List.length_cons];by_cases q1:c1.toNat<lo∨hi<c1.toNat
              · rw[if_pos (by omega),if_pos q1,zalm];rfl
              · rw[if_neg (by omega),if_neg q1];exact this
          · rw [zaow]
            match t with
            | []=>rw[if_pos (by simp)];rfl
            | [c1]=>rw[if_pos (by simp)];by_cases q1:c1.toNat<lo∨hi<c1.toNat <;>simp[zch,runS,zb7,q1]
            | c1::c2::t' =>
              have:=ih t'.length (by simp at hn;omega) t' rfl;simp only[ze2,zb7,List.getD_cons_succ,List.getD_cons_zero,List.length_cons];by_cases q1:c1.toNat<lo∨hi<c1.toNat
              · rw[if_pos (by omega),if_pos q1];simp only[];rw[zalm];rfl
              · rw[if_neg q1,if_neg (show¬(1=0) by decide)]
                simp only[];by_cases q2:c2.toNat<128∨191<c2.toNat
                · rw[if_pos (by omega),if_pos q2,zalm];rfl
                · rw[if_neg (by omega),if_neg q2];exact this
          · rw [zaox]
            match t with
            | []=>rw[if_pos (by simp)];rfl
            | [c1]=>rw[if_pos (by simp)];by_cases q1:c1.toNat<lo∨hi<c1.toNat <;>simp[zch,runS,zb7,q1]
            | [c1,c2]=>rw[if_pos (by simp)];by_cases q1:c1.toNat<lo∨hi<c1.toNat <;>by_cases q2:c2.toNat<128∨191<c2.toNat <;>simp[zch,runS,zb7,q1,q2]
            | c1::c2::c3::t' =>
              have:=ih t'.length (by simp at hn;omega) t' rfl;simp only[ze2,zb7,List.getD_cons_succ,List.getD_cons_zero,List.length_cons];by_cases q1:c1.toNat<lo∨hi<c1.toNat
              · rw[if_pos (by omega),if_pos q1];simp only[];rw[zalm];rfl
              · rw[if_neg q1,if_neg (show¬(2=0) by decide)]
                simp only[];by_cases q2:c2.toNat<128∨191<c2.toNat
                · rw[if_pos (by omega),if_pos q2];simp only[];rw[zalm];rfl
                · rw[if_neg q2,if_neg (show¬(1=0) by decide)]
                  simp only[];by_cases q3:c3.toNat<128∨191<c3.toNat
                  · rw[if_pos (by omega),if_pos q3,zalm];rfl
                  · rw[if_neg (by omega),if_neg q3];exact this
end
section
open Go.Lib
def zalo (D:Nat):Ci→List UInt8→Ci×List Ev
 | s,[]=>(s,[])
 | s,b::t=>((zalo D (za7 D s b).1 t).1,(za7 D s b).2++(zalo D (za7 D s b).1 t).2)
theorem zamf (D:Nat) (s:Ci) (a b:List UInt8):zalo D s (a++b)=((zalo D (zalo D s a).1 b).1,(zalo D s a).2++(zalo D (zalo D s a).1 b).2):=by
 induction a generalizing s with
 | nil=>simp[zalo]
 | cons x t ih=>simp only[List.cons_append,zalo,ih,List.append_assoc]
end
section
open Go.Lib
def runI:Ins→List UInt8→Ins×List UInt8
 | s,[]=>(s,[])
 | s,b::t=>((runI (zaq s b).1 t).1,(zaq s b).2++(runI (zaq s b).1 t).2)
theorem zanc (s:Ins) (b:UInt8) (t:List UInt8):runI s (b::t)=((runI (zaq s b).1 t).1,(zaq s b).2++(runI (zaq s b).1 t).2):=rfl
theorem zamd (s:Ins) (a b:List UInt8):runI s (a++b)=((runI (runI s a).1 b).1,(runI s a).2++(runI (runI s a).1 b).2):=by
 induction a generalizing s with
 | nil=>simp[runI]
 | cons x t ih=>simp only[List.cons_append,zanc,ih,List.append_assoc]
theorem zaof (s:Ins) (b:UInt8):runI s [b]=zaq s b:=by simp[runI]
theorem zapg (u:Bool) (l:List UInt8):runI (.bad u) l=(.bad u,[]):=by
 induction l with
 | nil=>rfl
 | cons b t ih=>rw[zanc];simp only[zaq,ih,List.append_nil]
def zaop:Ins→Prop
 | .text 0 lo hi=>lo=0∧hi=0
 | _=>True
theorem zaoj (s:Ins) (b:UInt8) (hs:zaop s):zaop (zaq s b).1:=by
  cases s with
  | bad u=>trivial
  | back =>
    simp only[zaq];split
    · exact⟨rfl,rfl⟩
    · split <;>trivial
  | hex k v =>
    simp only[zaq]
    repeat' split
    all_goals first | trivial|exact⟨rfl,rfl⟩
  | high h k w =>
    simp only[zaq]
    repeat' split
    all_goals first | trivial|exact⟨rfl,rfl⟩
  | text n lo hi =>
    simp only[zaq];split
    · trivial
    · split
      · trivial
      · cases h:zb7 (some (n,lo,hi)) b with
        | none=>trivial
        | some p =>
          obtain⟨m,lo',hi'⟩:=p;cases m with
          | succ m=>trivial
          | zero =>
            show lo'=0∧hi'=0;cases n with
            | zero=>exact zu1 _ _ _ _ h rfl
            | succ n =>
              simp only[zb7] at h
              repeat' split at h
              all_goals first |(simp only[Option.some.injEq,Prod.mk.injEq] at h;omega)|(cases h)
theorem zaoy (s:Ins) (l:List UInt8) (hs:zaop s):zaop (runI s l).1:=by
 induction l generalizing s with
 | nil=>exact hs
 | cons b t ih=>rw[zanc];exact ih _ (zaoj s b hs)
theorem zapq:∀b:Fin 128,runI insT (escB (UInt8.ofNat b.val))=(insT,[UInt8.ofNat b.val]):=by decide +kernel
theorem zao7 {n lo hi:Nat} {b:UInt8} (h:128≤b.toNat) {m lo' hi':Nat} (hs:zb7 (some (n,lo,hi)) b=some (m,lo',hi')):zaq (.text n lo hi) b=(.text m lo' hi',[b]):=by
 simp only[zaq];rw[if_neg (by omega),if_neg (by omega),hs]
theorem zapu (l:List UInt8) (n lo hi:Nat) (hc:zad1 (some (n,lo,hi))) (m lo' hi':Nat) (h:runS (some (n,lo,hi)) l=some (m,lo',hi')):runI (.text n lo hi) (escW l)=(.text m lo' hi',l):=by
  induction l generalizing n lo hi with
  | nil =>
    simp only[zami,Option.some.injEq,Prod.mk.injEq] at h;obtain⟨rfl,rfl,rfl⟩:=h;rfl
  | cons b t ih =>
    rw[ze2] at h;have hcs:=zub _ b hc;cases hs:zb7 (some (n,lo,hi)) b with
    | none=>rw[hs,zalm] at h;cases h
    | some p =>
      obtain⟨q,qlo,qhi⟩:=p;rw[hs] at h hcs;have ht:=ih q qlo qhi hcs h;rw[zi7,zamd];by_cases hb:128≤b.toNat
      · rw[zafd hb,zaof,zao7 hb hs]
        simp only[ht,List.singleton_append]
      · have hl:=zapq ⟨b.toNat,by omega⟩
        simp only[UInt8.ofNat_toNat] at hl;cases n with
        | zero =>
          obtain⟨rfl,rfl⟩:=hc;have:zb7 (some (0,0,0)) b=some (0,0,0):=by simp[zb7,za0,show b.toNat<128 by omega]
          rw[this] at hs;simp only[Option.some.injEq,Prod.mk.injEq] at hs;obtain⟨rfl,rfl,rfl⟩:=hs;have hl':runI (.text 0 0 0) (escB b)=(.text 0 0 0,[b]):=hl;rw[hl'];simp only[ht,List.singleton_append]
        | succ n =>
          obtain⟨h1,_⟩:=hc;simp only[zb7] at hs;rw[if_pos (by omega)] at hs;cases hs
theorem zam1 (l:List UInt8) (h:validD l=true):runI insT (escW l)=(insT,l):=by
  rw[zal2] at h;cases hr:runS st0 l with
  | none=>rw[hr] at h;cases h
  | some p =>
    obtain⟨m,lo,hi⟩:=p;have hx:=zapu l 0 0 0 ⟨rfl,rfl⟩ m lo hi hr;have hg:zaop (runI insT (escW l)).1:=zaoy insT _ ⟨rfl,rfl⟩;rw[hr] at h;cases m with
    | succ m=>cases h
    | zero =>
      have hx':runI insT (escW l)=(.text 0 lo hi,l):=hx;rw[hx'] at hg ⊢;obtain⟨rfl,rfl⟩:=hg;rfl
end
section
open Go.Lib
def runX:Lx→List UInt8→Lx×List Tk
 | s,[]=>(s,[])
 | s,b::t=>((runX (zak s b).1 t).1,(zak s b).2++(runX (zak s b).1 t).2)
theorem zamu (s:Lx) (b:UInt8) (t:List UInt8):runX s (b::t)=((runX (zak s b).1 t).1,(zak s b).2++(runX (zak s b).1 t).2):=rfl
theorem zan6 (s:Lx) (a b:List UInt8):runX s (a++b)=((runX (runX s a).1 b).1,(runX s a).2++(runX (runX s a).1 b).2):=by
 induction a generalizing s with
 | nil=>simp[runX]
 | cons x t ih=>simp only[List.cons_append,zamu,ih,List.append_assoc]
theorem zao3 (s:Lx) (l:List UInt8) (i:Nat) (h:i<l.length):runX s (l.take (i+1))=((zak (runX s (l.take i)).1 l[i]).1,(runX s (l.take i)).2++(zak (runX s (l.take i)).1 l[i]).2):=by
 rw[List.take_add_one,List.getElem?_eq_getElem h,zan6];simp[runX]
theorem zapi (e:Nat) (l:List UInt8):runX (.bad e) l=(.bad e,[]):=by
 induction l with
 | nil=>rfl
 | cons b t ih=>rw[zamu];simp only[zak,ih,List.append_nil]
theorem zapy (l k:List UInt8) (r:List UInt8) (h:runI insT (l++k)=(insT,r)):insE (runI insT l).1=0∧∃q,r=(runI insT l).2++q:=by
  rw[zamd] at h;simp only[Prod.mk.injEq] at h;refine⟨?_,_,h.2.symm⟩;cases hs:(runI insT l).1 with
  | bad u =>
    rw[hs,zapg] at h;cases h.1
  | text _ _ _=>rfl
  | back=>rfl
  | hex _ _=>rfl
  | high _ _ _=>rfl
theorem zan8 (s:Ins) (b:UInt8) (hw:zhe s=true) (hb:b.toNat=34):insE (zaq s b).1≠0:=by
  cases s with
  | text n lo hi =>
    cases n with
    | zero=>simp only[zaq];rw[if_pos (.inl hb)];decide
    | succ n=>cases hw
  | back=>cases hw
  | hex _ _=>cases hw
  | high _ _ _=>cases hw
  | bad _=>cases hw
def strX (p:Ins×List UInt8):Lx:=if 200<p.2.length then .bad 5 else .str p.1 p.2
theorem zapl (l k r:List UInt8) (b:UInt8) (h:runI insT (l++b::k)=(insT,r)):zak (.str (runI insT l).1 (runI insT l).2) b=(strX (runI insT (l++[b])),[]):=by
 have h1:l++b::k=(l++[b])++k:=by simp
 have hm:=(zapy (l++[b]) k r (by rw[← h1];exact h)).1;have hs:runI insT (l++[b])=((zaq (runI insT l).1 b).1,(runI insT l).2++(zaq (runI insT l).1 b).2):=by rw[zamd,zaof]
 rw[hs] at hm ⊢;simp only at hm;simp only[zak,strX];rw[if_neg (fun hq=>zan8 _ _ hq.2 hq.1 hm),if_neg (fun hq=>hq hm)];split <;>rfl
theorem zapw (w r:List UInt8) (h:runI insT w=(insT,r)):∀i,i≤w.length→runX (.str insT []) (w.take i)=(strX (runI insT (w.take i)),[]):=by
  intro i
  induction i with
  | zero=>intro _;rfl
  | succ i ih =>
    intro hi;have ih:=ih (by omega);rw[zao3 _ _ _ hi,ih];have hw:w=w.take i++w[i]::w.drop (i+1):=by rw[List.getElem_cons_drop,List.take_append_drop]
    have ht:w.take (i+1)=w.take i++[w[i]]:=by rw[List.take_add_one,List.getElem?_eq_getElem hi];rfl
    rw[ht];unfold strX;by_cases hl:200<(runI insT (w.take i)).2.length
    · rw[if_pos hl]
      have:200<(runI insT (w.take i++[w[i]])).2.length:=by
        rw[zamd];simp only[List.length_append];omega
      rw[if_pos this];rfl
    · rw[if_neg hl]
      have:=zapl (w.take i) (w.drop (i+1)) r w[i] (by rw[← hw];exact h);simp only[this];rfl
theorem zaoe (l:List UInt8) (hv:validD l=true) (i:Nat) (hi:i≤(escW l).length):runX .idle ((34::escW l).take (i+1))=(strX (runI insT ((escW l).take i)),[]):=by
 have h:=zapw (escW l) l (zam1 l hv) i hi;rw[List.take_succ_cons,zamu,show zak .idle 34=(.str insT [],[]) from rfl,h];rfl
end
section
open Go.Lib
def runJ (D:Nat):Js→List UInt8→Js×List Ev
 | s,[]=>(s,[])
 | s,b::t=>((runJ D (zel D s b).1 t).1,(zel D s b).2++(runJ D (zel D s b).1 t).2)
theorem zand (D:Nat) (s:Js) (a b:List UInt8):runJ D s (a++b)=((runJ D (runJ D s a).1 b).1,(runJ D s a).2++(runJ D (runJ D s a).1 b).2):=by
 induction a generalizing s with
 | nil=>simp[runJ]
 | cons x t ih=>simp only[List.cons_append,runJ,ih,List.append_assoc]
theorem zane (D:Nat) (st:List FrJ) (dn:Bool):∀(bs:List UInt8) (lx lx':Lx),runX lx bs=(lx',[])→badX lx'=none→runJ D ⟨lx,.at_ st dn⟩ bs=(⟨lx',.at_ st dn⟩,[])
  | [],lx,lx',h,_=>by
    simp only[runX,Prod.mk.injEq] at h;rw[h.1];rfl
  | b :: bs,lx,lx',h,hb=>by
    rw [zamu] at h;simp only[Prod.mk.injEq,List.append_eq_nil_iff] at h;obtain⟨h1,h2,h3⟩:=h;have hg:badX (zak lx b).1=none:=by
      cases hs:(zak lx b).1 with
      | bad e =>
        rw[hs,zapi] at h1;simp only at h1;rw[← h1] at hb;cases hb
      | idle=>rfl
      | str _ _=>rfl
      | num _=>rfl
      | word _ _=>rfl
    have hst:zel D ⟨lx,.at_ st dn⟩ b=(⟨(zak lx b).1,.at_ st dn⟩,[]):=by
      simp only[zel,hg,h2,zaw]
    have ih:=zane D st dn bs (zak lx b).1 lx' (by rw[← h1,← h3]) hb;simp only[runJ,hst,ih,List.append_nil]
theorem zaoo (D:Nat) (st:List FrJ) (dn:Bool) (lx:Lx) (b:UInt8) (ts:List Tk) (h:zak lx b=(.idle,ts)):zel D ⟨lx,.at_ st dn⟩ b=(⟨.idle,(zaw D (.at_ st dn) ts).1⟩,(zaw D (.at_ st dn) ts).2):=by
 simp only[zel,h,badX]
theorem zaph (D:Nat) (s:Js) (b:UInt8):runJ D s [b]=zel D s b:=by simp[runJ]
theorem zao5 (D:Nat) (st:List FrJ) (dn:Bool) (bs:List UInt8) (b:UInt8) (lx':Lx) (t:Tk) (h:runX .idle bs=(lx',[])) (hb:badX lx'=none) (hs:zak lx' b=(.idle,[t])) :
  runJ D ⟨.idle,.at_ st dn⟩ (bs++[b])=(⟨.idle,(tokJ D (.at_ st dn) t).1⟩,(tokJ D (.at_ st dn) t).2):=by
 rw[zand,zane D st dn bs .idle lx' h hb,zaph,zaoo D st dn lx' b [t] hs,zab6];simp
theorem zapv (D:Nat) (st:List FrJ) (dn:Bool) (t:List UInt8) (hv:validD t=true) (hl:t.length≤200) :
  runJ D ⟨.idle,.at_ st dn⟩ (34::escW t++[34])=(⟨.idle,(strJ st dn t).1⟩,(strJ st dn t).2):=by
 have h:=zaoe t hv (escW t).length (Nat.le_refl _);rw[List.take_of_length_le (by simp),List.take_of_length_le (Nat.le_refl _),zam1 t hv] at h;unfold strX at h;rw[if_neg (by simp only;omega)] at h;rw[zao5 D st dn (34::escW t) 34 _ ⟨115,t,(false,0)⟩ h rfl rfl];rfl
end
section
open Go.Lib
theorem zamr {D:Nat} {s:List Bx} {m l:Nat} (hm:m<6) (hl:l<28∨l=31∧2≤m) (hk:keyB s=true→m=3) (hd:4≤m→s.length<D):zi6 D s false (m*32+l)=zgw s (zah .new (m*32+l)):=by
 have e1:(m*32+l)/32=m:=by omega
 have e2:(m*32+l)%32=l:=by omega
 unfold zi6;rw[e1,e2];rw[if_neg (by rintro (h|h|h);cases h;omega;omega),if_neg (by omega),if_neg (fun h=>h.2 (hk h.1)),if_neg (by omega),if_neg (by omega),if_neg (by omega)]
theorem zank {D:Nat} {j j':Ci} {b:UInt8} {ps:List Ev} (h:za7 D j b=(j',ps)):zalo D j [b]=(j',ps):=by
 simp only[zalo,h,List.append_nil]
theorem zams (D:Nat) (s:List Bx) (m:Nat):∀(l:List UInt8) (a:Nat),l≠[]→zalo D (.head s (.mid m l.length a)) l=zgw s (.fin m (valB a l) false)
  | [],_,h=>absurd rfl h
  | [b],a,_=>by
    have h1:zah (.mid m [b].length a) b.toNat= .fin m (a*256+b.toNat) false:=by simp[zah]
    have h2:za7 D (.head s (.mid m [b].length a)) b=zgw s (.fin m (a*256+b.toNat) false):=by
      show zgw s (zah (.mid m [b].length a) b.toNat)=_;rw[h1]
    exact zank h2
  | b :: c::t,a,_=>by
    have h1:za7 D (.head s (.mid m (b::c::t).length a)) b=(.head s (.mid m (c::t).length (a*256+b.toNat)),[]):=by
      simp only[za7,zah];rw[if_neg (by simp)];simp[zgw]
    rw[zalo,h1];simp only[List.nil_append];rw[zams D s m (c::t) _ (by simp)];simp only[valB]
theorem zalz (n:Nat) (h:n<256):(UInt8.ofNat n).toNat=n:=by simp;omega
theorem zamt {D:Nat} {s:List Bx} {m v:Nat} (hm:m<6) (hv:v<18446744073709551616) (hk:keyB s=true→m=3) (hd:4≤m→s.length<D):zalo D (.item s false) (zcd m v)=zgw s (.fin m v false):=by
 have hlong:∀k:Nat,k<4→v<256^2^k→zalo D (.item s false) (UInt8.ofNat (m*32+(24+k))::bigB (2^k) v)=zgw s (.fin m v false):=by
  intro k hk4 hvk;have h1:za7 D (.item s false) (UInt8.ofNat (m*32+(24+k)))=(.head s (.mid m (2^k) 0),[]):=by
   simp only[za7];rw[zalz _ (by omega),zamr hm (.inl (by omega)) hk hd];have:=zal6 m (24+k) (by omega) (by omega);rw[zalz _ (by omega)] at this;rw[this,if_neg (by omega),if_pos (by omega),show 24+k-24=k by omega];rfl
  rw[zalo,h1];simp only[List.nil_append];have h2:=zams D s m (bigB (2^k) v) 0 (by intro h;have:=congrArg List.length h;rw[zbo] at this;simp at this);rw[zbo,zamx,Nat.mod_eq_of_lt hvk] at h2;rw[h2]
 unfold zcd;rcases ztl v hv with ⟨h,e⟩|⟨h,e⟩|⟨h,e⟩|⟨h,e⟩|⟨h,e⟩ <;>rw[e]
 ·simp only[bigB]
  rw[zalo];have h1:za7 D (.item s false) (UInt8.ofNat (m*32+v))=zgw s (.fin m v false):=by
   simp only[za7];rw[zalz _ (by omega),zamr hm (.inl (by omega)) hk hd];have:=zal6 m v (by omega) (by omega);rw[zalz _ (by omega),if_pos h] at this;rw[this]
  rw[h1];simp only[zalo,List.append_nil]
 ·exact hlong 0 (by decide) (by simp;omega)
 ·exact hlong 1 (by decide) (by simp;omega)
 ·exact hlong 2 (by decide) (by simp;omega)
 ·exact hlong 3 (by decide) (by simp;omega)
theorem zamh (D:Nat) (s:List Bx) (m:Bool):∀(l t:List UInt8) (u:Option (Nat×Nat×Nat)),l≠[]→(m=true→zch (runS u l)=true)→zalo D (.text s m l.length t u) l=putC s (zby m (t++l))
  | [],_,_,h,_=>absurd rfl h
  | b :: l,t,u,_,hw=>by
    have hn:¬(m=true∧zbq m u b=none):=by
      rintro ⟨rfl,h⟩;have:=hw rfl;simp only[zbq,if_true] at h;rw[ze2,h,zalm] at this;cases this
    cases l with
    | nil =>
      have h2:¬(m=true∧zch (zbq m u b)=false):=by
        rintro ⟨rfl,h⟩;have:=hw rfl;simp only[zbq,if_true] at h;rw[ze2,zami,h] at this;cases this
      have h1:za7 D (.text s m [b].length t u) b=putC s (zby m (t++[b])):=by
        simp only[za7];rw[if_neg hn,if_pos (by simp),if_neg h2]
      rw[zalo,h1];simp only[zalo,List.append_nil]
    | cons c l =>
      have h1:za7 D (.text s m (b::c::l).length t u) b=(.text s m (c::l).length (t++[b]) (zbq m u b),[]):=by
        simp only[za7];rw[if_neg hn,if_neg (by simp)];rfl
      rw[zalo,h1];simp only[List.nil_append];rw[zamh D s m (c::l) (t++[b]) (zbq m u b) (by simp) (by rintro rfl;have:=hw rfl;rw[ze2] at this;exact this)];simp
end
section
open Go.Lib
theorem zaot (n:Nat) (c:UInt8) (h:c.toNat<128):runS st0 (List.replicate n c)=st0:=by
  induction n with
  | zero=>rfl
  | succ n ih =>
    rw[List.replicate_succ,ze2];have:zb7 st0 c=st0:=by
      simp only[zb7,st0,za0];simp[h]
    rw[this,ih]
def majT (m:Bool):Nat:=if m=true then 3 else 2
theorem zanu (m:Bool):majT m<6:=by cases m <;>decide
theorem zam3 {s:List Bx} (m:Bool) {v:Nat} (hv:v≤200):zgw s (.fin (majT m) v false)=if v=0 then putC s (zby m []) else(.text s m v [] st0,[]):=by
 have hd:decide (majT m=3)=m:=by cases m <;>rfl
 have h2:¬majT m<2:=by cases m <;>decide
 have h4:majT m<4:=by cases m <;>decide
 unfold zgw;simp only;rw[if_neg h2,if_pos h4,if_neg (by simp),if_neg (by omega),hd]
theorem zaok {s:List Bx} (m:Bool) {v:Nat} (hv:200<v):zgw s (.fin (majT m) v false)=(.bad 5,[]):=by
 have h2:¬majT m<2:=by cases m <;>decide
 have h4:majT m<4:=by cases m <;>decide
 unfold zgw;simp only;rw[if_neg h2,if_pos h4,if_neg (by simp),if_pos hv]
end
section
open Go.RowKit
open Go.Lib
end
section
open Go.RowKit
open Go.Lib
theorem zao6 (s:ByteArray) (k:Nat) (h:k<s.size) (x:UInt8) (hx:s[k]'h=x) (W:World):(Instr.slice 9 (.string s) (some (.int .i64 (k:Int))) (some (.int .i64 ((k:Int)+1))) none).run Tryz.prog W= .ok (.string ⟨#[x]⟩) W:=by
 have h1:=zol s k (k+1) (by omega) (by omega) W;rw[show(((k+1:Nat):Int))=(k:Int)+1 by omega] at h1;rw[h1];have:s.extract k (k+1)=⟨#[x]⟩:=by
  apply ByteArray.ext;apply Array.ext';rw[ze6,List.take_add_one,List.getElem?_eq_getElem (by rw[zb3];exact h),List.drop_append_of_le_length (by rw[List.length_take,zb3];omega)];have:s.data.toList[k]'(by rw[zb3];exact h)=x:=hx;rw[this,List.drop_of_length_le (by rw[List.length_take,zb3];omega)];rfl
 rw[this]
theorem zaoz:∀(n:Fin 16) (h:n.val<(⟨#[48,49,50,51,52,53,54,55,56,57,97,98,99,100,101,102]⟩:ByteArray).size),(⟨#[48,49,50,51,52,53,54,55,56,57,97,98,99,100,101,102]⟩:ByteArray)[n.val]'h=hexD n.val:=by decide +kernel
def WrM (l:List UInt8) (q:Nat) (T:ByteArray):Prop:=T=⟨(escW (l.take q)).toArray⟩
theorem zapn {l:List UInt8} {q:Nat} {T:ByteArray} (h:WrM l q T):T.size≤6*q:=by
 rw[h,zbd];have:=zht (l.take q);rw[List.length_take] at this;omega
theorem zapm {l:List UInt8} {q:Nat} {T:ByteArray} (h:WrM l q T) (hq:q<l.length) {x:UInt8} (hx:l[q]=x):WrM l (q+1) (T++⟨(escB x).toArray⟩):=by
 unfold WrM at h ⊢;rw[h,zc8,List.take_add_one,List.getElem?_eq_getElem hq,hx,zib];simp[escW]
theorem zaon (S:ByteArray) (hS:S.size≤1000) (w:World) :
    Calls Tryz.prog 49 #[.string S] w fun e w'=>e= .returned (.string ⟨(escW S.data.toList).toArray⟩)∧Below w.heap.size w w':=by
  obtain⟨R,hR⟩:∃R:ByteArray,(⟨(escW S.data.toList).toArray⟩:ByteArray)=R:=⟨_,rfl⟩
  rw[hR];have HR:=hid hR;clear hR;go_enter Tryz.func49,Tryz.ntmps49;go_wp2
  go_loopw [3,4,5] (fun t i _ wr=>∃(q:Nat) (T:ByteArray),t= .string T∧i= .int .i64 q∧q≤S.size∧Hid (WrM S.data.toList q T∧Below w.heap.size w wr)) (fun _ i _ _=>S.size-(RowKit.intOf i).toNat)
  case atStart=>exact⟨0,⟨#[]⟩,rfl,rfl,by omega,hid ⟨rfl,Below.refl _ _⟩⟩
  case round =>
    obtain⟨q,T,rfl,rfl,hq,HM⟩:=hrel;have hT6:T.size≤6000:=by have:=zapn HM.out.1;omega
    by_cases hlt:q<S.size
    · obtain⟨x,hx⟩:∃x,S[q]'hlt=x:=⟨_,rfl⟩
      have hql:q<S.data.toList.length:=by rw[zb3];exact hlt
      have hlq:S.data.toList[q]=x:=hx;have HN:=hid (zapm HM.out.1 hql hlq);have HB:=hid HM.out.2;have hsl:=zao6 S q hlt x hx;clear HM hql hlq;by_cases c1:x.toNat=34∨x.toNat=92
      · have he:escB x=[92,x]:=by unfold escB;rw[if_pos c1]
        obtain⟨X,hX⟩:∃X:ByteArray,(⟨#[x]⟩:ByteArray)=X:=⟨_,rfl⟩
        obtain⟨U,hU⟩:∃U:ByteArray,T++⟨#[92]⟩=U:=⟨_,rfl⟩
        obtain⟨Z,hZ⟩:∃Z:ByteArray,U++X=Z:=⟨_,rfl⟩
        have hXs:X.size=1:=by rw[← hX];rfl
        have hUs:U.size≤6001:=by rw[← hU,ByteArray.size_append];show T.size+1≤6001;omega
        have HNZ:Hid (WrM S.data.toList (q+1) Z):=hid (by
          have h:=HN.out;rw[he] at h;rw[← hZ,← hU,← hX,ByteArray.append_assoc];exact h)
        simp only[hX] at hsl;clear hX he HN;rcases c1 with c1|c1
        · have n34:((x.toNat:Int)==34)=true:=by rw[beq_iff_eq];omega
          clear c1;go_wp2
          go_roundw
          case rel=>exact⟨q+1,Z,rfl,by go_num,by omega,hid ⟨HNZ.out,HB.out⟩⟩
          case measure=>simp[RowKit.intOf];omega
        · have n34:((x.toNat:Int)==34)=false:=by rw[beq_eq_false_iff_ne];omega
          have n92:((x.toNat:Int)==92)=true:=by rw[beq_iff_eq];omega
          clear c1;go_wp2
          go_roundw
          case rel=>exact⟨q+1,Z,rfl,by go_num,by omega,hid ⟨HNZ.out,HB.out⟩⟩
          case measure=>simp[RowKit.intOf];omega
      have n34:((x.toNat:Int)==34)=false:=by rw[beq_eq_false_iff_ne];omega
      have n92:((x.toNat:Int)==92)=false:=by rw[beq_eq_false_iff_ne];omega
      by_cases k8:x.toNat=8
      · have n8:((x.toNat:Int)==8)=true:=by rw[beq_iff_eq];omega
        have he:escB x=[92,98]:=by unfold escB;rw[if_neg c1];rw[if_pos k8]
        obtain⟨Z,hZ⟩:∃Z:ByteArray,T++⟨#[92,98]⟩=Z:=⟨_,rfl⟩
        have HNZ:Hid (WrM S.data.toList (q+1) Z):=hid (by
          have h:=HN.out;rw[he] at h;rw[← hZ];exact h)
        clear hsl he HN c1 k8;go_wp2
        go_roundw
        case rel=>exact⟨q+1,Z,rfl,by go_num,by omega,hid ⟨HNZ.out,HB.out⟩⟩
        case measure=>simp[RowKit.intOf];omega
      have n8:((x.toNat:Int)==8)=false:=by rw[beq_eq_false_iff_ne];omega
      by_cases k12:x.toNat=12
      · have n12:((x.toNat:Int)==12)=true:=by rw[beq_iff_eq];omega
        have he:escB x=[92,102]:=by unfold escB;rw[if_neg c1];rw[if_neg k8];rw[if_pos k12]
        obtain⟨Z,hZ⟩:∃Z:ByteArray,T++⟨#[92,102]⟩=Z:=⟨_,rfl⟩
        have HNZ:Hid (WrM S.data.toList (q+1) Z):=hid (by
          have h:=HN.out;rw[he] at h;rw[← hZ];exact h)
        clear hsl he HN c1 k8 k12;go_wp2
        go_roundw
        case rel=>exact⟨q+1,Z,rfl,by go_num,by omega,hid ⟨HNZ.out,HB.out⟩⟩
        case measure=>simp[RowKit.intOf];omega
      have n12:((x.toNat:Int)==12)=false:=by rw[beq_eq_false_iff_ne];omega
      by_cases k10:x.toNat=10
      · have n10:((x.toNat:Int)==10)=true:=by rw[beq_iff_eq];omega
        have he:escB x=[92,110]:=by unfold escB;rw[if_neg c1];rw[if_neg k8];rw[if_neg k12];rw[if_pos k10]
        obtain⟨Z,hZ⟩:∃Z:ByteArray,T++⟨#[92,110]⟩=Z:=⟨_,rfl⟩
        have HNZ:Hid (WrM S.data.toList (q+1) Z):=hid (by
          have h:=HN.out;rw[he] at h;rw[← hZ];exact h)
        clear hsl he HN c1 k8 k12 k10;go_wp2
        go_roundw
        case rel=>exact⟨q+1,Z,rfl,by go_num,by omega,hid ⟨HNZ.out,HB.out⟩⟩
        case measure=>simp[RowKit.intOf];omega
      have n10:((x.toNat:Int)==10)=false:=by rw[beq_eq_false_iff_ne];omega
      by_cases k13:x.toNat=13
      · have n13:((x.toNat:Int)==13)=true:=by rw[beq_iff_eq];omega
        have he:escB x=[92,114]:=by unfold escB;rw[if_neg c1];rw[if_neg k8];rw[if_neg k12];rw[if_neg k10];rw[if_pos k13]
        obtain⟨Z,hZ⟩:∃Z:ByteArray,T++⟨#[92,114]⟩=Z:=⟨_,rfl⟩
        have HNZ:Hid (WrM S.data.toList (q+1) Z):=hid (by
          have h:=HN.out;rw[he] at h;rw[← hZ];exact h)
        clear hsl he HN c1 k8 k12 k10 k13;go_wp2
        go_roundw
        case rel=>exact⟨q+1,Z,rfl,by go_num,by omega,hid ⟨HNZ.out,HB.out⟩⟩
        case measure=>simp[RowKit.intOf];omega
      have n13:((x.toNat:Int)==13)=false:=by rw[beq_eq_false_iff_ne];omega
      by_cases k9:x.toNat=9
      · have n9:((x.toNat:Int)==9)=true:=by rw[beq_iff_eq];omega
        have he:escB x=[92,116]:=by unfold escB;rw[if_neg c1];rw[if_neg k8];rw[if_neg k12];rw[if_neg k10];rw[if_neg k13];rw[if_pos k9]
        obtain⟨Z,hZ⟩:∃Z:ByteArray,T++⟨#[92,116]⟩=Z:=⟨_,rfl⟩
        have HNZ:Hid (WrM S.data.toList (q+1) Z):=hid (by
          have h:=HN.out;rw[he] at h;rw[← hZ];exact h)
        clear hsl he HN c1 k8 k12 k10 k13 k9;go_wp2
        go_roundw
        case rel=>exact⟨q+1,Z,rfl,by go_num,by omega,hid ⟨HNZ.out,HB.out⟩⟩
        case measure=>simp[RowKit.intOf];omega
      have n9:((x.toNat:Int)==9)=false:=by rw[beq_eq_false_iff_ne];omega
      by_cases k32:x.toNat<32
      · have n32:(((x.toNat:Nat):Int)<32)=True:=by simp only[eq_iff_iff,iff_true];omega
        have he:escB x=[92,117,48,48,hexD (x.toNat/16),hexD (x.toNat%16)]:=by unfold escB;rw[if_neg c1];rw[if_neg k8];rw[if_neg k12];rw[if_neg k10];rw[if_neg k13];rw[if_neg k9];rw[if_pos k32]
        obtain⟨U,hU⟩:∃U:ByteArray,T++⟨#[92,117,48,48]⟩=U:=⟨_,rfl⟩
        obtain⟨H,hH⟩:∃H:ByteArray,(⟨#[hexD (x.toNat/16),hexD (x.toNat%16)]⟩:ByteArray)=H:=⟨_,rfl⟩
        obtain⟨Z,hZ⟩:∃Z:ByteArray,U++H=Z:=⟨_,rfl⟩
        have hHs:H.size=2:=by rw[← hH];rfl
        have hUs:U.size≤6004:=by rw[← hU,ByteArray.size_append];show T.size+4≤6004;omega
        have HNZ:Hid (WrM S.data.toList (q+1) Z):=hid (by
          have h:=HN.out;rw[he] at h;rw[← hZ,← hU,← hH,ByteArray.append_assoc];exact h)
        have hcv:∀W:World,(convert 30 9 (.slice (some ⟨W.heap.size,0,none⟩) 2 2)).run Tryz.prog (W.alloc (.cells #[.int .u8 (hexD (x.toNat/16)).toNat,.int .u8 (hexD (x.toNat%16)).toNat] 5))= .ok (.string H) (W.alloc (.cells #[.int .u8 (hexD (x.toNat/16)).toNat,.int .u8 (hexD (x.toNat%16)).toNat] 5)) :=
          fun W=>zhu W [hexD (x.toNat/16),hexD (x.toNat%16)] _ 2 rfl rfl H hH.symm
        have hd:x.toNat%16<16:=by omega
        have hda:x.toNat/16<16:=by omega
        have h1:∀h,(⟨#[48,49,50,51,52,53,54,55,56,57,97,98,99,100,101,102]⟩:ByteArray)[x.toNat/16]'h=hexD (x.toNat/16):=fun h=>zaoz ⟨x.toNat/16,by omega⟩ h
        have h2:∀h,(⟨#[48,49,50,51,52,53,54,55,56,57,97,98,99,100,101,102]⟩:ByteArray)[x.toNat%16]'h=hexD (x.toNat%16):=fun h=>zaoz ⟨x.toNat%16,hd⟩ h
        clear hsl he HN c1 k8 k12 k10 k13 k9 k32 hH;obtain⟨a,hae⟩:∃a,x.toNat/16=a:=⟨_,rfl⟩
        obtain⟨d,hde⟩:∃d,x.toNat%16=d:=⟨_,rfl⟩
        have i1:(x.toNat:Int)/16=(a:Int):=by omega
        have i2:(x.toNat:Int)%16=(d:Int):=by omega
        rw[hae] at hcv h1 hda;rw[hde] at hcv h2 hd;generalize hexD a=A at *
        generalize hexD d=D at *
        have z1:¬9223372036854775807<T.size+4:=by omega
        have z2:¬9223372036854775807<U.size+H.size:=by omega
        have z3:¬9223372036854775807<U.size+2:=by omega
        have hcd:∀W:World,(convert 30 9 (.slice (some ⟨W.heap.size,0,none⟩) 2 2)).run Tryz.prog ((W.alloc (.cells #[.int .u8 A.toNat,.int .u8 D.toNat] 5)).drew)= .ok (.string H) ((W.alloc (.cells #[.int .u8 A.toNat,.int .u8 D.toNat] 5)).drew):=fun W=>hcv W.drew
        clear hae hde;go_wp2
        go_region
        go_wp2
        go_roundw
        case rel=>exact⟨q+1,Z,rfl,by go_num,by omega,hid ⟨HNZ.out,zbj (HB.out.alloc HB.out.size _)⟩⟩
        case measure=>simp[RowKit.intOf];omega
      have n32:(((x.toNat:Nat):Int)<32)=False:=by simp only[eq_iff_iff,iff_false];omega
      have he:escB x=[x]:=by unfold escB;rw[if_neg c1];rw[if_neg k8];rw[if_neg k12];rw[if_neg k10];rw[if_neg k13];rw[if_neg k9];rw[if_neg k32]
      obtain⟨X,hX⟩:∃X:ByteArray,(⟨#[x]⟩:ByteArray)=X:=⟨_,rfl⟩
      obtain⟨Z,hZ⟩:∃Z:ByteArray,T++X=Z:=⟨_,rfl⟩
      have hXs:X.size=1:=by rw[← hX];rfl
      have HNZ:Hid (WrM S.data.toList (q+1) Z):=hid (by
        have h:=HN.out;rw[he] at h;rw[← hZ,← hX];exact h)
      simp only[hX] at hsl;clear hX he HN c1 k8 k12 k10 k13 k9 k32;go_wp2
      go_roundw
      case rel=>exact⟨q+1,Z,rfl,by go_num,by omega,hid ⟨HNZ.out,HB.out⟩⟩
      case measure=>simp[RowKit.intOf];omega
    · have hTR:T=R:=by
        rw[← HR.out,HM.out.1,List.take_of_length_le (by rw[zb3];omega)]
      have HB:=hid (And.intro hTR HM.out.2);clear HM hTR;go_wp2;go_ret;exact⟨by rw[HB.out.1];rfl,HB.out.2⟩
end
section
open Go.RowKit
open Go.Lib
end
section
open Go.RowKit
open Go.Lib
def zaoq:Prop:=∀(n:Int) (v:Nat),v<18446744073709551616→∀w:World,Calls Tryz.prog 33 #[.int .i64 n,.int .u64 v] w fun e w'=>e= .returned (.string ⟨(zcd (n%8).toNat v).toArray⟩)∧Below w.heap.size w w'
end
section
open Go.RowKit
open Go.Lib
structure Stk (M B:Nat) (w:World) (s:List Bx) (v:Value):Prop where
 win:Win w 68 3 v s.length (bxsL s)
 vB:∀k∈Value.owner v,B≤k
 ok:∀b∈s,(-1≤b.c∧b.c≤9223372036854775807)∧b.have_≤M
 deep:s.length≤800
 most:M≤1000
structure Bew (B b:Nat) (w w':World):Prop where
 os:w'.os=w.os
 tape:w'.tape=w.tape
 output:w'.output=w.output
 size:w.heap.size≤w'.heap.size
 block:∀k,k<B→k≠b→w'.heap[k]? = w.heap[k]?
theorem _root_.Go.RowKit.Below.bew {B b:Nat} {w w':World} (h:Below B w w'):Bew B b w w':=⟨h.os,h.tape,h.output,h.size,fun k hk _=>h.block k hk⟩
theorem Bew.trans {B b:Nat} {w w1 w2:World} (h:Bew B b w w1) (k:Bew B b w1 w2):Bew B b w w2 :=
 ⟨k.os.trans h.os,k.tape.trans h.tape,k.output.trans h.output,Nat.le_trans h.size k.size,fun i hi hb=>(k.block i hi hb).trans (h.block i hi hb)⟩
theorem Bew.set {B b:Nat} {w w':World} (h:Bew B b w w') (i:Nat) (v:Value):Bew B b w (w'.setCell ⟨b,i,none⟩ v) :=
 ⟨h.os,h.tape,h.output,Nat.le_trans h.size (by simp[World.setCell]),fun k hk hb=>(Below.heap_setCell w' ⟨b,i,none⟩ v k (fun e=>hb e)).trans (h.block k hk hb)⟩
theorem Bew.below {B C b:Nat} {w w':World} (h:Bew B b w w') (hC:C≤B) (hb:C≤b):Below C w w':=⟨h.os,h.tape,h.output,h.size,fun k hk=>h.block k (Nat.lt_of_lt_of_le hk hC) (by omega)⟩
theorem Stk.go {M B:Nat} {w w':World} {s:List Bx} {v:Value} (h:Stk M B w s v) (k:Below w.heap.size w w'):Stk M B w' s v :=
 ⟨h.win.keep fun g hg=>k.block g (h.win.lt g hg),h.vB,h.ok,h.deep,h.most⟩
end
section
open Go.RowKit
open Go.Lib
theorem zamn (e:Ev) (w:World):Calls Tryz.prog 32 #[evV e] w fun r w'=>r= .returned (.bool (decide (mayE e)))∧Below w.heap.size w w':=by
  obtain⟨k,y,m,t,c⟩:=e;have h1:=hid (zaa (Below.refl w.heap.size w) (.cells #[.int .i64 k,.bool y,.int .u64 m,.string t,.int .i64 c] 43));have q:∀n:Int,k≠n→(k !=n)=true:=fun n h=>by simpa using h
  simp only[evV];by_cases h0:0≤k
  · have t0 :(0≤k)=True:=by simp[h0]
    by_cases h7:k≤7
    · have t7:(k≤7)=True:=by simp[h7]
      by_cases h5:k=5
      · subst h5
        have hmm:mayE ⟨5,y,m,t,c⟩↔ -1≤c:=by unfold mayE;simp
        rw[decide_eq_decide.2 hmm];by_cases hc: -1≤c
        · have hc1:(-1≤c)=True:=by simp[hc]
          rw[decide_eq_true hc];clear hc hmm q t0 t7 h0 h7;go_enter Tryz.func32,Tryz.ntmps32;go_wp2;go_ret;exact⟨rfl,h1.out⟩
        · have hc1:(-1≤c)=False:=by simp;omega
          rw[decide_eq_false hc];clear hc hmm q t0 t7 h0 h7;go_enter Tryz.func32,Tryz.ntmps32;go_wp2;go_ret;exact⟨rfl,h1.out⟩
      · by_cases h6:k=6
        · subst h6
          have hmm:mayE ⟨6,y,m,t,c⟩↔ -1≤c:=by unfold mayE;simp
          rw[decide_eq_decide.2 hmm];by_cases hc: -1≤c
          · have hc1:(-1≤c)=True:=by simp[hc]
            rw[decide_eq_true hc];clear hc hmm q t0 t7 h0 h7;go_enter Tryz.func32,Tryz.ntmps32;go_wp2;go_ret;exact⟨rfl,h1.out⟩
          · have hc1:(-1≤c)=False:=by simp;omega
            rw[decide_eq_false hc];clear hc hmm q t0 t7 h0 h7;go_enter Tryz.func32,Tryz.ntmps32;go_wp2;go_ret;exact⟨rfl,h1.out⟩
        · have hm:mayE ⟨k,y,m,t,c⟩:=⟨h0,h7,fun h=>by simp only at h;omega⟩
          rw[decide_eq_true hm];have q5:=q 5 h5;have q6:=q 6 h6;clear q h5 h6 h0 h7 hm;go_enter Tryz.func32,Tryz.ntmps32;go_wp2
          all_goals go_ret
          all_goals exact⟨rfl,h1.out⟩
    · have t7:(k≤7)=False:=by simp;omega
      rw[decide_eq_false (fun h=>h7 h.2.1)];clear q h0 h7;go_enter Tryz.func32,Tryz.ntmps32;go_wp2
      all_goals go_ret
      all_goals exact⟨rfl,h1.out⟩
  · have t0:(0≤k)=False:=by simp;omega
    rw[decide_eq_false (fun h=>h0 h.1)];clear q h0;go_enter Tryz.func32,Tryz.ntmps32;go_wp2
    all_goals go_ret
    all_goals exact⟨rfl,h1.out⟩
end
end Go.Proofs.YtpaciekgbhoncaaGreat
