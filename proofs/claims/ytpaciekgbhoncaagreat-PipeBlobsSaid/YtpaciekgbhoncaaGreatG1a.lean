/-
  Parts: PinPm, PinWf, CinPc.
-/
import Derived.Test.YtpaciekgbhoncaaGreatG0i
import Derived.Test.YtpaciekgbhoncaaGreatHPinPb
import Derived.Test.YtpaciekgbhoncaaGreatHCinPb
import Derived.Deep.RegionHeld3
set_option maxRecDepth 100000
set_option maxHeartbeats 16000000
open Go.Lib (hid)
namespace Go.Proofs.YtpaciekgbhoncaaGreat
section
open Go.Lib
def kOf (K:Nat):Nat:=if K=1 then 0 else if K=3 then 1 else if K=7 then 2 else if K=8 then 3 else if K=9 then 4 else 5
def zg6 (D:Nat) (s:List Bx) (b:Nat):Pm×List Ev :=
 if refP D s (itK b)≠0 then(.c (.bad (refP D s (itK b))),[]) else if itF b=0 then begP s (itK b) (itN b) 0 else(.num s (kOf (itK b)) (2^(itF b-24)) (2^(itF b-24)) 0,[])
theorem it_0:∀b:Nat,b<256→(itK b=0↔b=193):=by decide +kernel
theorem it_8:∀b:Nat,b<256→(itK b=8↔zabd b=true):=by decide +kernel
theorem it_6:∀b:Nat,b<256→(itK b=6↔extP b=true):=by decide +kernel
theorem it_5:∀b:Nat,b<256→(itK b=5↔b=202∨b=203):=by decide +kernel
theorem it_c:∀b:Nat,b<256→((itK b=9∨itK b=10)↔zacz b=true):=by decide +kernel
theorem zagr:∀b:Nat,b<256→itK b≤10:=by decide +kernel
theorem zwg:∀b:Nat,b<256→(itF b=0∨((itF b=24∨itF b=25∨itF b=26∨itF b=27)∧(itK b=1∨itK b=3∨itK b=7∨itK b=8∨itK b=9∨itK b=10))):=by decide +kernel
theorem it_3:∀b:Nat,b<256→itK b=3→itF b≠0:=by decide +kernel
theorem zaji {K:Nat} (h:K=1∨K=3∨K=7∨K=8∨K=9∨K=10):kdK (kOf K)=K:=by
 rcases h with rfl|rfl|rfl|rfl|rfl|rfl <;>rfl
theorem zakn {f:Nat} (h:f=24∨f=25∨f=26∨f=27):fmW (2^(f-24))=f:=by
 rcases h with rfl|rfl|rfl|rfl <;>rfl
theorem zakt {q:Nat} (h:q=1∨q=2∨q=4∨q=8):2^(fmW q-24)=q∧24≤fmW q∧fmW q≤27:=by
 rcases h with rfl|rfl|rfl|rfl <;>decide
theorem zmr (D:Nat) (s:List Bx) (hl:s.length≤D) (b:Nat) (hb:b<256):zjo D s false b=zg6 D s b:=by
 unfold zjo zg6 refP;have i0:=it_0 b hb;have i8:=it_8 b hb;have i6:=it_6 b hb;have i5:=it_5 b hb;have ic:=it_c b hb;by_cases h1:b=193
 ·rw[if_pos (.inr h1)]
  simp only[if_pos (i0.2 h1)];rfl
 rw[if_neg (by simpa using h1)];have g0:¬itK b=0:=fun h=>h1 (i0.1 h)
 by_cases h2:keyB s=true∧zabd b=false
 ·have g:keyB s=true∧itK b≠8:=⟨h2.1,fun h=>by rw[i8.1 h] at h2;cases h2.2⟩
  rw[if_pos h2];simp only[if_neg g0,if_pos g];rfl
 rw[if_neg h2];have g1:¬(keyB s=true∧itK b≠8):=fun h=>h2 ⟨h.1,by cases ht:zabd b with | false=>rfl|true=>exact absurd (i8.2 ht) h.2⟩
 by_cases h3:extP b=true
 ·rw[if_pos h3]
  simp only[if_neg g0,if_neg g1,if_pos (i6.2 h3)];rfl
 rw[if_neg h3];have g2:¬itK b=6:=fun h=>h3 (i6.1 h)
 by_cases h4:b=202∨b=203
 ·rw[if_pos h4]
  simp only[if_neg g0,if_neg g1,if_neg g2,if_pos (i5.2 h4)];rfl
 rw[if_neg h4];have g3:¬itK b=5:=fun h=>h4 (i5.1 h)
 by_cases h5:zacz b=true∧D≤s.length
 ·have g:(itK b=9∨itK b=10)∧s.length=D:=⟨ic.2 h5.1,by omega⟩
  rw[if_pos h5];simp only[if_neg g0,if_neg g1,if_neg g2,if_neg g3,if_pos g];rfl
 rw[if_neg h5];have g4:¬((itK b=9∨itK b=10)∧s.length=D):=fun h=>h5 ⟨ic.1 h.1,by omega⟩
 simp only[if_neg g0,if_neg g1,if_neg g2,if_neg g3,if_neg g4];rw[if_neg (show¬((0:Nat)≠0) by simp)];clear g0 g1 g2 g3 g4 i0 i8 i6 i5 ic h2 h5;unfold extP at h3;rw[decide_eq_true_eq] at h3;have lo:b<192→itF b=0:=fun h=>by unfold itF;rw[if_pos h]
 by_cases k1:b<128
 ·rw[if_pos k1,if_pos (lo (by omega)),show itK b=1 by unfold itK;rw[if_pos k1],show itN b=b by unfold itN;rw[if_pos k1]]
  rfl
 rw[if_neg k1];by_cases k2:b<144
 ·rw[if_pos k2,if_pos (lo (by omega)),show itK b=10 by unfold itK;rw[if_neg k1,if_pos k2],show itN b=b-128 by unfold itN;rw[if_neg k1,if_pos k2]]
  rfl
 rw[if_neg k2];by_cases k3:b<160
 ·rw[if_pos k3,if_pos (lo (by omega)),show itK b=9 by unfold itK;rw[if_neg k1,if_neg k2,if_pos k3],show itN b=b-144 by unfold itN;rw[if_neg k1,if_neg k2,if_pos k3]]
  rfl
 rw[if_neg k3];by_cases k4:b<192
 ·rw[if_pos k4,if_pos (lo (by omega)),show itK b=8 by unfold itK;rw[if_neg k1,if_neg k2,if_neg k3,if_pos k4],show itN b=b-160 by unfold itN;rw[if_neg k1,if_neg k2,if_neg k3,if_pos k4]]
  rfl
 rw[if_neg k4];by_cases k5:b<224
 ·have eK:itK b=otK b:=by unfold itK;rw[if_neg k1,if_neg k2,if_neg k3,if_neg k4,if_pos k5]
  have eN:itN b=otN b:=by unfold itN;rw[if_neg k1,if_neg k2,if_neg k3,if_neg k4,if_pos k5]
  have eF:itF b=otF b:=by unfold itF;rw[if_neg k4,if_pos k5]
  rw[eK,eN,eF];have hc:b=192∨b=194∨b=195∨b=196∨b=197∨b=198∨b=204∨b=205∨b=206∨b=207∨b=208∨b=209∨b=210∨b=211∨b=217∨b=218∨b=219∨b=220∨b=221∨b=222∨b=223:=by omega
  clear eK eN eF k1 k2 k3 k4 k5 lo h1 h3 h4 hb;rcases hc with rfl|rfl|rfl|rfl|rfl|rfl|rfl|rfl|rfl|rfl|rfl|rfl|rfl|rfl|rfl|rfl|rfl|rfl|rfl|rfl|rfl <;>rfl
 ·have e1:itK b=2:=by unfold itK;rw[if_neg k1,if_neg k2,if_neg k3,if_neg k4,if_neg k5]
  have e2:itN b=255-b:=by unfold itN;rw[if_neg k1,if_neg k2,if_neg k3,if_neg k4,if_neg k5]
  have e3:itF b=0:=by unfold itF;rw[if_neg k4,if_neg k5]
  rw[e1,e2,e3,if_neg (show¬b=192 by omega),if_neg (show¬b<196 by omega),if_neg (show¬b<199 by omega),if_neg (show¬b<208 by omega),if_neg (show¬b<212 by omega),if_neg (show¬b<220 by omega),if_neg (show¬b<222 by omega),if_neg (show¬b<224 by omega),if_pos rfl];rfl
theorem zk3 (D:Nat) (s:List Bx) (m:Bool) (n:Nat) (t:List UInt8) (u:Option (Nat×Nat×Nat)) (y:UInt8):za1 (za7 D (.text s m (n+1) t u) y)=bytP s m t n u y:=by
  simp only[za7];unfold bytP goP mayH;cases m with
  | false =>
    have hn:zbq false u y=u:=rfl;rw[hn];by_cases h0:n=0
    · subst h0
      simp[za1]
    · rw[if_neg (by simp),if_neg (by omega),if_pos (by simp),if_pos (by omega)]
      simp[za1]
  | true =>
    cases hu:zbq true u y with
    | none=>simp[za1]
    | some a =>
      by_cases h0:n=0
      · subst h0
        cases hw:zch (some a) with
        | false=>simp[za1]
        | true=>simp[za1]
      · rw[if_neg (by simp),if_neg (by omega),if_pos (by simp;omega),if_pos (by omega)]
        simp[za1]
theorem zys (s:List Bx) {k q:Nat} (hk:k≤5) (hq:q=1∨q=2∨q=4∨q=8) (v:Nat):za1 (hedP s k q v)=begP s (kdK k) v (fmW q):=by
 have hc:k=0∨k=1∨k=2∨k=3∨k=4∨k=5:=by omega
 rcases hc with rfl|rfl|rfl|rfl|rfl|rfl
 ·rfl
 ·rcases hq with rfl|rfl|rfl|rfl <;>rfl
 ·rfl
 ·rfl
 ·rfl
 ·rfl
def WfPm (D:Nat):Pm→Prop
 | .c (.bad e)=>e≠0∧e≠3
 | .c (.item s dn)=>OkP s∧s.length≤D∧(dn=true→s=[])
 | .c (.text s _ n t _)=>OkP s∧s.length≤D∧1≤n∧t.length+n≤200
 | .num s k q n a=>OkP s∧s.length≤D∧k≤5∧(q=1∨q=2∨q=4∨q=8)∧1≤n∧n≤q∧a<256^(q-n)∧(4≤k→s.length<D)
 | _=>False
theorem zaf0 {D:Nat} {s:List Bx} (h:OutP s) (hd:s.length≤D):WfPm D (.c (atC s)):=⟨h.rest,Nat.le_trans (zh1 s) hd,fun h=>by simpa using h⟩
theorem zqi {D:Nat} {s:List Bx} (h:OkP s) (hd:s.length≤D) (e:Ev):WfPm D (za1 (putC s e)).1:=zaf0 h.inc (by rw[zbh];exact hd)
theorem zvl {D:Nat} {s:List Bx} (h:OkP s) (hd:s.length≤D) (m:Bool) (v:Nat):WfPm D (za1 (lenP s m v)).1:=by
 unfold lenP;split
 ·exact⟨by decide,by decide⟩
 split
 ·exact zqi h hd _
 ·exact⟨h,hd,by omega,by simp only[List.length_nil];omega⟩
theorem zy0 {D:Nat} (hD:D≤16) {s:List Bx} (h:OkP s) (hd:s.length<D) (m:Bool) (v:Nat):WfPm D (za1 (cntP s m v)).1:=by
 unfold cntP;split
 ·exact⟨by decide,by decide⟩
 ·by_cases h0:v=0
  ·subst h0
   show WfPm D (za1 (zca s m 0)).1;rw[ze3];exact zaf0 h.inc (by rw[zbh];omega)
  ·rw[zhr s m (by omega)]
   exact⟨h.push (by omega) m (by omega),by rw[List.length_cons,zbh];omega,fun h=>by cases h⟩
theorem zxc {D:Nat} (hD:D≤16) {s:List Bx} (h:OkP s) (hd:s.length≤D) {K v f:Nat} (hc:K=9∨K=10→s.length<D):WfPm D (begP s K v f).1:=by
 unfold begP;split
 ·exact zvl h hd _ _
 split
 ·exact zvl h hd _ _
 split
 ·rename_i e;exact zy0 hD h (hc (.inl e)) _ _
 split
 ·rename_i e;exact zy0 hD h (hc (.inr e)) _ _
 ·exact zqi h hd _
theorem zw0 {D:Nat} {s:List Bx} {K:Nat} (h:refP D s K=0) (hd:s.length≤D):K≠0∧K≠5∧K≠6∧(K=9∨K=10→s.length<D):=by
 unfold refP at h;split at h
 ·cases h
 split at h
 ·cases h
 split at h
 ·cases h
 split at h
 ·cases h
 split at h
 ·cases h
 ·rename_i h0 _ h6 h5 hc
  exact⟨h0,h5,h6,fun e=>by have:¬s.length=D:=fun e2=>hc ⟨e,e2⟩;omega⟩
theorem zyn {D:Nat} (hD:D≤16) {s:List Bx} (h:OkP s) (hd:s.length≤D) (b:Nat) (hb:b<256):WfPm D (zg6 D s b).1:=by
  unfold zg6;by_cases hr:refP D s (itK b)=0
  · rw [if_neg (by simpa using hr)]
    obtain⟨_,_,_,hc⟩:=zw0 hr hd;by_cases hf:itF b=0
    · rw[if_pos hf]
      exact zxc hD h hd hc
    · rw[if_neg hf]
      obtain⟨e1,e2⟩:=(zwg b hb).resolve_left hf;refine⟨h,hd,?_,?_,?_,Nat.le_refl _,?_,?_⟩
      · rcases e2 with e|e|e|e|e|e <;>rw[e] <;>decide
      · rcases e1 with e|e|e|e <;>rw[e] <;>simp
      · exact Nat.pow_pos (by decide)
      · rw[Nat.sub_self];decide
      · intro h4
        refine hc ?_;revert h4;rcases e2 with e|e|e|e|e|e <;>rw[e] <;>decide
  · rw[if_pos hr]
    refine⟨hr,?_⟩;unfold refP
    (repeat' split) <;>decide
theorem zac4 {D:Nat} (hD:D≤16) {s:Pm} (h:WfPm D s) (y:UInt8):WfPm D (zcj D s y).1:=by
  cases s with
  | c x =>
    cases x with
    | bad e=>exact h
    | item s dn =>
      obtain⟨h1,h2,h3⟩:=h;cases dn with
      | true =>
        have:zcj D (.c (.item s true)) y=(.c (.bad 2),[]):=by simp only[zcj,zjo];simp
        rw[this];exact⟨by decide,by decide⟩
      | false =>
        show WfPm D (zjo D s false y.toNat).1;rw[zmr D s h2 _ y.toNat_lt];exact zyn hD h1 h2 _ y.toNat_lt
    | text s m n t u =>
      obtain⟨h1,h2,h3,h4⟩:=h;obtain⟨k,rfl⟩:∃k,n=k+1:=⟨n-1,by omega⟩
      show WfPm D (za1 (za7 D (.text s m (k+1) t u) y)).1;rw[zk3];unfold bytP goP;split
      · split
        · exact⟨h1,h2,by omega,by simp only[List.length_append,List.length_singleton];omega⟩
        · exact zqi h1 h2 _
      · exact⟨by decide,by decide⟩
    | head _ _=>exact h
    | open_ _ _ _=>exact h
    | chead _ _ _ _=>exact h
    | ctext _ _ _ _ _=>exact h
  | num s k q n a =>
    obtain⟨h1,h2,h3,h4,h5,h6,h7,h8⟩:=h;simp only[zcj];by_cases hn:n=1
    · rw[if_pos hn,zys s h3 h4]
      refine zxc hD h1 h2 (fun e=>h8 ?_);have hc:k=0∨k=1∨k=2∨k=3∨k=4∨k=5:=by omega
      revert e;rcases hc with rfl|rfl|rfl|rfl|rfl|rfl <;>decide
    · rw[if_neg hn]
      refine⟨h1,h2,h3,h4,by omega,by omega,?_,h8⟩;have e:q-(n-1)=(q-n)+1:=by omega
      rw[e,Nat.pow_succ];have:=y.toNat_lt;omega
theorem zalf (D:Nat):WfPm D pm0:=⟨⟨by simp,fun x hx=>by simp at hx,fun x hx=>by simp at hx,fun x r h=>by cases h⟩,by simp,fun h=>by cases h⟩
end
section
open Go.Lib
def stkN:Pm→Nat
 | .c x=>stkC x
 | .num s _ _ _ _=>s.length
structure TolP (n:Nat) (r:Pm×List Ev):Prop where
 told:∀e∈r.2,zfl e
 len:r.2.length+stkN r.1≤n+2
theorem OkP.bx {s:List Bx} (h:OkP s):BxOk s:=fun x hx=>by
 have:=h.all x hx;exact⟨by have:=this.1;omega,this.2.1⟩
theorem zyg {D n:Nat} {r:Ci×List Ev} (h:FineC D n r):TolP n (za1 r):=⟨h.told,h.len⟩
theorem zc4 (n e:Nat):TolP n (.c (.bad e),[]):=⟨by simp,by simp[stkN,stkC]⟩
theorem zec (s:List Bx) (k w n a:Nat):TolP s.length (.num s k w n a,[]):=⟨by simp,by simp[stkN]⟩
theorem zm4 (s:List Bx) (m:Bool) (n:Nat) (t:List UInt8) (u:Option (Nat×Nat×Nat)):TolP s.length (.c (.text s m n t u),[]):=⟨by simp,by simp[stkN,stkC]⟩
theorem zc0 {s:List Bx} (h:OkP s) {e:Ev} (he:zfl e):TolP s.length (za1 (putC s e)):=zyg (zd7 (D:=16) h.bx h.deep he)
theorem zly {s:List Bx} (h:OkP s) (m:Bool) (v:Nat):TolP s.length (za1 (lenP s m v)):=by
 unfold lenP;split
 ·exact zc4 _ _
 split
 ·exact zc0 h (zen m (by simp))
 ·exact zm4 _ _ _ _ _
theorem zk8 {s:List Bx} (h:OkP s) (hd:s.length<16) (m:Bool) (v:Nat):TolP s.length (za1 (cntP s m v)):=by
 unfold cntP;split
 ·exact zc4 _ _
 ·exact zyg (zgr (D:=16) m h.bx hd (by omega))
theorem zafb {D:Nat} (hD:D≤16) {s:List Bx} (h:OkP s) {k q v:Nat} (hq:q≤8) (hv:v<256^q) (hk:k≤5) (hd:4≤k→s.length<D):TolP s.length (za1 (hedP s k q v)):=by
 have h8:256^q≤256^8:=Nat.pow_le_pow_right (by decide) hq;have h8':(256:Nat)^8=18446744073709551616:=by decide
 unfold hedP;split
 ·exact zc0 h (zfd _ (by omega))
 split
 ·unfold sgnP
  split
  ·exact zc0 h (zfd _ (by omega))
  ·exact zc0 h (zfd _ (by omega))
 split
 ·exact zly h _ _
 split
 ·exact zly h _ _
 ·exact zk8 h (Nat.lt_of_lt_of_le (hd (by omega)) hD) _ _
theorem zbg {n:Nat} {p:Prop} [Decidable p] {x y:Pm×List Ev} (hx:p→TolP n x) (hy:¬p→TolP n y):TolP n (if p then x else y):=by
 by_cases h:p
 ·rw[if_pos h];exact hx h
 ·rw[if_neg h];exact hy h
theorem ztb {D:Nat} (hD:D≤16) {s:List Bx} (h:OkP s) (dn:Bool) (b:Nat) (hb:b<256):TolP s.length (zjo D s dn b):=by
 refine zbg (fun _=>zc4 _ _) (fun _=> ?_);refine zbg (fun _=>zc4 _ _) (fun _=> ?_);refine zbg (fun _=>zc4 _ _) (fun _=> ?_);refine zbg (fun _=>zc4 _ _) (fun _=> ?_);refine zbg (fun _=>zc4 _ _) (fun hc=> ?_);have hlen:((128≤b∧b≤159)∨(220≤b∧b≤223))→s.length<16:=fun e=>by
  by_cases h2:D≤s.length
  ·exact absurd ⟨by unfold zacz;rw[decide_eq_true_eq];exact e,h2⟩ hc
  ·omega
 refine zbg (fun _=>zc0 h (zfd _ (by omega))) (fun k1=> ?_);refine zbg (fun k2=>zk8 h (hlen (by omega)) _ _) (fun k2=> ?_);refine zbg (fun k3=>zk8 h (hlen (by omega)) _ _) (fun k3=> ?_);refine zbg (fun _=>zly h _ _) (fun _=> ?_);refine zbg (fun _=>zc0 h znj) (fun _=> ?_);refine zbg (fun _=>zc0 h (zm3 _)) (fun _=> ?_);refine zbg (fun _=>zec _ _ _ _ _) (fun _=> ?_);refine zbg (fun _=>zec _ _ _ _ _) (fun _=> ?_);refine zbg (fun _=>zec _ _ _ _ _) (fun _=> ?_);refine zbg (fun _=>zec _ _ _ _ _) (fun _=> ?_);refine zbg (fun _=>zec _ _ _ _ _) (fun _=> ?_);refine zbg (fun _=>zec _ _ _ _ _) (fun _=> ?_);exact zc0 h (zfd _ (by omega))
theorem zxw {D:Nat} (hD:D≤16) {s:Pm} (h:WfPm D s) (y:UInt8):TolP (stkN s) (zcj D s y):=by
  cases s with
  | c x =>
    cases x with
    | bad e=>exact zc4 _ _
    | item s dn=>exact ztb hD h.1 dn _ y.toNat_lt
    | text s m n t u =>
      obtain⟨h1,h2,h3,h4⟩:=h;obtain⟨k,rfl⟩:∃k,n=k+1:=⟨n-1,by omega⟩
      show TolP s.length (za1 (za7 D (.text s m (k+1) t u) y));rw[zk3];unfold bytP goP;split
      · split
        · exact zm4 _ _ _ _ _
        · exact zc0 h1 (zen m (by simp only[List.length_append,List.length_singleton];omega))
      · exact zc4 _ _
    | head _ _=>exact h.elim
    | open_ _ _ _=>exact h.elim
    | chead _ _ _ _=>exact h.elim
    | ctext _ _ _ _ _=>exact h.elim
  | num s k q n a =>
    obtain⟨h1,h2,h3,h4,h5,h6,h7,h8⟩:=h;simp only[zcj];by_cases hn:n=1
    · subst hn
      rw[if_pos rfl];refine zafb hD h1 (by omega) ?_ h3 h8;have e:q=(q-1)+1:=by omega
      have:=y.toNat_lt;rw[e,Nat.pow_succ];omega
    · rw[if_neg hn]
      exact zec _ _ _ _ _
end
section
open Go.RowKit
open Go.Lib
def chE (mj:Nat) (h:Hd):Nat:=if brkH h=true∨(majH h=mj∧opnH h=false) then 0 else 2
abbrev S6 (w:World) (b o e p m:Nat) (q:Bool) (l v mj:Nat) (W:World):Prop :=
 (W.cell? ⟨b,o+3,none⟩=some (.int .i64 e)∧W.cell? ⟨b,o+3+1,none⟩=some (.int .i64 p)∧W.cell? ⟨b,o+3+2,none⟩=some (.int .i64 m)∧W.cell? ⟨b,o+3+3,none⟩=some (.bool q)∧W.cell? ⟨b,o+3+4,none⟩=some (.int .i64 l)∧W.cell? ⟨b,o+3+5,none⟩=some (.int .u64 v)) ∧
 W.cell? ⟨b,o+9,none⟩=some (.int .i64 mj)∧Hid (Below w.heap.size w W)
theorem CP.s6 {w:World} {b o D pl:Nat} {h:Hd} {mj:Nat} {ch:Bool} {lk:Nat} {vt:Value} {t:List UInt8} {u:Option (Nat×Nat×Nat)} {vs:Value} {n:Nat} {xs:List Value} (c:CP w b o D pl h mj ch lk vt t u vs n xs)
  {e p m:Nat} {q:Bool} {l v:Nat} (hc:zgx h=hd6 e p m q l v) {W:World} (k:Below w.heap.size w W):S6 w b o e p m q l v mj W:=by
 have c':=c.go k;have hA:=c'.hd.2;rw[hc] at hA;obtain⟨⟨k0,_⟩,⟨k1,_⟩,⟨k2,_⟩,⟨k3,_⟩,⟨k4,_⟩,⟨k5,_⟩⟩:=hA.six;exact⟨⟨k0,k1,k2,k3,k4,k5⟩,c'.cells.2.1.1.1,hid k⟩
theorem zaei {w:World} {b o e p m:Nat} {q:Bool} {l v mj:Nat} (HS:S6 w b o e p m q l v mj w.drew)
  (HB:Hid (∀W,S6 w b o e p m q l v mj W→Calls Tryz.prog 169 #[.agg #[.int .i64 e,.int .i64 p,.int .i64 m,.bool q,.int .i64 l,.int .u64 v]] W fun r w'=>r= .returned (.bool true)∧S6 w b o e p m q l v mj w')) :
  Calls Tryz.prog 168 #[.pointer (some ⟨b,o,none⟩)] w fun r w'=>r= .returned (.int .i64 0)∧Below w.heap.size w w':=by
 go_enter Tryz.func168,Tryz.ntmps168;(go_wp2_with fail);refine wp_region_held_drew (S:=S6 w b o e p m q l v mj) (by kernel_rfl) HS (fun hHeld=> ?_);refine wpAnyH_take (i:=0) (oi:={dst:=some 3,op:=Op.move (Operand.tmp 0),type:=96,pos:=_,after:=_,guard:=none}) (v:= ?_) rfl (by kernel_rfl) (by kernel_rfl) (by kernel_rfl) (fun _ _ _ h=>h) (Or.inl ⟨by rfl,?_⟩) hHeld ?_
 rotate_left
 · (intro w hSw;(try dsimp only at hSw);first |(go_simp;done)|(go_simp;with_reducible rfl))
 try simp only[Act.put,List.setIfInBounds_toArray,List.set_cons_zero,List.set_cons_succ]
 refine wpAnyH_take (i:=1) (oi:={dst:=some 4,op:=Op.nilCheck (Operand.tmp 3),type:=0,pos:=_,after:=_,guard:=none}) (v:= ?_) rfl (by kernel_rfl) (by kernel_rfl) (by kernel_rfl) (fun _ _ _ h=>h) (Or.inl ⟨by rfl,?_⟩) hHeld ?_
 rotate_left
 · (intro w hSw;(try dsimp only at hSw);first |(go_simp;done)|(go_simp;with_reducible rfl))
 try simp only[Act.put,List.setIfInBounds_toArray,List.set_cons_zero,List.set_cons_succ]
 refine wpAnyH_take (i:=2) (oi:={dst:=some 5,op:=Op.fieldAddr 148 (Operand.tmp 4) 3,type:=0,pos:=_,after:=_,guard:=none}) (v:= ?_) rfl (by kernel_rfl) (by kernel_rfl) (by kernel_rfl) (fun _ _ _ h=>h) (Or.inl ⟨by rfl,?_⟩) hHeld ?_
 rotate_left
 · (intro w hSw;(try dsimp only at hSw);first |(go_simp;done)|(go_simp;with_reducible rfl))
 try simp only[Act.put,List.setIfInBounds_toArray,List.set_cons_zero,List.set_cons_succ]
 refine wpAnyH_take (i:=3) (oi:={dst:=some 6,op:=Op.load 142 (Operand.tmp 5),type:=142,pos:=_,after:=_,guard:=none}) (v:= ?_) rfl (by kernel_rfl) (by kernel_rfl) (by kernel_rfl) (fun _ _ _ h=>h) (Or.inl ⟨by rfl,?_⟩) hHeld ?_
 rotate_left
 · (intro w hSw;(try dsimp only at hSw);first |(go_simp;done)|(go_simp;with_reducible rfl))
 try simp only[Act.put,List.setIfInBounds_toArray,List.set_cons_zero,List.set_cons_succ]
 refine wpAnyH_ready (rs:=[4]) (by kernel_rfl) (by simp) ?_;refine AllReadyH.cons (o:={dst:=some 7,op:=Op.call {callee:=Callee.value (Operand.func 169),args:=#[Operand.tmp 6],argTypes:=#[142]},type:=4,pos:=_,after:=_,guard:=none}) rfl (fun K hK=> ?_) AllReadyH.nil;go_simp
 go_at_call 169
 refine(HB.out _ hHeld).mono ?_;rintro r v1 ⟨rfl,h1⟩;(go_wp2_with fail);clear hHeld;refine hK.out _ _ h1 (fun hHeld=> ?_);clear hK K
 try simp only[Act.put,List.setIfInBounds_toArray,List.set_cons_zero,List.set_cons_succ]
 refine wpAnyH_take (i:=5) (oi:={dst:=some 8,op:=Op.move (Operand.tmp 7),type:=4,pos:=_,after:=_,guard:=none}) (v:= ?_) rfl (by kernel_rfl) (by kernel_rfl) (by kernel_rfl) (fun _ _ _ h=>h) (Or.inl ⟨by rfl,?_⟩) hHeld ?_
 rotate_left
 · (intro w hSw;(try dsimp only at hSw);first |(go_simp;done)|(go_simp;with_reducible rfl))
 try simp only[Act.put,List.setIfInBounds_toArray,List.set_cons_zero,List.set_cons_succ]
 refine wpAnyH_take (i:=6) (oi:={dst:=some 9,op:=Op.move (Operand.tmp 0),type:=96,pos:=_,after:=_,guard:=some (5,false)}) rfl (by kernel_rfl) (by kernel_rfl) (by kernel_rfl) (fun _ _ _ h=>h) (Or.inr ⟨by rfl,rfl⟩) hHeld ?_
 try simp only[Act.put,List.setIfInBounds_toArray,List.set_cons_zero,List.set_cons_succ]
 refine wpAnyH_take (i:=7) (oi:={dst:=some 10,op:=Op.nilCheck (Operand.tmp 9),type:=0,pos:=_,after:=_,guard:=some (5,false)}) rfl (by kernel_rfl) (by kernel_rfl) (by kernel_rfl) (fun _ _ _ h=>h) (Or.inr ⟨by rfl,rfl⟩) hHeld ?_
 try simp only[Act.put,List.setIfInBounds_toArray,List.set_cons_zero,List.set_cons_succ]
 refine wpAnyH_take (i:=8) (oi:={dst:=some 11,op:=Op.fieldAddr 148 (Operand.tmp 10) 3,type:=0,pos:=_,after:=_,guard:=some (5,false)}) rfl (by kernel_rfl) (by kernel_rfl) (by kernel_rfl) (fun _ _ _ h=>h) (Or.inr ⟨by rfl,rfl⟩) hHeld ?_
 try simp only[Act.put,List.setIfInBounds_toArray,List.set_cons_zero,List.set_cons_succ]
 refine wpAnyH_take (i:=9) (oi:={dst:=some 12,op:=Op.call {callee:=Callee.value (Operand.func 174),args:=#[Operand.tmp 11],argTypes:=#[142]},type:=3,pos:=_,after:=_,guard:=some (5,false)}) rfl (by kernel_rfl) (by kernel_rfl) (by kernel_rfl) (fun _ _ _ h=>h) (Or.inr ⟨by rfl,rfl⟩) hHeld ?_
 try simp only[Act.put,List.setIfInBounds_toArray,List.set_cons_zero,List.set_cons_succ]
 refine wpAnyH_take (i:=10) (oi:={dst:=some 13,op:=Op.move (Operand.tmp 0),type:=96,pos:=_,after:=_,guard:=some (5,false)}) rfl (by kernel_rfl) (by kernel_rfl) (by kernel_rfl) (fun _ _ _ h=>h) (Or.inr ⟨by rfl,rfl⟩) hHeld ?_
 try simp only[Act.put,List.setIfInBounds_toArray,List.set_cons_zero,List.set_cons_succ]
 refine wpAnyH_take (i:=11) (oi:={dst:=some 14,op:=Op.nilCheck (Operand.tmp 13),type:=0,pos:=_,after:=_,guard:=some (5,false)}) rfl (by kernel_rfl) (by kernel_rfl) (by kernel_rfl) (fun _ _ _ h=>h) (Or.inr ⟨by rfl,rfl⟩) hHeld ?_
 try simp only[Act.put,List.setIfInBounds_toArray,List.set_cons_zero,List.set_cons_succ]
 refine wpAnyH_take (i:=12) (oi:={dst:=some 15,op:=Op.fieldAddr 148 (Operand.tmp 14) 4,type:=0,pos:=_,after:=_,guard:=some (5,false)}) rfl (by kernel_rfl) (by kernel_rfl) (by kernel_rfl) (fun _ _ _ h=>h) (Or.inr ⟨by rfl,rfl⟩) hHeld ?_
 try simp only[Act.put,List.setIfInBounds_toArray,List.set_cons_zero,List.set_cons_succ]
 refine wpAnyH_take (i:=13) (oi:={dst:=some 16,op:=Op.fieldAddr 144 (Operand.tmp 15) 0,type:=0,pos:=_,after:=_,guard:=some (5,false)}) rfl (by kernel_rfl) (by kernel_rfl) (by kernel_rfl) (fun _ _ _ h=>h) (Or.inr ⟨by rfl,rfl⟩) hHeld ?_
 try simp only[Act.put,List.setIfInBounds_toArray,List.set_cons_zero,List.set_cons_succ]
 refine wpAnyH_take (i:=14) (oi:={dst:=some 17,op:=Op.load 3 (Operand.tmp 16),type:=3,pos:=_,after:=_,guard:=some (5,false)}) rfl (by kernel_rfl) (by kernel_rfl) (by kernel_rfl) (fun _ _ _ h=>h) (Or.inr ⟨by rfl,rfl⟩) hHeld ?_
 try simp only[Act.put,List.setIfInBounds_toArray,List.set_cons_zero,List.set_cons_succ]
 refine wpAnyH_take (i:=15) (oi:={dst:=some 18,op:=Op.binOp BinOp.eql 3 (Operand.tmp 12) (Operand.tmp 17) 3,type:=4,pos:=_,after:=_,guard:=some (5,false)}) rfl (by kernel_rfl) (by kernel_rfl) (by kernel_rfl) (fun _ _ _ h=>h) (Or.inr ⟨by rfl,rfl⟩) hHeld ?_
 try simp only[Act.put,List.setIfInBounds_toArray,List.set_cons_zero,List.set_cons_succ]
 refine wpAnyH_take (i:=16) (oi:={dst:=some 19,op:=Op.move (Operand.tmp 18),type:=4,pos:=_,after:=_,guard:=some (5,false)}) rfl (by kernel_rfl) (by kernel_rfl) (by kernel_rfl) (fun _ _ _ h=>h) (Or.inr ⟨by rfl,rfl⟩) hHeld ?_
 try simp only[Act.put,List.setIfInBounds_toArray,List.set_cons_zero,List.set_cons_succ]
 refine wpAnyH_take (i:=17) (oi:={dst:=some 20,op:=Op.move (Operand.tmp 0),type:=96,pos:=_,after:=_,guard:=some (16,true)}) rfl (by kernel_rfl) (by kernel_rfl) (by kernel_rfl) (fun _ _ _ h=>h) (Or.inr ⟨by rfl,rfl⟩) hHeld ?_
 try simp only[Act.put,List.setIfInBounds_toArray,List.set_cons_zero,List.set_cons_succ]
 refine wpAnyH_take (i:=18) (oi:={dst:=some 21,op:=Op.nilCheck (Operand.tmp 20),type:=0,pos:=_,after:=_,guard:=some (16,true)}) rfl (by kernel_rfl) (by kernel_rfl) (by kernel_rfl) (fun _ _ _ h=>h) (Or.inr ⟨by rfl,rfl⟩) hHeld ?_
 try simp only[Act.put,List.setIfInBounds_toArray,List.set_cons_zero,List.set_cons_succ]
 refine wpAnyH_take (i:=19) (oi:={dst:=some 22,op:=Op.fieldAddr 148 (Operand.tmp 21) 3,type:=0,pos:=_,after:=_,guard:=some (16,true)}) rfl (by kernel_rfl) (by kernel_rfl) (by kernel_rfl) (fun _ _ _ h=>h) (Or.inr ⟨by rfl,rfl⟩) hHeld ?_
 try simp only[Act.put,List.setIfInBounds_toArray,List.set_cons_zero,List.set_cons_succ]
 refine wpAnyH_take (i:=20) (oi:={dst:=some 23,op:=Op.call {callee:=Callee.value (Operand.func 183),args:=#[Operand.tmp 22],argTypes:=#[142]},type:=4,pos:=_,after:=_,guard:=some (16,true)}) rfl (by kernel_rfl) (by kernel_rfl) (by kernel_rfl) (fun _ _ _ h=>h) (Or.inr ⟨by rfl,rfl⟩) hHeld ?_
 try simp only[Act.put,List.setIfInBounds_toArray,List.set_cons_zero,List.set_cons_succ]
 refine wpAnyH_take (i:=21) (oi:={dst:=some 24,op:=Op.unOp UnOp.not 4 (Operand.tmp 23),type:=4,pos:=_,after:=_,guard:=some (16,true)}) rfl (by kernel_rfl) (by kernel_rfl) (by kernel_rfl) (fun _ _ _ h=>h) (Or.inr ⟨by rfl,rfl⟩) hHeld ?_
 try simp only[Act.put,List.setIfInBounds_toArray,List.set_cons_zero,List.set_cons_succ]
 refine wpAnyH_take (i:=22) (oi:={dst:=some 25,op:=Op.pick (Operand.tmp 19) (Operand.tmp 24) (Operand.const (Value.bool false)),type:=4,pos:=_,after:=_,guard:=some (5,false)}) rfl (by kernel_rfl) (by kernel_rfl) (by kernel_rfl) (fun _ _ _ h=>h) (Or.inr ⟨by rfl,rfl⟩) hHeld ?_
 try simp only[Act.put,List.setIfInBounds_toArray,List.set_cons_zero,List.set_cons_succ]
 refine wpAnyH_take (i:=23) (oi:={dst:=some 26,op:=Op.pick (Operand.tmp 8) (Operand.const (Value.bool true)) (Operand.tmp 25),type:=4,pos:=_,after:=_,guard:=none}) (v:= ?_) rfl (by kernel_rfl) (by kernel_rfl) (by kernel_rfl) (fun _ _ _ h=>h) (Or.inl ⟨by rfl,?_⟩) hHeld ?_
 rotate_left
 · (intro w hSw;(try dsimp only at hSw);first |(go_simp;done)|(go_simp;with_reducible rfl))
 try simp only[Act.put,List.setIfInBounds_toArray,List.set_cons_zero,List.set_cons_succ]
 refine wpAnyH_done (by kernel_rfl) ?_ _;have HT:=hid hHeld.2.2.out;go_wp2;go_ret;exact⟨rfl,HT.out⟩
theorem zvd {w:World} {b o e p m:Nat} {q:Bool} {l v mj:Nat} (HS:S6 w b o e p m q l v mj w.drew) (HB:Hid (∀W,S6 w b o e p m q l v mj W→Calls Tryz.prog 169 #[.agg #[.int .i64 e,.int .i64 p,.int .i64 m,.bool q,.int .i64 l,.int .u64 v]] W fun r w'=>r= .returned (.bool false)∧S6 w b o e p m q l v mj w')) {M:Nat} (HM:Hid (∀W,S6 w b o e p m q l v mj W→Calls Tryz.prog 174 #[.pointer (some ⟨b,o+3,none⟩)] W fun r w'=>r= .returned (.int .i64 M)∧S6 w b o e p m q l v mj w')) (zm:((M:Int)==(mj:Int))=false) :
  Calls Tryz.prog 168 #[.pointer (some ⟨b,o,none⟩)] w fun r w'=>r= .returned (.int .i64 2)∧Below w.heap.size w w':=by
 go_enter Tryz.func168,Tryz.ntmps168;(go_wp2_with fail);refine wp_region_held_drew (S:=S6 w b o e p m q l v mj) (by kernel_rfl) HS (fun hHeld=> ?_);refine wpAnyH_take (i:=0) (oi:={dst:=some 3,op:=Op.move (Operand.tmp 0),type:=96,pos:=_,after:=_,guard:=none}) (v:= ?_) rfl (by kernel_rfl) (by kernel_rfl) (by kernel_rfl) (fun _ _ _ h=>h) (Or.inl ⟨by rfl,?_⟩) hHeld ?_
 rotate_left
 · (intro w hSw;(try dsimp only at hSw);first |(go_simp;done)|(go_simp;with_reducible rfl))
 try simp only[Act.put,List.setIfInBounds_toArray,List.set_cons_zero,List.set_cons_succ]
 refine wpAnyH_take (i:=1) (oi:={dst:=some 4,op:=Op.nilCheck (Operand.tmp 3),type:=0,pos:=_,after:=_,guard:=none}) (v:= ?_) rfl (by kernel_rfl) (by kernel_rfl) (by kernel_rfl) (fun _ _ _ h=>h) (Or.inl ⟨by rfl,?_⟩) hHeld ?_
 rotate_left
 · (intro w hSw;(try dsimp only at hSw);first |(go_simp;done)|(go_simp;with_reducible rfl))
 try simp only[Act.put,List.setIfInBounds_toArray,List.set_cons_zero,List.set_cons_succ]
 refine wpAnyH_take (i:=2) (oi:={dst:=some 5,op:=Op.fieldAddr 148 (Operand.tmp 4) 3,type:=0,pos:=_,after:=_,guard:=none}) (v:= ?_) rfl (by kernel_rfl) (by kernel_rfl) (by kernel_rfl) (fun _ _ _ h=>h) (Or.inl ⟨by rfl,?_⟩) hHeld ?_
 rotate_left
 · (intro w hSw;(try dsimp only at hSw);first |(go_simp;done)|(go_simp;with_reducible rfl))
 try simp only[Act.put,List.setIfInBounds_toArray,List.set_cons_zero,List.set_cons_succ]
 refine wpAnyH_take (i:=3) (oi:={dst:=some 6,op:=Op.load 142 (Operand.tmp 5),type:=142,pos:=_,after:=_,guard:=none}) (v:= ?_) rfl (by kernel_rfl) (by kernel_rfl) (by kernel_rfl) (fun _ _ _ h=>h) (Or.inl ⟨by rfl,?_⟩) hHeld ?_
 rotate_left
 · (intro w hSw;(try dsimp only at hSw);first |(go_simp;done)|(go_simp;with_reducible rfl))
 try simp only[Act.put,List.setIfInBounds_toArray,List.set_cons_zero,List.set_cons_succ]
 refine wpAnyH_ready (rs:=[4]) (by kernel_rfl) (by simp) ?_;refine AllReadyH.cons (o:={dst:=some 7,op:=Op.call {callee:=Callee.value (Operand.func 169),args:=#[Operand.tmp 6],argTypes:=#[142]},type:=4,pos:=_,after:=_,guard:=none}) rfl (fun K hK=> ?_) AllReadyH.nil;go_simp
 go_at_call 169
 refine(HB.out _ hHeld).mono ?_;rintro r v1 ⟨rfl,h1⟩;(go_wp2_with fail);clear hHeld;refine hK.out _ _ h1 (fun hHeld=> ?_);clear hK K
 try simp only[Act.put,List.setIfInBounds_toArray,List.set_cons_zero,List.set_cons_succ]
 refine wpAnyH_take (i:=5) (oi:={dst:=some 8,op:=Op.move (Operand.tmp 7),type:=4,pos:=_,after:=_,guard:=none}) (v:= ?_) rfl (by kernel_rfl) (by kernel_rfl) (by kernel_rfl) (fun _ _ _ h=>h) (Or.inl ⟨by rfl,?_⟩) hHeld ?_
 rotate_left
 · (intro w hSw;(try dsimp only at hSw);first |(go_simp;done)|(go_simp;with_reducible rfl))
 try simp only[Act.put,List.setIfInBounds_toArray,List.set_cons_zero,List.set_cons_succ]
 refine wpAnyH_take (i:=6) (oi:={dst:=some 9,op:=Op.move (Operand.tmp 0),type:=96,pos:=_,after:=_,guard:=some (5,false)}) (v:= ?_) rfl (by kernel_rfl) (by kernel_rfl) (by kernel_rfl) (fun _ _ _ h=>h) (Or.inl ⟨by rfl,?_⟩) hHeld ?_
 rotate_left
 · (intro w hSw;(try dsimp only at hSw);first |(go_simp;done)|(go_simp;with_reducible rfl))
 try simp only[Act.put,List.setIfInBounds_toArray,List.set_cons_zero,List.set_cons_succ]
 refine wpAnyH_take (i:=7) (oi:={dst:=some 10,op:=Op.nilCheck (Operand.tmp 9),type:=0,pos:=_,after:=_,guard:=some (5,false)}) (v:= ?_) rfl (by kernel_rfl) (by kernel_rfl) (by kernel_rfl) (fun _ _ _ h=>h) (Or.inl ⟨by rfl,?_⟩) hHeld ?_
 rotate_left
 · (intro w hSw;(try dsimp only at hSw);first |(go_simp;done)|(go_simp;with_reducible rfl))
 try simp only[Act.put,List.setIfInBounds_toArray,List.set_cons_zero,List.set_cons_succ]
 refine wpAnyH_take (i:=8) (oi:={dst:=some 11,op:=Op.fieldAddr 148 (Operand.tmp 10) 3,type:=0,pos:=_,after:=_,guard:=some (5,false)}) (v:= ?_) rfl (by kernel_rfl) (by kernel_rfl) (by kernel_rfl) (fun _ _ _ h=>h) (Or.inl ⟨by rfl,?_⟩) hHeld ?_
 rotate_left
 · (intro w hSw;(try dsimp only at hSw);first |(go_simp;done)|(go_simp;with_reducible rfl))
 try simp only[Act.put,List.setIfInBounds_toArray,List.set_cons_zero,List.set_cons_succ]
 refine wpAnyH_take (i:=10) (oi:={dst:=some 13,op:=Op.move (Operand.tmp 0),type:=96,pos:=_,after:=_,guard:=some (5,false)}) (v:= ?_) rfl (by kernel_rfl) (by kernel_rfl) (by kernel_rfl) (fun _ _ _ h=>h) (Or.inl ⟨by rfl,?_⟩) hHeld ?_
 rotate_left
 · (intro w hSw;(try dsimp only at hSw);first |(go_simp;done)|(go_simp;with_reducible rfl))
 try simp only[Act.put,List.setIfInBounds_toArray,List.set_cons_zero,List.set_cons_succ]
 refine wpAnyH_take (i:=11) (oi:={dst:=some 14,op:=Op.nilCheck (Operand.tmp 13),type:=0,pos:=_,after:=_,guard:=some (5,false)}) (v:= ?_) rfl (by kernel_rfl) (by kernel_rfl) (by kernel_rfl) (fun _ _ _ h=>h) (Or.inl ⟨by rfl,?_⟩) hHeld ?_
 rotate_left
 · (intro w hSw;(try dsimp only at hSw);first |(go_simp;done)|(go_simp;with_reducible rfl))
 try simp only[Act.put,List.setIfInBounds_toArray,List.set_cons_zero,List.set_cons_succ]
 refine wpAnyH_take (i:=12) (oi:={dst:=some 15,op:=Op.fieldAddr 148 (Operand.tmp 14) 4,type:=0,pos:=_,after:=_,guard:=some (5,false)}) (v:= ?_) rfl (by kernel_rfl) (by kernel_rfl) (by kernel_rfl) (fun _ _ _ h=>h) (Or.inl ⟨by rfl,?_⟩) hHeld ?_
 rotate_left
 · (intro w hSw;(try dsimp only at hSw);first |(go_simp;done)|(go_simp;with_reducible rfl))
 try simp only[Act.put,List.setIfInBounds_toArray,List.set_cons_zero,List.set_cons_succ]
 refine wpAnyH_take (i:=13) (oi:={dst:=some 16,op:=Op.fieldAddr 144 (Operand.tmp 15) 0,type:=0,pos:=_,after:=_,guard:=some (5,false)}) (v:= ?_) rfl (by kernel_rfl) (by kernel_rfl) (by kernel_rfl) (fun _ _ _ h=>h) (Or.inl ⟨by rfl,?_⟩) hHeld ?_
 rotate_left
 · (intro w hSw;(try dsimp only at hSw);first |(go_simp;done)|(go_simp;with_reducible rfl))
 try simp only[Act.put,List.setIfInBounds_toArray,List.set_cons_zero,List.set_cons_succ]
 refine wpAnyH_take (i:=14) (oi:={dst:=some 17,op:=Op.load 3 (Operand.tmp 16),type:=3,pos:=_,after:=_,guard:=some (5,false)}) (v:= ?_) rfl (by kernel_rfl) (by kernel_rfl) (by kernel_rfl) (fun _ _ _ h=>h) (Or.inl ⟨by rfl,?_⟩) hHeld ?_
 rotate_left
 · (intro w hSw;(try dsimp only at hSw);first |(go_simp;done)|(go_simp;with_reducible rfl))
 try simp only[Act.put,List.setIfInBounds_toArray,List.set_cons_zero,List.set_cons_succ]
 refine wpAnyH_ready (rs:=[9]) (by kernel_rfl) (by simp) ?_;refine AllReadyH.cons (o:={dst:=some 12,op:=Op.call {callee:=Callee.value (Operand.func 174),args:=#[Operand.tmp 11],argTypes:=#[142]},type:=3,pos:=_,after:=_,guard:=some (5,false)}) rfl (fun K hK=> ?_) AllReadyH.nil;go_simp
 go_at_call 174
 refine(HM.out _ hHeld).mono ?_;rintro r v1 ⟨rfl,h1⟩;(go_wp2_with fail);clear hHeld;refine hK.out _ _ h1 (fun hHeld=> ?_);clear hK K
 try simp only[Act.put,List.setIfInBounds_toArray,List.set_cons_zero,List.set_cons_succ]
 refine wpAnyH_take (i:=15) (oi:={dst:=some 18,op:=Op.binOp BinOp.eql 3 (Operand.tmp 12) (Operand.tmp 17) 3,type:=4,pos:=_,after:=_,guard:=some (5,false)}) (v:= ?_) rfl (by kernel_rfl) (by kernel_rfl) (by kernel_rfl) (fun _ _ _ h=>h) (Or.inl ⟨by rfl,?_⟩) hHeld ?_
 rotate_left
 · (intro w hSw;(try dsimp only at hSw);first |(go_simp;done)|(go_simp;with_reducible rfl))
 try simp only[Act.put,List.setIfInBounds_toArray,List.set_cons_zero,List.set_cons_succ]
 refine wpAnyH_take (i:=16) (oi:={dst:=some 19,op:=Op.move (Operand.tmp 18),type:=4,pos:=_,after:=_,guard:=some (5,false)}) (v:= ?_) rfl (by kernel_rfl) (by kernel_rfl) (by kernel_rfl) (fun _ _ _ h=>h) (Or.inl ⟨by rfl,?_⟩) hHeld ?_
 rotate_left
 · (intro w hSw;(try dsimp only at hSw);first |(go_simp;done)|(go_simp;with_reducible rfl))
 try simp only[Act.put,List.setIfInBounds_toArray,List.set_cons_zero,List.set_cons_succ]
 refine wpAnyH_take (i:=17) (oi:={dst:=some 20,op:=Op.move (Operand.tmp 0),type:=96,pos:=_,after:=_,guard:=some (16,true)}) rfl (by kernel_rfl) (by kernel_rfl) (by kernel_rfl) (fun _ _ _ h=>h) (Or.inr ⟨by rfl,rfl⟩) hHeld ?_
 try simp only[Act.put,List.setIfInBounds_toArray,List.set_cons_zero,List.set_cons_succ]
 refine wpAnyH_take (i:=18) (oi:={dst:=some 21,op:=Op.nilCheck (Operand.tmp 20),type:=0,pos:=_,after:=_,guard:=some (16,true)}) rfl (by kernel_rfl) (by kernel_rfl) (by kernel_rfl) (fun _ _ _ h=>h) (Or.inr ⟨by rfl,rfl⟩) hHeld ?_
 try simp only[Act.put,List.setIfInBounds_toArray,List.set_cons_zero,List.set_cons_succ]
 refine wpAnyH_take (i:=19) (oi:={dst:=some 22,op:=Op.fieldAddr 148 (Operand.tmp 21) 3,type:=0,pos:=_,after:=_,guard:=some (16,true)}) rfl (by kernel_rfl) (by kernel_rfl) (by kernel_rfl) (fun _ _ _ h=>h) (Or.inr ⟨by rfl,rfl⟩) hHeld ?_
 try simp only[Act.put,List.setIfInBounds_toArray,List.set_cons_zero,List.set_cons_succ]
 refine wpAnyH_take (i:=20) (oi:={dst:=some 23,op:=Op.call {callee:=Callee.value (Operand.func 183),args:=#[Operand.tmp 22],argTypes:=#[142]},type:=4,pos:=_,after:=_,guard:=some (16,true)}) rfl (by kernel_rfl) (by kernel_rfl) (by kernel_rfl) (fun _ _ _ h=>h) (Or.inr ⟨by rfl,rfl⟩) hHeld ?_
 try simp only[Act.put,List.setIfInBounds_toArray,List.set_cons_zero,List.set_cons_succ]
 refine wpAnyH_take (i:=21) (oi:={dst:=some 24,op:=Op.unOp UnOp.not 4 (Operand.tmp 23),type:=4,pos:=_,after:=_,guard:=some (16,true)}) rfl (by kernel_rfl) (by kernel_rfl) (by kernel_rfl) (fun _ _ _ h=>h) (Or.inr ⟨by rfl,rfl⟩) hHeld ?_
 try simp only[Act.put,List.setIfInBounds_toArray,List.set_cons_zero,List.set_cons_succ]
 refine wpAnyH_take (i:=22) (oi:={dst:=some 25,op:=Op.pick (Operand.tmp 19) (Operand.tmp 24) (Operand.const (Value.bool false)),type:=4,pos:=_,after:=_,guard:=some (5,false)}) (v:= ?_) rfl (by kernel_rfl) (by kernel_rfl) (by kernel_rfl) (fun _ _ _ h=>h) (Or.inl ⟨by rfl,?_⟩) hHeld ?_
 rotate_left
 · (intro w hSw;(try dsimp only at hSw);first |(go_simp;done)|(go_simp;with_reducible rfl))
 try simp only[Act.put,List.setIfInBounds_toArray,List.set_cons_zero,List.set_cons_succ]
 refine wpAnyH_take (i:=23) (oi:={dst:=some 26,op:=Op.pick (Operand.tmp 8) (Operand.const (Value.bool true)) (Operand.tmp 25),type:=4,pos:=_,after:=_,guard:=none}) (v:= ?_) rfl (by kernel_rfl) (by kernel_rfl) (by kernel_rfl) (fun _ _ _ h=>h) (Or.inl ⟨by rfl,?_⟩) hHeld ?_
 rotate_left
 · (intro w hSw;(try dsimp only at hSw);first |(go_simp;done)|(go_simp;with_reducible rfl))
 try simp only[Act.put,List.setIfInBounds_toArray,List.set_cons_zero,List.set_cons_succ]
 refine wpAnyH_done (by kernel_rfl) ?_ _;have HT:=hid hHeld.2.2.out;go_wp2;go_ret;exact⟨rfl,HT.out⟩
theorem zad3 {w:World} {b o e p m:Nat} {q:Bool} {l v mj:Nat} (HS:S6 w b o e p m q l v mj w.drew) (HB:Hid (∀W,S6 w b o e p m q l v mj W→Calls Tryz.prog 169 #[.agg #[.int .i64 e,.int .i64 p,.int .i64 m,.bool q,.int .i64 l,.int .u64 v]] W fun r w'=>r= .returned (.bool false)∧S6 w b o e p m q l v mj w')) {M:Nat} (HM:Hid (∀W,S6 w b o e p m q l v mj W→Calls Tryz.prog 174 #[.pointer (some ⟨b,o+3,none⟩)] W fun r w'=>r= .returned (.int .i64 M)∧S6 w b o e p m q l v mj w')) (zm:((M:Int)==(mj:Int))=true) (HO:Hid (∀W,S6 w b o e p m q l v mj W→Calls Tryz.prog 183 #[.pointer (some ⟨b,o+3,none⟩)] W fun r w'=>r= .returned (.bool false)∧S6 w b o e p m q l v mj w')) :
  Calls Tryz.prog 168 #[.pointer (some ⟨b,o,none⟩)] w fun r w'=>r= .returned (.int .i64 0)∧Below w.heap.size w w':=by
 go_enter Tryz.func168,Tryz.ntmps168;(go_wp2_with fail);refine wp_region_held_drew (S:=S6 w b o e p m q l v mj) (by kernel_rfl) HS (fun hHeld=> ?_);refine wpAnyH_take (i:=0) (oi:={dst:=some 3,op:=Op.move (Operand.tmp 0),type:=96,pos:=_,after:=_,guard:=none}) (v:= ?_) rfl (by kernel_rfl) (by kernel_rfl) (by kernel_rfl) (fun _ _ _ h=>h) (Or.inl ⟨by rfl,?_⟩) hHeld ?_
 rotate_left
 · (intro w hSw;(try dsimp only at hSw);first |(go_simp;done)|(go_simp;with_reducible rfl))
 try simp only[Act.put,List.setIfInBounds_toArray,List.set_cons_zero,List.set_cons_succ]
 refine wpAnyH_take (i:=1) (oi:={dst:=some 4,op:=Op.nilCheck (Operand.tmp 3),type:=0,pos:=_,after:=_,guard:=none}) (v:= ?_) rfl (by kernel_rfl) (by kernel_rfl) (by kernel_rfl) (fun _ _ _ h=>h) (Or.inl ⟨by rfl,?_⟩) hHeld ?_
 rotate_left
 · (intro w hSw;(try dsimp only at hSw);first |(go_simp;done)|(go_simp;with_reducible rfl))
 try simp only[Act.put,List.setIfInBounds_toArray,List.set_cons_zero,List.set_cons_succ]
 refine wpAnyH_take (i:=2) (oi:={dst:=some 5,op:=Op.fieldAddr 148 (Operand.tmp 4) 3,type:=0,pos:=_,after:=_,guard:=none}) (v:= ?_) rfl (by kernel_rfl) (by kernel_rfl) (by kernel_rfl) (fun _ _ _ h=>h) (Or.inl ⟨by rfl,?_⟩) hHeld ?_
 rotate_left
 · (intro w hSw;(try dsimp only at hSw);first |(go_simp;done)|(go_simp;with_reducible rfl))
 try simp only[Act.put,List.setIfInBounds_toArray,List.set_cons_zero,List.set_cons_succ]
 refine wpAnyH_take (i:=3) (oi:={dst:=some 6,op:=Op.load 142 (Operand.tmp 5),type:=142,pos:=_,after:=_,guard:=none}) (v:= ?_) rfl (by kernel_rfl) (by kernel_rfl) (by kernel_rfl) (fun _ _ _ h=>h) (Or.inl ⟨by rfl,?_⟩) hHeld ?_
 rotate_left
 · (intro w hSw;(try dsimp only at hSw);first |(go_simp;done)|(go_simp;with_reducible rfl))
 try simp only[Act.put,List.setIfInBounds_toArray,List.set_cons_zero,List.set_cons_succ]
 refine wpAnyH_ready (rs:=[4]) (by kernel_rfl) (by simp) ?_;refine AllReadyH.cons (o:={dst:=some 7,op:=Op.call {callee:=Callee.value (Operand.func 169),args:=#[Operand.tmp 6],argTypes:=#[142]},type:=4,pos:=_,after:=_,guard:=none}) rfl (fun K hK=> ?_) AllReadyH.nil;go_simp
 go_at_call 169
 refine(HB.out _ hHeld).mono ?_;rintro r v1 ⟨rfl,h1⟩;(go_wp2_with fail);clear hHeld;refine hK.out _ _ h1 (fun hHeld=> ?_);clear hK K
 try simp only[Act.put,List.setIfInBounds_toArray,List.set_cons_zero,List.set_cons_succ]
 refine wpAnyH_take (i:=5) (oi:={dst:=some 8,op:=Op.move (Operand.tmp 7),type:=4,pos:=_,after:=_,guard:=none}) (v:= ?_) rfl (by kernel_rfl) (by kernel_rfl) (by kernel_rfl) (fun _ _ _ h=>h) (Or.inl ⟨by rfl,?_⟩) hHeld ?_
 rotate_left
 · (intro w hSw;(try dsimp only at hSw);first |(go_simp;done)|(go_simp;with_reducible rfl))
 try simp only[Act.put,List.setIfInBounds_toArray,List.set_cons_zero,List.set_cons_succ]
 refine wpAnyH_take (i:=6) (oi:={dst:=some 9,op:=Op.move (Operand.tmp 0),type:=96,pos:=_,after:=_,guard:=some (5,false)}) (v:= ?_) rfl (by kernel_rfl) (by kernel_rfl) (by kernel_rfl) (fun _ _ _ h=>h) (Or.inl ⟨by rfl,?_⟩) hHeld ?_
 rotate_left
 · (intro w hSw;(try dsimp only at hSw);first |(go_simp;done)|(go_simp;with_reducible rfl))
 try simp only[Act.put,List.setIfInBounds_toArray,List.set_cons_zero,List.set_cons_succ]
 refine wpAnyH_take (i:=7) (oi:={dst:=some 10,op:=Op.nilCheck (Operand.tmp 9),type:=0,pos:=_,after:=_,guard:=some (5,false)}) (v:= ?_) rfl (by kernel_rfl) (by kernel_rfl) (by kernel_rfl) (fun _ _ _ h=>h) (Or.inl ⟨by rfl,?_⟩) hHeld ?_
 rotate_left
 · (intro w hSw;(try dsimp only at hSw);first |(go_simp;done)|(go_simp;with_reducible rfl))
 try simp only[Act.put,List.setIfInBounds_toArray,List.set_cons_zero,List.set_cons_succ]
 refine wpAnyH_take (i:=8) (oi:={dst:=some 11,op:=Op.fieldAddr 148 (Operand.tmp 10) 3,type:=0,pos:=_,after:=_,guard:=some (5,false)}) (v:= ?_) rfl (by kernel_rfl) (by kernel_rfl) (by kernel_rfl) (fun _ _ _ h=>h) (Or.inl ⟨by rfl,?_⟩) hHeld ?_
 rotate_left
 · (intro w hSw;(try dsimp only at hSw);first |(go_simp;done)|(go_simp;with_reducible rfl))
 try simp only[Act.put,List.setIfInBounds_toArray,List.set_cons_zero,List.set_cons_succ]
 refine wpAnyH_take (i:=10) (oi:={dst:=some 13,op:=Op.move (Operand.tmp 0),type:=96,pos:=_,after:=_,guard:=some (5,false)}) (v:= ?_) rfl (by kernel_rfl) (by kernel_rfl) (by kernel_rfl) (fun _ _ _ h=>h) (Or.inl ⟨by rfl,?_⟩) hHeld ?_
 rotate_left
 · (intro w hSw;(try dsimp only at hSw);first |(go_simp;done)|(go_simp;with_reducible rfl))
 try simp only[Act.put,List.setIfInBounds_toArray,List.set_cons_zero,List.set_cons_succ]
 refine wpAnyH_take (i:=11) (oi:={dst:=some 14,op:=Op.nilCheck (Operand.tmp 13),type:=0,pos:=_,after:=_,guard:=some (5,false)}) (v:= ?_) rfl (by kernel_rfl) (by kernel_rfl) (by kernel_rfl) (fun _ _ _ h=>h) (Or.inl ⟨by rfl,?_⟩) hHeld ?_
 rotate_left
 · (intro w hSw;(try dsimp only at hSw);first |(go_simp;done)|(go_simp;with_reducible rfl))
 try simp only[Act.put,List.setIfInBounds_toArray,List.set_cons_zero,List.set_cons_succ]
 refine wpAnyH_take (i:=12) (oi:={dst:=some 15,op:=Op.fieldAddr 148 (Operand.tmp 14) 4,type:=0,pos:=_,after:=_,guard:=some (5,false)}) (v:= ?_) rfl (by kernel_rfl) (by kernel_rfl) (by kernel_rfl) (fun _ _ _ h=>h) (Or.inl ⟨by rfl,?_⟩) hHeld ?_
 rotate_left
 · (intro w hSw;(try dsimp only at hSw);first |(go_simp;done)|(go_simp;with_reducible rfl))
 try simp only[Act.put,List.setIfInBounds_toArray,List.set_cons_zero,List.set_cons_succ]
 refine wpAnyH_take (i:=13) (oi:={dst:=some 16,op:=Op.fieldAddr 144 (Operand.tmp 15) 0,type:=0,pos:=_,after:=_,guard:=some (5,false)}) (v:= ?_) rfl (by kernel_rfl) (by kernel_rfl) (by kernel_rfl) (fun _ _ _ h=>h) (Or.inl ⟨by rfl,?_⟩) hHeld ?_
 rotate_left
 · (intro w hSw;(try dsimp only at hSw);first |(go_simp;done)|(go_simp;with_reducible rfl))
 try simp only[Act.put,List.setIfInBounds_toArray,List.set_cons_zero,List.set_cons_succ]
 refine wpAnyH_take (i:=14) (oi:={dst:=some 17,op:=Op.load 3 (Operand.tmp 16),type:=3,pos:=_,after:=_,guard:=some (5,false)}) (v:= ?_) rfl (by kernel_rfl) (by kernel_rfl) (by kernel_rfl) (fun _ _ _ h=>h) (Or.inl ⟨by rfl,?_⟩) hHeld ?_
 rotate_left
 · (intro w hSw;(try dsimp only at hSw);first |(go_simp;done)|(go_simp;with_reducible rfl))
 try simp only[Act.put,List.setIfInBounds_toArray,List.set_cons_zero,List.set_cons_succ]
 refine wpAnyH_ready (rs:=[9]) (by kernel_rfl) (by simp) ?_;refine AllReadyH.cons (o:={dst:=some 12,op:=Op.call {callee:=Callee.value (Operand.func 174),args:=#[Operand.tmp 11],argTypes:=#[142]},type:=3,pos:=_,after:=_,guard:=some (5,false)}) rfl (fun K hK=> ?_) AllReadyH.nil;go_simp
 go_at_call 174
 refine(HM.out _ hHeld).mono ?_;rintro r v1 ⟨rfl,h1⟩;(go_wp2_with fail);clear hHeld;refine hK.out _ _ h1 (fun hHeld=> ?_);clear hK K
 try simp only[Act.put,List.setIfInBounds_toArray,List.set_cons_zero,List.set_cons_succ]
 refine wpAnyH_take (i:=15) (oi:={dst:=some 18,op:=Op.binOp BinOp.eql 3 (Operand.tmp 12) (Operand.tmp 17) 3,type:=4,pos:=_,after:=_,guard:=some (5,false)}) (v:= ?_) rfl (by kernel_rfl) (by kernel_rfl) (by kernel_rfl) (fun _ _ _ h=>h) (Or.inl ⟨by rfl,?_⟩) hHeld ?_
 rotate_left
 · (intro w hSw;(try dsimp only at hSw);first |(go_simp;done)|(go_simp;with_reducible rfl))
 try simp only[Act.put,List.setIfInBounds_toArray,List.set_cons_zero,List.set_cons_succ]
 refine wpAnyH_take (i:=16) (oi:={dst:=some 19,op:=Op.move (Operand.tmp 18),type:=4,pos:=_,after:=_,guard:=some (5,false)}) (v:= ?_) rfl (by kernel_rfl) (by kernel_rfl) (by kernel_rfl) (fun _ _ _ h=>h) (Or.inl ⟨by rfl,?_⟩) hHeld ?_
 rotate_left
 · (intro w hSw;(try dsimp only at hSw);first |(go_simp;done)|(go_simp;with_reducible rfl))
 try simp only[Act.put,List.setIfInBounds_toArray,List.set_cons_zero,List.set_cons_succ]
 refine wpAnyH_take (i:=17) (oi:={dst:=some 20,op:=Op.move (Operand.tmp 0),type:=96,pos:=_,after:=_,guard:=some (16,true)}) (v:= ?_) rfl (by kernel_rfl) (by kernel_rfl) (by kernel_rfl) (fun _ _ _ h=>h) (Or.inl ⟨by rfl,?_⟩) hHeld ?_
 rotate_left
 · (intro w hSw;(try dsimp only at hSw);first |(go_simp;done)|(go_simp;with_reducible rfl))
 try simp only[Act.put,List.setIfInBounds_toArray,List.set_cons_zero,List.set_cons_succ]
 refine wpAnyH_take (i:=18) (oi:={dst:=some 21,op:=Op.nilCheck (Operand.tmp 20),type:=0,pos:=_,after:=_,guard:=some (16,true)}) (v:= ?_) rfl (by kernel_rfl) (by kernel_rfl) (by kernel_rfl) (fun _ _ _ h=>h) (Or.inl ⟨by rfl,?_⟩) hHeld ?_
 rotate_left
 · (intro w hSw;(try dsimp only at hSw);first |(go_simp;done)|(go_simp;with_reducible rfl))
 try simp only[Act.put,List.setIfInBounds_toArray,List.set_cons_zero,List.set_cons_succ]
 refine wpAnyH_take (i:=19) (oi:={dst:=some 22,op:=Op.fieldAddr 148 (Operand.tmp 21) 3,type:=0,pos:=_,after:=_,guard:=some (16,true)}) (v:= ?_) rfl (by kernel_rfl) (by kernel_rfl) (by kernel_rfl) (fun _ _ _ h=>h) (Or.inl ⟨by rfl,?_⟩) hHeld ?_
 rotate_left
 · (intro w hSw;(try dsimp only at hSw);first |(go_simp;done)|(go_simp;with_reducible rfl))
 try simp only[Act.put,List.setIfInBounds_toArray,List.set_cons_zero,List.set_cons_succ]
 refine wpAnyH_ready (rs:=[20]) (by kernel_rfl) (by simp) ?_;refine AllReadyH.cons (o:={dst:=some 23,op:=Op.call {callee:=Callee.value (Operand.func 183),args:=#[Operand.tmp 22],argTypes:=#[142]},type:=4,pos:=_,after:=_,guard:=some (16,true)}) rfl (fun K hK=> ?_) AllReadyH.nil;go_simp
 go_at_call 183
 refine(HO.out _ hHeld).mono ?_;rintro r v1 ⟨rfl,h1⟩;(go_wp2_with fail);clear hHeld;refine hK.out _ _ h1 (fun hHeld=> ?_);clear hK K
 try simp only[Act.put,List.setIfInBounds_toArray,List.set_cons_zero,List.set_cons_succ]
 refine wpAnyH_take (i:=21) (oi:={dst:=some 24,op:=Op.unOp UnOp.not 4 (Operand.tmp 23),type:=4,pos:=_,after:=_,guard:=some (16,true)}) (v:= ?_) rfl (by kernel_rfl) (by kernel_rfl) (by kernel_rfl) (fun _ _ _ h=>h) (Or.inl ⟨by rfl,?_⟩) hHeld ?_
 rotate_left
 · (intro w hSw;(try dsimp only at hSw);first |(go_simp;done)|(go_simp;with_reducible rfl))
 try simp only[Act.put,List.setIfInBounds_toArray,List.set_cons_zero,List.set_cons_succ]
 refine wpAnyH_take (i:=22) (oi:={dst:=some 25,op:=Op.pick (Operand.tmp 19) (Operand.tmp 24) (Operand.const (Value.bool false)),type:=4,pos:=_,after:=_,guard:=some (5,false)}) (v:= ?_) rfl (by kernel_rfl) (by kernel_rfl) (by kernel_rfl) (fun _ _ _ h=>h) (Or.inl ⟨by rfl,?_⟩) hHeld ?_
 rotate_left
 · (intro w hSw;(try dsimp only at hSw);first |(go_simp;done)|(go_simp;with_reducible rfl))
 try simp only[Act.put,List.setIfInBounds_toArray,List.set_cons_zero,List.set_cons_succ]
 refine wpAnyH_take (i:=23) (oi:={dst:=some 26,op:=Op.pick (Operand.tmp 8) (Operand.const (Value.bool true)) (Operand.tmp 25),type:=4,pos:=_,after:=_,guard:=none}) (v:= ?_) rfl (by kernel_rfl) (by kernel_rfl) (by kernel_rfl) (fun _ _ _ h=>h) (Or.inl ⟨by rfl,?_⟩) hHeld ?_
 rotate_left
 · (intro w hSw;(try dsimp only at hSw);first |(go_simp;done)|(go_simp;with_reducible rfl))
 try simp only[Act.put,List.setIfInBounds_toArray,List.set_cons_zero,List.set_cons_succ]
 refine wpAnyH_done (by kernel_rfl) ?_ _;have HT:=hid hHeld.2.2.out;go_wp2;go_ret;exact⟨rfl,HT.out⟩
theorem zac8 {w:World} {b o e p m:Nat} {q:Bool} {l v mj:Nat} (HS:S6 w b o e p m q l v mj w.drew) (HB:Hid (∀W,S6 w b o e p m q l v mj W→Calls Tryz.prog 169 #[.agg #[.int .i64 e,.int .i64 p,.int .i64 m,.bool q,.int .i64 l,.int .u64 v]] W fun r w'=>r= .returned (.bool false)∧S6 w b o e p m q l v mj w')) {M:Nat} (HM:Hid (∀W,S6 w b o e p m q l v mj W→Calls Tryz.prog 174 #[.pointer (some ⟨b,o+3,none⟩)] W fun r w'=>r= .returned (.int .i64 M)∧S6 w b o e p m q l v mj w')) (zm:((M:Int)==(mj:Int))=true) (HO:Hid (∀W,S6 w b o e p m q l v mj W→Calls Tryz.prog 183 #[.pointer (some ⟨b,o+3,none⟩)] W fun r w'=>r= .returned (.bool true)∧S6 w b o e p m q l v mj w')) :
  Calls Tryz.prog 168 #[.pointer (some ⟨b,o,none⟩)] w fun r w'=>r= .returned (.int .i64 2)∧Below w.heap.size w w':=by
 go_enter Tryz.func168,Tryz.ntmps168;(go_wp2_with fail);refine wp_region_held_drew (S:=S6 w b o e p m q l v mj) (by kernel_rfl) HS (fun hHeld=> ?_);refine wpAnyH_take (i:=0) (oi:={dst:=some 3,op:=Op.move (Operand.tmp 0),type:=96,pos:=_,after:=_,guard:=none}) (v:= ?_) rfl (by kernel_rfl) (by kernel_rfl) (by kernel_rfl) (fun _ _ _ h=>h) (Or.inl ⟨by rfl,?_⟩) hHeld ?_
 rotate_left
 · (intro w hSw;(try dsimp only at hSw);first |(go_simp;done)|(go_simp;with_reducible rfl))
 try simp only[Act.put,List.setIfInBounds_toArray,List.set_cons_zero,List.set_cons_succ]
 refine wpAnyH_take (i:=1) (oi:={dst:=some 4,op:=Op.nilCheck (Operand.tmp 3),type:=0,pos:=_,after:=_,guard:=none}) (v:= ?_) rfl (by kernel_rfl) (by kernel_rfl) (by kernel_rfl) (fun _ _ _ h=>h) (Or.inl ⟨by rfl,?_⟩) hHeld ?_
 rotate_left
 · (intro w hSw;(try dsimp only at hSw);first |(go_simp;done)|(go_simp;with_reducible rfl))
 try simp only[Act.put,List.setIfInBounds_toArray,List.set_cons_zero,List.set_cons_succ]
 refine wpAnyH_take (i:=2) (oi:={dst:=some 5,op:=Op.fieldAddr 148 (Operand.tmp 4) 3,type:=0,pos:=_,after:=_,guard:=none}) (v:= ?_) rfl (by kernel_rfl) (by kernel_rfl) (by kernel_rfl) (fun _ _ _ h=>h) (Or.inl ⟨by rfl,?_⟩) hHeld ?_
 rotate_left
 · (intro w hSw;(try dsimp only at hSw);first |(go_simp;done)|(go_simp;with_reducible rfl))
 try simp only[Act.put,List.setIfInBounds_toArray,List.set_cons_zero,List.set_cons_succ]
 refine wpAnyH_take (i:=3) (oi:={dst:=some 6,op:=Op.load 142 (Operand.tmp 5),type:=142,pos:=_,after:=_,guard:=none}) (v:= ?_) rfl (by kernel_rfl) (by kernel_rfl) (by kernel_rfl) (fun _ _ _ h=>h) (Or.inl ⟨by rfl,?_⟩) hHeld ?_
 rotate_left
 · (intro w hSw;(try dsimp only at hSw);first |(go_simp;done)|(go_simp;with_reducible rfl))
 try simp only[Act.put,List.setIfInBounds_toArray,List.set_cons_zero,List.set_cons_succ]
 refine wpAnyH_ready (rs:=[4]) (by kernel_rfl) (by simp) ?_;refine AllReadyH.cons (o:={dst:=some 7,op:=Op.call {callee:=Callee.value (Operand.func 169),args:=#[Operand.tmp 6],argTypes:=#[142]},type:=4,pos:=_,after:=_,guard:=none}) rfl (fun K hK=> ?_) AllReadyH.nil;go_simp
 go_at_call 169
 refine(HB.out _ hHeld).mono ?_;rintro r v1 ⟨rfl,h1⟩;(go_wp2_with fail);clear hHeld;refine hK.out _ _ h1 (fun hHeld=> ?_);clear hK K
 try simp only[Act.put,List.setIfInBounds_toArray,List.set_cons_zero,List.set_cons_succ]
 refine wpAnyH_take (i:=5) (oi:={dst:=some 8,op:=Op.move (Operand.tmp 7),type:=4,pos:=_,after:=_,guard:=none}) (v:= ?_) rfl (by kernel_rfl) (by kernel_rfl) (by kernel_rfl) (fun _ _ _ h=>h) (Or.inl ⟨by rfl,?_⟩) hHeld ?_
 rotate_left
 · (intro w hSw;(try dsimp only at hSw);first |(go_simp;done)|(go_simp;with_reducible rfl))
 try simp only[Act.put,List.setIfInBounds_toArray,List.set_cons_zero,List.set_cons_succ]
 refine wpAnyH_take (i:=6) (oi:={dst:=some 9,op:=Op.move (Operand.tmp 0),type:=96,pos:=_,after:=_,guard:=some (5,false)}) (v:= ?_) rfl (by kernel_rfl) (by kernel_rfl) (by kernel_rfl) (fun _ _ _ h=>h) (Or.inl ⟨by rfl,?_⟩) hHeld ?_
 rotate_left
 · (intro w hSw;(try dsimp only at hSw);first |(go_simp;done)|(go_simp;with_reducible rfl))
 try simp only[Act.put,List.setIfInBounds_toArray,List.set_cons_zero,List.set_cons_succ]
 refine wpAnyH_take (i:=7) (oi:={dst:=some 10,op:=Op.nilCheck (Operand.tmp 9),type:=0,pos:=_,after:=_,guard:=some (5,false)}) (v:= ?_) rfl (by kernel_rfl) (by kernel_rfl) (by kernel_rfl) (fun _ _ _ h=>h) (Or.inl ⟨by rfl,?_⟩) hHeld ?_
 rotate_left
 · (intro w hSw;(try dsimp only at hSw);first |(go_simp;done)|(go_simp;with_reducible rfl))
 try simp only[Act.put,List.setIfInBounds_toArray,List.set_cons_zero,List.set_cons_succ]
 refine wpAnyH_take (i:=8) (oi:={dst:=some 11,op:=Op.fieldAddr 148 (Operand.tmp 10) 3,type:=0,pos:=_,after:=_,guard:=some (5,false)}) (v:= ?_) rfl (by kernel_rfl) (by kernel_rfl) (by kernel_rfl) (fun _ _ _ h=>h) (Or.inl ⟨by rfl,?_⟩) hHeld ?_
 rotate_left
 · (intro w hSw;(try dsimp only at hSw);first |(go_simp;done)|(go_simp;with_reducible rfl))
 try simp only[Act.put,List.setIfInBounds_toArray,List.set_cons_zero,List.set_cons_succ]
 refine wpAnyH_take (i:=10) (oi:={dst:=some 13,op:=Op.move (Operand.tmp 0),type:=96,pos:=_,after:=_,guard:=some (5,false)}) (v:= ?_) rfl (by kernel_rfl) (by kernel_rfl) (by kernel_rfl) (fun _ _ _ h=>h) (Or.inl ⟨by rfl,?_⟩) hHeld ?_
 rotate_left
 · (intro w hSw;(try dsimp only at hSw);first |(go_simp;done)|(go_simp;with_reducible rfl))
 try simp only[Act.put,List.setIfInBounds_toArray,List.set_cons_zero,List.set_cons_succ]
 refine wpAnyH_take (i:=11) (oi:={dst:=some 14,op:=Op.nilCheck (Operand.tmp 13),type:=0,pos:=_,after:=_,guard:=some (5,false)}) (v:= ?_) rfl (by kernel_rfl) (by kernel_rfl) (by kernel_rfl) (fun _ _ _ h=>h) (Or.inl ⟨by rfl,?_⟩) hHeld ?_
 rotate_left
 · (intro w hSw;(try dsimp only at hSw);first |(go_simp;done)|(go_simp;with_reducible rfl))
 try simp only[Act.put,List.setIfInBounds_toArray,List.set_cons_zero,List.set_cons_succ]
 refine wpAnyH_take (i:=12) (oi:={dst:=some 15,op:=Op.fieldAddr 148 (Operand.tmp 14) 4,type:=0,pos:=_,after:=_,guard:=some (5,false)}) (v:= ?_) rfl (by kernel_rfl) (by kernel_rfl) (by kernel_rfl) (fun _ _ _ h=>h) (Or.inl ⟨by rfl,?_⟩) hHeld ?_
 rotate_left
 · (intro w hSw;(try dsimp only at hSw);first |(go_simp;done)|(go_simp;with_reducible rfl))
 try simp only[Act.put,List.setIfInBounds_toArray,List.set_cons_zero,List.set_cons_succ]
 refine wpAnyH_take (i:=13) (oi:={dst:=some 16,op:=Op.fieldAddr 144 (Operand.tmp 15) 0,type:=0,pos:=_,after:=_,guard:=some (5,false)}) (v:= ?_) rfl (by kernel_rfl) (by kernel_rfl) (by kernel_rfl) (fun _ _ _ h=>h) (Or.inl ⟨by rfl,?_⟩) hHeld ?_
 rotate_left
 · (intro w hSw;(try dsimp only at hSw);first |(go_simp;done)|(go_simp;with_reducible rfl))
 try simp only[Act.put,List.setIfInBounds_toArray,List.set_cons_zero,List.set_cons_succ]
 refine wpAnyH_take (i:=14) (oi:={dst:=some 17,op:=Op.load 3 (Operand.tmp 16),type:=3,pos:=_,after:=_,guard:=some (5,false)}) (v:= ?_) rfl (by kernel_rfl) (by kernel_rfl) (by kernel_rfl) (fun _ _ _ h=>h) (Or.inl ⟨by rfl,?_⟩) hHeld ?_
 rotate_left
 · (intro w hSw;(try dsimp only at hSw);first |(go_simp;done)|(go_simp;with_reducible rfl))
 try simp only[Act.put,List.setIfInBounds_toArray,List.set_cons_zero,List.set_cons_succ]
 refine wpAnyH_ready (rs:=[9]) (by kernel_rfl) (by simp) ?_;refine AllReadyH.cons (o:={dst:=some 12,op:=Op.call {callee:=Callee.value (Operand.func 174),args:=#[Operand.tmp 11],argTypes:=#[142]},type:=3,pos:=_,after:=_,guard:=some (5,false)}) rfl (fun K hK=> ?_) AllReadyH.nil;go_simp
 go_at_call 174
 refine(HM.out _ hHeld).mono ?_;rintro r v1 ⟨rfl,h1⟩;(go_wp2_with fail);clear hHeld;refine hK.out _ _ h1 (fun hHeld=> ?_);clear hK K
 try simp only[Act.put,List.setIfInBounds_toArray,List.set_cons_zero,List.set_cons_succ]
 refine wpAnyH_take (i:=15) (oi:={dst:=some 18,op:=Op.binOp BinOp.eql 3 (Operand.tmp 12) (Operand.tmp 17) 3,type:=4,pos:=_,after:=_,guard:=some (5,false)}) (v:= ?_) rfl (by kernel_rfl) (by kernel_rfl) (by kernel_rfl) (fun _ _ _ h=>h) (Or.inl ⟨by rfl,?_⟩) hHeld ?_
 rotate_left
 · (intro w hSw;(try dsimp only at hSw);first |(go_simp;done)|(go_simp;with_reducible rfl))
 try simp only[Act.put,List.setIfInBounds_toArray,List.set_cons_zero,List.set_cons_succ]
 refine wpAnyH_take (i:=16) (oi:={dst:=some 19,op:=Op.move (Operand.tmp 18),type:=4,pos:=_,after:=_,guard:=some (5,false)}) (v:= ?_) rfl (by kernel_rfl) (by kernel_rfl) (by kernel_rfl) (fun _ _ _ h=>h) (Or.inl ⟨by rfl,?_⟩) hHeld ?_
 rotate_left
 · (intro w hSw;(try dsimp only at hSw);first |(go_simp;done)|(go_simp;with_reducible rfl))
 try simp only[Act.put,List.setIfInBounds_toArray,List.set_cons_zero,List.set_cons_succ]
 refine wpAnyH_take (i:=17) (oi:={dst:=some 20,op:=Op.move (Operand.tmp 0),type:=96,pos:=_,after:=_,guard:=some (16,true)}) (v:= ?_) rfl (by kernel_rfl) (by kernel_rfl) (by kernel_rfl) (fun _ _ _ h=>h) (Or.inl ⟨by rfl,?_⟩) hHeld ?_
 rotate_left
 · (intro w hSw;(try dsimp only at hSw);first |(go_simp;done)|(go_simp;with_reducible rfl))
 try simp only[Act.put,List.setIfInBounds_toArray,List.set_cons_zero,List.set_cons_succ]
 refine wpAnyH_take (i:=18) (oi:={dst:=some 21,op:=Op.nilCheck (Operand.tmp 20),type:=0,pos:=_,after:=_,guard:=some (16,true)}) (v:= ?_) rfl (by kernel_rfl) (by kernel_rfl) (by kernel_rfl) (fun _ _ _ h=>h) (Or.inl ⟨by rfl,?_⟩) hHeld ?_
 rotate_left
 · (intro w hSw;(try dsimp only at hSw);first |(go_simp;done)|(go_simp;with_reducible rfl))
 try simp only[Act.put,List.setIfInBounds_toArray,List.set_cons_zero,List.set_cons_succ]
 refine wpAnyH_take (i:=19) (oi:={dst:=some 22,op:=Op.fieldAddr 148 (Operand.tmp 21) 3,type:=0,pos:=_,after:=_,guard:=some (16,true)}) (v:= ?_) rfl (by kernel_rfl) (by kernel_rfl) (by kernel_rfl) (fun _ _ _ h=>h) (Or.inl ⟨by rfl,?_⟩) hHeld ?_
 rotate_left
 · (intro w hSw;(try dsimp only at hSw);first |(go_simp;done)|(go_simp;with_reducible rfl))
 try simp only[Act.put,List.setIfInBounds_toArray,List.set_cons_zero,List.set_cons_succ]
 refine wpAnyH_ready (rs:=[20]) (by kernel_rfl) (by simp) ?_;refine AllReadyH.cons (o:={dst:=some 23,op:=Op.call {callee:=Callee.value (Operand.func 183),args:=#[Operand.tmp 22],argTypes:=#[142]},type:=4,pos:=_,after:=_,guard:=some (16,true)}) rfl (fun K hK=> ?_) AllReadyH.nil;go_simp
 go_at_call 183
 refine(HO.out _ hHeld).mono ?_;rintro r v1 ⟨rfl,h1⟩;(go_wp2_with fail);clear hHeld;refine hK.out _ _ h1 (fun hHeld=> ?_);clear hK K
 try simp only[Act.put,List.setIfInBounds_toArray,List.set_cons_zero,List.set_cons_succ]
 refine wpAnyH_take (i:=21) (oi:={dst:=some 24,op:=Op.unOp UnOp.not 4 (Operand.tmp 23),type:=4,pos:=_,after:=_,guard:=some (16,true)}) (v:= ?_) rfl (by kernel_rfl) (by kernel_rfl) (by kernel_rfl) (fun _ _ _ h=>h) (Or.inl ⟨by rfl,?_⟩) hHeld ?_
 rotate_left
 · (intro w hSw;(try dsimp only at hSw);first |(go_simp;done)|(go_simp;with_reducible rfl))
 try simp only[Act.put,List.setIfInBounds_toArray,List.set_cons_zero,List.set_cons_succ]
 refine wpAnyH_take (i:=22) (oi:={dst:=some 25,op:=Op.pick (Operand.tmp 19) (Operand.tmp 24) (Operand.const (Value.bool false)),type:=4,pos:=_,after:=_,guard:=some (5,false)}) (v:= ?_) rfl (by kernel_rfl) (by kernel_rfl) (by kernel_rfl) (fun _ _ _ h=>h) (Or.inl ⟨by rfl,?_⟩) hHeld ?_
 rotate_left
 · (intro w hSw;(try dsimp only at hSw);first |(go_simp;done)|(go_simp;with_reducible rfl))
 try simp only[Act.put,List.setIfInBounds_toArray,List.set_cons_zero,List.set_cons_succ]
 refine wpAnyH_take (i:=23) (oi:={dst:=some 26,op:=Op.pick (Operand.tmp 8) (Operand.const (Value.bool true)) (Operand.tmp 25),type:=4,pos:=_,after:=_,guard:=none}) (v:= ?_) rfl (by kernel_rfl) (by kernel_rfl) (by kernel_rfl) (fun _ _ _ h=>h) (Or.inl ⟨by rfl,?_⟩) hHeld ?_
 rotate_left
 · (intro w hSw;(try dsimp only at hSw);first |(go_simp;done)|(go_simp;with_reducible rfl))
 try simp only[Act.put,List.setIfInBounds_toArray,List.set_cons_zero,List.set_cons_succ]
 refine wpAnyH_done (by kernel_rfl) ?_ _;have HT:=hid hHeld.2.2.out;go_wp2;go_ret;exact⟨rfl,HT.out⟩
end
end Go.Proofs.YtpaciekgbhoncaaGreat
