/-
  Parts: Subg, CinGen, CinFactB, CinWf, PinPure, PinNest, PinNestB, PinNestC, HeadNum.
-/
import Derived.Test.YtpaciekgbhoncaaGreatG0b
import Derived.Test.YtpaciekgbhoncaaGreatG0f
import Derived.Deep.QuietTactic
import Derived.Test.YtpaciekgbhoncaaGreatG0a
import Derived.Deep.RegionWith
set_option maxRecDepth 100000
set_option maxHeartbeats 16000000
open Go.Lib (hid)
namespace Go.Proofs.YtpaciekgbhoncaaGreat
section
open Go.RowKit
open Go.Lib
structure Subg (g:List Nat) (b o n:Nat) (w w':World):Prop where
 os:w'.os=w.os
 tape:w'.tape=w.tape
 output:w'.output=w.output
 size:w.heap.size≤w'.heap.size
 block:∀k,k<w.heap.size→k≠b→k∉g→w'.heap[k]? = w.heap[k]?
 shape:∀(c:Array Value) (t:TypeId) (fr:Nat×Nat),w.heap[b]? = some (.cells c t fr)→∃c':Array Value,w'.heap[b]? = some (.cells c' t fr)∧c'.size=c.size
 cell:∀k,(k<o∨o+n≤k)→w'.cell? ⟨b,k,none⟩=w.cell? ⟨b,k,none⟩
theorem Sub.subg {b o n:Nat} {w w':World} (h:Sub b o n w w') (g:List Nat):Subg g b o n w w' :=
 ⟨h.step.os,h.step.tape,h.step.output,h.step.size,fun k hk hb _=>h.step.block k hk (by simpa using hb),h.shape,h.cell⟩
theorem Subg.refl (g:List Nat) (b o n:Nat) (w:World):Subg g b o n w w:=(Sub.refl b o n w).subg g
theorem Subg.trans {g g2:List Nat} {b o n:Nat} {w w1 w2:World} (h:Subg g b o n w w1) (k:Subg g2 b o n w1 w2) (hg:∀x∈g2,x∈g∨w.heap.size≤x):Subg g b o n w w2 :=
  ⟨k.os.trans h.os,k.tape.trans h.tape,k.output.trans h.output,Nat.le_trans h.size k.size,
   fun i hi hb hn=>(k.block i (Nat.lt_of_lt_of_le hi h.size) hb (fun e=>(hg i e).elim hn (fun h=>by omega))).trans (h.block i hi hb hn),
   fun c t fr hc=>by
    obtain⟨c1,h1,s1⟩:=h.shape c t fr hc;obtain⟨c2,h2,s2⟩:=k.shape c1 t fr h1;exact⟨c2,h2,s2.trans s1⟩,fun i hi=>(k.cell i hi).trans (h.cell i hi)⟩
theorem Subg.tr {g:List Nat} {b o n:Nat} {w w1 w2:World} (h:Subg g b o n w w1) (k:Subg g b o n w1 w2):Subg g b o n w w2:=h.trans k (fun _ h=> .inl h)
theorem Subg.widen {g g':List Nat} {b o n o' n':Nat} {w w':World} (h:Subg g b o n w w') (hg:∀x∈g,x∈g') (h1:o'≤o) (h2:o+n≤o'+n'):Subg g' b o' n' w w' :=
 ⟨h.os,h.tape,h.output,h.size,fun k hk hb hn=>h.block k hk hb (fun e=>hn (hg k e)),h.shape,fun k hk=>h.cell k (by omega)⟩
theorem Subg.drewN {g:List Nat} {b o n:Nat} {w w':World} (h:Subg g b o n w w') (q:Nat):Subg g b o n w (w'.drewN q):=⟨h.os,h.tape,h.output,h.size,h.block,h.shape,h.cell⟩
theorem zae {w w':World} {b:Nat} (h:Below w.heap.size w w') (hb:b<w.heap.size) (g:List Nat) (o n:Nat):Subg g b o n w w':=(zbr h hb o n).subg g
theorem zmi {g:List Nat} {b o n k j:Nat} (w:World) (hk:k∈g) (hb:k≠b) (v:Value):Subg g b o n w (w.setCell ⟨k,j,none⟩ v) :=
  ⟨rfl,rfl,rfl,by simp[World.setCell],fun i _ _ hn=>Below.heap_setCell w ⟨k,j,none⟩ v i (fun e=>hn (e▸hk)),
   fun c _ _ hc=>⟨c,(Below.heap_setCell w ⟨k,j,none⟩ v b (fun e=>hb e.symm)).trans hc,rfl⟩,fun i _=>World.cell?_of_block (w:=w) (Below.heap_setCell w ⟨k,j,none⟩ v b (fun e=>hb e.symm))⟩
theorem zc6 {g:List Nat} {b o n:Nat} {w w':World} {row:Option Nat} (h:w.grownBy w' row) (hr:∀k,row=some k→k∈g) (hb:row≠some b) (hl:b<w.heap.size):Subg g b o n w w' :=
  ⟨h.os,h.tape,h.output,h.size,fun k hk _ hn=>h.block k hk (fun e=>hn (hr k e.symm)),
   fun c _ _ hc=>⟨c,(h.block b hl (fun e=>hb e.symm)).trans hc,rfl⟩,fun _ _=>World.cell?_of_block (w:=w) (h.block b hl (fun e=>hb e.symm))⟩
theorem Subg.frozen {g:List Nat} {b o n:Nat} {w w':World} (h:Subg g b o n w w') (c:Array Value) (t:TypeId) (fr:Nat×Nat) (hc:w.heap[b]? = some (.cells c t fr)) (k:Nat):w'.frozen? ⟨b,k,none⟩=w.frozen? ⟨b,k,none⟩:=by
 obtain⟨c',h',_⟩:=h.shape c t fr hc;unfold World.frozen?;simp only[hc,h']
theorem At.subg {g:List Nat} {w w':World} {b o n o':Nat} {vs:List Value} (h:At w b o' vs) (k:Subg g b o n w w') (hd:o'+vs.length≤o∨o+n≤o'):At w' b o' vs:=fun j u hj=>by
 have hlt:j<vs.length:=(List.getElem?_eq_some_iff.1 hj).1;obtain⟨h1,h2⟩:=h j u hj;obtain⟨c,t,fr,hc,_⟩:=zdt h1;exact⟨(k.cell _ (by omega)).trans h1,(k.frozen c t fr hc _).trans h2⟩
theorem Win.subg {g:List Nat} {b o n:Nat} {w w':World} {e:TypeId} {sz m:Nat} {v:Value} {xs:List Value} (h:Win w e sz v m xs) (k:Subg g b o n w w') (hb:b∉Value.owner v) (hg:∀x∈Value.owner v,x∉g):Win w' e sz v m xs :=
 h.keep fun x hx=>k.block x (h.lt x hx) (fun e=>hb (e▸hx)) (hg x hx)
end
section
open Go.RowKit
open Go.Lib
def cntB (b:Bx):Int:=if b.c<0 then -1 else if b.map=true then 2*b.c else b.c
theorem zhx (b:Bx):zfk b=((b.have_:Int)==cntB b):=by
 unfold zfk cntB;rw[Bool.eq_iff_iff,decide_eq_true_eq,beq_iff_eq];by_cases h:b.c<0
 ·rw[if_pos h]
  constructor
  ·intro h2;omega
  ·intro h2;omega
 ·rw[if_neg h]
  constructor
  ·exact fun h2=>h2.2
  ·exact fun h2=>⟨by omega,h2⟩
theorem zaf7 (x:Bx) (r:List Bx):keyB (x::r)=(x.map&& !decide (x.have_%2=1)):=by
 simp only[keyB];rw[Bool.eq_iff_iff];simp
theorem zmf {T:TypeId} (hT:Tryz.prog.underlying T=some .string) {w:World} {v:Value} {n:Nat} {bs:List UInt8} (h:Win w 5 1 v n (zbe bs)):(convert 30 T v).run Tryz.prog w= .ok (.string ⟨bs.toArray⟩) w:=by
 rcases h.2 with ⟨rfl,rfl⟩|⟨g,off,cap,cur,rfl,hg,hnc,hs,hm,hx⟩
 ·have:bs=[]:=by
   have:=h.1;simp[zbe] at this;exact this
  subst this;have ht:(Tryz.prog.underlying 30,Tryz.prog.underlying 5)=(some (.slice 5),some (.int .u8)):=by kernel_rfl
  simp only[Prod.mk.injEq] at ht;simp[convert,run_underlying ht.1,run_underlying ht.2,run_underlying hT,Conv.bytesToString];rfl
 ·have hl:bs.length=n:=by have:=h.1;simpa [zbe] using this
  have hby:Lib.Bytes w g off ⟨bs.toArray⟩:=by
   intro i hi;have hi':i<bs.length:=by simpa [ByteArray.size] using hi
   have hu:(zbe bs)[i]? = some (.int .u8 bs[i].toNat):=by simp[zbe,hi']
   rw[← hx,List.getElem?_take_of_lt (by omega),List.getElem?_drop] at hu;simp only[World.cell?,hg];have hb:(⟨bs.toArray⟩:ByteArray)[i]=bs[i]:=rfl;rw[hb];simpa using hu
  have:=run_convert_window (P:=Tryz.prog) w 30 5 T Tryz.underlying30 Tryz.underlying5 hT g off ⟨bs.toArray⟩ hby 0 n cap (by simp[ByteArray.size];omega);rw[Nat.add_zero] at this;rw[this];congr 2;apply ByteArray.ext;apply Array.toList_inj.1;rw[extract_data];show List.take _ bs=bs;exact List.take_of_length_le (by omega)
def mjT (m:Bool):Nat:=if m=true then 3 else 2
theorem zmg:valE zbm= .iface 169 (.agg #[]):=rfl
def plE (s:List Bx):Nat:=if s.isEmpty=true then 3 else 0
structure Low (w0 w:World) (b:Nat) (vs:Value):Prop where
 size:w0.heap.size≤w.heap.size
 b:b<w0.heap.size
 vs:∀k∈Value.owner vs,k<w0.heap.size
theorem Low.of {w0 w w':World} {b:Nat} {vs vs':Value} (h:Low w0 w b vs) (hs:w.heap.size≤w'.heap.size) (hv:Value.owner vs'=Value.owner vs):Low w0 w' b vs':=⟨Nat.le_trans h.size hs,h.b,hv▸h.vs⟩
theorem zbh (s:List Bx):(incB s).length=s.length:=by cases s <;>rfl
theorem Low.up {w0 w w':World} {b:Nat} {vs:Value} (h:Low w0 w b vs) (hB:Below w.heap.size w w'):Low w0 w' b vs:=h.of hB.size rfl
theorem zagt (s:List Bx) (e:Ev):zbs (putC s e).1=0:=rfl
def mayH (m:Bool) (lk:Nat) (u:Option (Nat×Nat×Nat)):Bool:= !m||(u.isSome&&(decide (0<lk)||zch u))
theorem zf9 (l k:List UInt8):zbe (l++k)=zbe l++zbe k:=by simp[zbe]
theorem zz2 (w:World) (v u:Value) (e:TypeId) (g:Nat) (hg:g=w.heap.size):Win (w.alloc (.cells #[v,u] e)) e 1 (.slice (some ⟨g,0,none⟩) 2 2) 2 [v,u]:=by
 subst hg;exact⟨rfl,.inr ⟨w.heap.size,0,2,_,rfl,heap_alloc_new w _,Nat.le_refl _,by simp,by unfold maxLen;omega,by simp⟩⟩
theorem zfs (m:Bool) (c:Int):valE (zb9 m c)= .iface 166 (.agg #[.bool m,.int .i64 c]):=by cases m <;>rfl
theorem zhr (s:List Bx) (m:Bool) {c:Int} (hc:c≠0):zca s m c=(.item (⟨m,c,0⟩::incB s) false,[zb9 m c]):=by
 have hf:zfk ⟨m,c,0⟩=false:=by
  unfold zfk;rw[decide_eq_false_iff_not];rintro ⟨_,h⟩;simp only at h;split at h <;>simp at h <;>omega
 unfold zca atC zes;simp only[zap,numC,hf,Bool.false_eq_true,if_false];rfl
theorem ze3 (s:List Bx) (m:Bool):zca s m 0=(atC (incB s),[zb9 m 0,zbm]++zes (incB s)):=by
 have hf:zfk ⟨m,0,0⟩=true:=by cases m <;>rfl
 unfold zca atC zes;simp only[zap,numC,hf,if_true,List.replicate_succ];rfl
theorem zjc (s:List Bx) (m:Bool) (c:Int):zbs (zca s m c).1=0:=rfl
end
section
open Go.Lib
end
section
open Go.Lib
def HdOk:Hd→Prop
 | .mid _ n v=>1≤n∧n≤8∧v<256^(8-n)
 | .fin _ v _=>v<18446744073709551616
 | .bad e=>e=2∨e=14
 | .new=>True
theorem zmk {h:Hd} {b:Nat} (hb:b<256) (ho:HdOk h):HdOk (zah h b):=by
  cases h with
  | bad e=>exact ho
  | fin m v o=>exact .inr rfl
  | new =>
    simp only[zah];split
    · show b%32<_
      omega
    · split
      · have hk:b%32-24=0∨b%32-24=1∨b%32-24=2∨b%32-24=3:=by omega
        rcases hk with h|h|h|h <;>rw[h] <;>exact⟨by decide,by decide,by decide⟩
      · split
        · show(0:Nat)<_
          omega
        · exact .inl rfl
  | mid m n v =>
    obtain⟨h1,h2,h3⟩:=ho;have hn:n=1∨n=2∨n=3∨n=4∨n=5∨n=6∨n=7∨n=8:=by omega
    simp only[zah];rcases hn with rfl|rfl|rfl|rfl|rfl|rfl|rfl|rfl
    · rw[if_pos rfl]
      show v*256+b<18446744073709551616;have h3:v<256^7:=h3;omega
    all_goals
      rw[if_neg (by decide)];refine⟨by decide,by decide,?_⟩;simp at h3 ⊢;omega
def BxOk (s:List Bx):Prop:=∀b∈s, -1≤b.c∧b.c≤1000000
theorem BxOk.inc {s:List Bx} (h:BxOk s):BxOk (incB s):=by
  cases s with
  | nil=>exact h
  | cons x r =>
    intro b hb;rcases List.mem_cons.1 hb with rfl|hb
    · exact h x (by simp)
    · exact h b (by simp[hb])
theorem BxOk.rest:∀{s:List Bx},BxOk s→BxOk (zap s)
  | [],h=>h
  | x::r,h=>by
    unfold zap;split
    · exact BxOk.rest (fun b hb=>h b (by simp[hb]))
    · exact h
theorem zld (s:List Bx):(incB s).length=s.length:=by cases s <;>rfl
def WfCi (D:Nat):Ci→Prop
 | .bad e=>e≠0∧e≠3
 | .item s dn=>(dn=true→s=[])∧BxOk s∧s.length≤D
 | .head s h=>(∃m n v,h= .mid m n v)∧HdOk h∧BxOk s∧s.length≤D∧(4≤majH h→s.length<D)
 | .text s _ n t _=>1≤n∧t.length+n≤200∧BxOk s∧s.length≤D
 | .open_ s _ t=>t.length≤200∧BxOk s∧s.length≤D
 | .chead s _ t h=>(∃m n v,h= .mid m n v)∧HdOk h∧t.length≤200∧BxOk s∧s.length≤D
 | .ctext s _ t n _=>1≤n∧t.length+n≤200∧BxOk s∧s.length≤D
def stkC:Ci→Nat
 | .bad _=>0
 | .item s _=>s.length
 | .head s _=>s.length
 | .text s _ _ _ _=>s.length
 | .open_ s _ _=>s.length
 | .chead s _ _ _=>s.length
 | .ctext s _ _ _ _=>s.length
def zfl (e:Ev):Prop:=mayE e∧zfi e=e∧EvOk e∧e.t.size≤200
structure FineC (D n:Nat) (r:Ci×List Ev):Prop where
 wf:WfCi D r.1
 told:∀e∈r.2,zfl e
 len:r.2.length+stkC r.1≤n+2
theorem zrv:zfl zbm:=⟨by decide,rfl,⟨by decide,by decide,by decide,by decide⟩,by decide⟩
theorem zry:∀s:List Bx,(zap s).length+numC s=s.length
  | []=>rfl
  | b :: r=>by
    unfold zap numC;split
    · have:=zry r
      simp only[List.length_cons];omega
    · simp
theorem zbc {D n:Nat} (e:Nat) (h0:e≠0) (h3:e≠3):FineC D n (.bad e,[]):=⟨⟨h0,h3⟩,by simp,by simp[stkC]⟩
theorem zpq {D n:Nat} {s:List Bx} {l:List Ev} (hs:BxOk s) (hd:s.length≤D) (hl:∀e∈l,zfl e) (hn:l.length+s.length≤n+2):FineC D n (atC s,l++zes s):=by
 have h1:=zry s;have h2:=zh1 s;refine⟨⟨fun h=>by simpa using h,hs.rest,by omega⟩,fun e he=> ?_,?_⟩
 ·rcases List.mem_append.1 he with he|he
  ·exact hl e he
  ·unfold zes at he
   rw[List.eq_of_mem_replicate he];exact zrv
 ·simp only[List.length_append,zes,List.length_replicate,atC,stkC]
  omega
theorem zd7 {D:Nat} {s:List Bx} {e:Ev} (hs:BxOk s) (hd:s.length≤D) (he:zfl e):FineC D s.length (putC s e) :=
 zpq (l:=[e]) hs.inc (by rw[zld];exact hd) (by simpa using he) (by rw[zld];simp;omega)
theorem zsp (m:Bool) {c:Int} (h: -1≤c∧c≤1000000):zfl (zb9 m c):=by
 refine⟨⟨?_,?_,fun _=>h.1⟩,?_,⟨?_,?_,?_,?_⟩,Nat.zero_le _⟩
 ·cases m <;>simp[zb9]
 ·cases m <;>simp[zb9]
 ·cases m <;>simp[zb9,zfi]
 ·cases m <;>simp[zb9]
 ·simp[zb9]
 ·show -9223372036854775808≤c∧c≤9223372036854775807
  omega
 ·exact Nat.zero_le _
theorem zgr {D:Nat} {s:List Bx} (m:Bool) {c:Int} (hs:BxOk s) (hd:s.length<D) (h: -1≤c∧c≤1000000):FineC D s.length (zca s m c):=by
 have hb:BxOk (⟨m,c,0⟩::incB s):=by
  intro b hb;rcases List.mem_cons.1 hb with rfl|hb
  ·exact h
  ·exact hs.inc b hb
 exact zpq (l:=[zb9 m c]) hb (by rw[List.length_cons,zld];omega) (by simpa using zsp m h) (by simp only[List.length_cons,List.length_nil,zld];omega)
theorem zen (m:Bool) {t:List UInt8} (h:t.length≤200):zfl (zby m t):=by
 have hz:(⟨t.toArray⟩:ByteArray).size=t.length:=by simp[ByteArray.size]
 refine⟨⟨?_,?_,fun h=> ?_⟩,?_,⟨?_,?_,?_,?_⟩,?_⟩
 ·cases m <;>simp[zby]
 ·cases m <;>simp[zby]
 ·cases m <;>simp[zby] at h
 ·cases m <;>simp[zby,zfi]
 ·cases m <;>simp[zby]
 ·simp[zby]
 ·simp[zby]
 ·show(⟨t.toArray⟩:ByteArray).size≤_
  omega
 ·show(⟨t.toArray⟩:ByteArray).size≤_
  omega
theorem zfd (y:Bool) {v:Nat} (h:v<18446744073709551616):zfl (za5 y v):=⟨⟨by simp[za5],by simp[za5],fun h=>by simp[za5] at h⟩,by simp[za5,zfi],⟨by simp[za5],h,by simp[za5],Nat.zero_le _⟩,Nat.zero_le _⟩
theorem zm3 (y:Bool):zfl (zbt y):=⟨⟨by simp[zbt],by simp[zbt],fun h=>by simp[zbt] at h⟩,by simp[zbt,zfi],⟨by simp[zbt],by simp[zbt],by simp[zbt],Nat.zero_le _⟩,Nat.zero_le _⟩
theorem znj:zfl zcy:=⟨by decide,rfl,⟨by decide,by decide,by decide,by decide⟩,by decide⟩
theorem zna {D:Nat} {s:List Bx} {h:Hd} (hs:BxOk s) (hd:s.length≤D) (ho:HdOk h) (hn:h≠ .new) (h4:4≤majH h→s.length<D):FineC D s.length (zgw s h):=by
  cases h with
  | new=>exact absurd rfl hn
  | bad e =>
    refine zbc e ?_ ?_ <;>rcases ho with rfl|rfl <;>decide
  | mid m n v=>exact⟨⟨⟨m,n,v,rfl⟩,ho,hs,hd,h4⟩,by simp[zgw],by simp[zgw,stkC]⟩
  | fin m v o =>
    unfold zgw;simp only;by_cases c1:m<2
    · rw[if_pos c1]
      exact zd7 hs hd (zfd _ ho)
    · rw[if_neg c1]
      by_cases c2:m<4
      · rw[if_pos c2]
        by_cases c3:o=true
        · rw[if_pos c3]
          exact⟨⟨by simp,hs,hd⟩,by simp,by simp[stkC]⟩
        · rw[if_neg c3]
          by_cases c4:200<v
          · rw[if_pos c4]
            exact zbc 5 (by decide) (by decide)
          · rw[if_neg c4]
            by_cases c5:v=0
            · rw[if_pos c5]
              exact zd7 hs hd (zen _ (by simp))
            · rw[if_neg c5]
              exact⟨⟨by omega,by simp;omega,hs,hd⟩,by simp,by simp[stkC]⟩
      · rw[if_neg c2]
        have hdd:s.length<D:=h4 (by show 4≤m;omega);by_cases c3:o=true
        · rw[if_pos c3]
          exact zgr _ hs hdd (by omega)
        · rw[if_neg c3]
          by_cases c4:1000000<v
          · rw[if_pos c4]
            exact zbc 7 (by decide) (by decide)
          · rw[if_neg c4]
            exact zgr _ hs hdd (by omega)
theorem zuy {D:Nat} {s:List Bx} {dn:Bool} (b:Nat) (hb:b<256) (hs:BxOk s) (hd:s.length≤D):FineC D s.length (zi6 D s dn b):=by
  unfold zi6;by_cases c1:dn=true∨(28≤b%32∧b%32≤30)∨(b%32=31∧(b/32=0∨b/32=1∨b/32=6))
  · rw[if_pos c1]
    exact zbc 2 (by decide) (by decide)
  rw[if_neg c1];by_cases c2:b=255
  · rw[if_pos c2]
    cases s with
    | nil=>exact zbc 2 (by decide) (by decide)
    | cons x r =>
      simp only;split
      · exact zbc 2 (by decide) (by decide)
      · have hr:BxOk r:=fun b hb=>hs b (by simp[hb])
        simp only[List.length_cons] at hd;exact zpq (l:=[zbm]) hr (by omega) (by simpa using zrv) (by simp only[List.length_cons,List.length_nil];omega)
  rw[if_neg c2];by_cases c3:keyB s=true∧b/32≠3
  · rw[if_pos c3]
    exact zbc 8 (by decide) (by decide)
  rw[if_neg c3];by_cases c4:b/32=6
  · rw[if_pos c4]
    exact zbc 8 (by decide) (by decide)
  rw[if_neg c4];by_cases c5:b/32=7
  · rw[if_pos c5]
    split
    · exact zd7 hs hd znj
    · split
      · exact zd7 hs hd (zm3 _)
      · split
        · exact zbc 6 (by decide) (by decide)
        · exact zbc 8 (by decide) (by decide)
  rw[if_neg c5];by_cases c6:(b/32=4∨b/32=5)∧D≤s.length
  · rw[if_pos c6]
    exact zbc 4 (by decide) (by decide)
  rw[if_neg c6];have hn:=zb2 (h:= .new) (b:=b) (.inl rfl);refine zna hs hd (zmk hb trivial) hn ?_;rw[zqb (fun h=>c1 (.inr (.inl h)))];intro h4;by_cases h:s.length<D
  · exact h
  · exact absurd ⟨by omega,by omega⟩ c6
theorem zkl {D:Nat} {s:List Bx} {m:Bool} {t:List UInt8} {h:Hd} (hs:BxOk s) (hd:s.length≤D) (ht:t.length≤200) (ho:HdOk h) (hn:h≠ .new):FineC D s.length (zfn s m t h):=by
  cases h with
  | new=>exact absurd rfl hn
  | bad e =>
    refine zbc e ?_ ?_ <;>rcases ho with rfl|rfl <;>decide
  | mid a n v=>exact⟨⟨⟨a,n,v,rfl⟩,ho,ht,hs,hd⟩,by simp[zfn],by simp[zfn,stkC]⟩
  | fin a v o =>
    simp only[zfn];by_cases c1:200<v+t.length
    · rw[if_pos c1]
      exact zbc 5 (by decide) (by decide)
    · rw[if_neg c1]
      by_cases c2:v=0
      · rw[if_pos c2]
        exact⟨⟨ht,hs,hd⟩,by simp,by simp[stkC]⟩
      · rw[if_neg c2]
        exact⟨⟨by omega,by omega,hs,hd⟩,by simp,by simp[stkC]⟩
theorem zv5 {D:Nat} {s:Ci} (b:UInt8) (h:WfCi D s):FineC D (stkC s) (za7 D s b):=by
  have hb:b.toNat<256:=b.toNat_lt;cases s with
  | bad e=>exact⟨h,by simp[za7],by simp[za7,stkC]⟩
  | item s dn=>exact zuy b.toNat hb h.2.1 h.2.2
  | head s hd =>
    obtain⟨⟨m,n,v,rfl⟩,h1,h2,h3,h4⟩:=h;refine zna h2 h3 (zmk hb h1) (zb2 (.inr ⟨m,n,v,rfl⟩)) ?_;have:majH (zah (.mid m n v) b.toNat)=m:=by simp only[zah];split <;>rfl
    rw[this];exact h4
  | text s m n t u =>
    obtain⟨h1,h2,h3,h4⟩:=h;simp only[za7];by_cases c1:m=true∧zbq m u b=none
    · rw[if_pos c1]
      exact zbc 9 (by decide) (by decide)
    rw[if_neg c1];by_cases c2:n=1
    · rw[if_pos c2]
      split
      · exact zbc 9 (by decide) (by decide)
      · exact zd7 h3 h4 (zen _ (by simp;omega))
    · rw[if_neg c2]
      exact⟨⟨by omega,by simp;omega,h3,h4⟩,by simp,by simp[stkC]⟩
  | open_ s m t =>
    obtain⟨h1,h2,h3⟩:=h;simp only[za7];by_cases c1:b.toNat=255
    · rw[if_pos c1]
      exact zd7 h2 h3 (zen _ h1)
    rw[if_neg c1];by_cases c2:b.toNat/32≠(if m=true then 3 else 2)∨28≤b.toNat%32
    · rw[if_pos c2]
      exact zbc 2 (by decide) (by decide)
    · rw[if_neg c2]
      exact zkl h2 h3 h1 (zmk (h:= .new) hb trivial) (zb2 (.inl rfl))
  | chead s m t hd =>
    obtain⟨⟨a,n,v,rfl⟩,h1,h2,h3,h4⟩:=h;exact zkl h3 h4 h2 (zmk hb h1) (zb2 (.inr ⟨a,n,v,rfl⟩))
  | ctext s m t n u =>
    obtain⟨h1,h2,h3,h4⟩:=h;simp only[za7];by_cases c1:m=true∧zbq m u b=none
    · rw[if_pos c1]
      exact zbc 9 (by decide) (by decide)
    rw[if_neg c1];by_cases c2:n=1
    · rw[if_pos c2]
      split
      · exact zbc 9 (by decide) (by decide)
      · exact⟨⟨by simp;omega,h3,h4⟩,by simp,by simp[stkC]⟩
    · rw[if_neg c2]
      exact⟨⟨by omega,by simp;omega,h3,h4⟩,by simp,by simp[stkC]⟩
theorem zaks (D:Nat):WfCi D ci0:=⟨fun _=>rfl,by intro b hb;simp at hb,Nat.zero_le _⟩
end
section
open Go.Lib
inductive Pm
 | c (x:Ci)
 | num (s:List Bx) (k w n a:Nat)
def za1 (r:Ci×List Ev):Pm×List Ev:=(.c r.1,r.2)
def lenP (s:List Bx) (m:Bool) (v:Nat):Ci×List Ev:=if 200<v then(.bad 5,[]) else if v=0 then putC s (zby m []) else(.text s m v [] st0,[])
def cntP (s:List Bx) (m:Bool) (v:Nat):Ci×List Ev:=if 1000000<v then(.bad 7,[]) else zca s m v
def sgnP (w v:Nat):Ev:=if 256^w≤2*v then za5 true (256^w-1-v) else za5 false v
def hedP (s:List Bx) (k w v:Nat):Ci×List Ev :=
 if k=0 then putC s (za5 false v) else if k=1 then putC s (sgnP w v) else if k=2 then lenP s false v else if k=3 then lenP s true v else cntP s (decide (k=5)) v
def zabd (b:Nat):Bool:=decide ((160≤b∧b≤191)∨(217≤b∧b≤219))
def zacz (b:Nat):Bool:=decide ((128≤b∧b≤159)∨(220≤b∧b≤223))
def extP (b:Nat):Bool:=decide ((199≤b∧b≤201)∨(212≤b∧b≤216))
def zjo (D:Nat) (s:List Bx) (dn:Bool) (b:Nat):Pm×List Ev :=
 if dn=true∨b=193 then(.c (.bad 2),[])
 else if keyB s=true∧zabd b=false then(.c (.bad 8),[])
 else if extP b=true then(.c (.bad 8),[])
 else if b=202∨b=203 then(.c (.bad 6),[])
 else if zacz b=true∧D≤s.length then(.c (.bad 4),[])
 else if b<128 then za1 (putC s (za5 false b))
 else if b<144 then za1 (cntP s true (b-128))
 else if b<160 then za1 (cntP s false (b-144))
 else if b<192 then za1 (lenP s true (b-160))
 else if b=192 then za1 (putC s zcy)
 else if b<196 then za1 (putC s (zbt (decide (b=195))))
 else if b<199 then(.num s 2 (2^(b-196)) (2^(b-196)) 0,[])
 else if b<208 then(.num s 0 (2^(b-204)) (2^(b-204)) 0,[])
 else if b<212 then(.num s 1 (2^(b-208)) (2^(b-208)) 0,[])
 else if b<220 then(.num s 3 (2^(b-217)) (2^(b-217)) 0,[])
 else if b<222 then(.num s 4 (2^(b-219)) (2^(b-219)) 0,[])
 else if b<224 then(.num s 5 (2^(b-221)) (2^(b-221)) 0,[])
 else za1 (putC s (za5 true (255-b)))
def zcj (D:Nat):Pm→UInt8→Pm×List Ev
 | .c (.bad e),_=>(.c (.bad e),[])
 | .c (.item s dn),b=>zjo D s dn b.toNat
 | .c (.text s m n t u),b=>za1 (za7 D (.text s m n t u) b)
 | .c x,_=>(.c x,[])
 | .num s k w n a,b=>if n=1 then za1 (hedP s k w (a*256+b.toNat)) else(.num s k w (n-1) (a*256+b.toNat),[])
def ztq:Pm→Nat
 | .c x=>zl8 x
 | .num _ _ _ _ _=>3
def pm0:Pm:= .c ci0
def zcw:Pm→Nat
 | .c x=>zbs x
 | _=>0
def zvp:Pm→Nat
 | .c x=>zkt x
 | .num s _ _ _ _=>s.length
def zfm:Pm→Bool
 | .c x=>zci x
 | _=>false
end
section
open Go.RowKit
open Go.Lib
def ccL (m:Bool) (L:Int):List Value:=[.bool m,.int .i64 L]
def ccP (b:Bx) (k:Nat):List Value:=ccL b.map (cntB b-(k:Int))
def outP:List Bx→List Value
 | []=>[]
 | b::r=>outP r++ccP b (b.have_-1)
def inP:List Bx→List Value
 | []=>[]
 | b::r=>outP r++ccP b b.have_
theorem zcp:∀s:List Bx,(outP s).length=s.length*2
 | []=>rfl
 | b::r=>by rw[outP,List.length_append,zcp r];simp[ccP,ccL];omega
theorem zl6:∀s:List Bx,outP (incB s)=inP s
 | []=>rfl
 | _::_=>rfl
def CntP (x:Bx):Prop:=0≤x.c∧x.c≤1000000∧(x.have_:Int)≤cntB x
theorem CntP.le {x:Bx} (h:CntP x):0≤cntB x∧cntB x≤2000000:=by
 obtain⟨h1,h2,_⟩:=h;unfold cntB;rw[if_neg (by omega)];split <;>omega
structure OkP (s:List Bx):Prop where
 deep:s.length≤16
 all:∀x∈s,CntP x
 some_:∀x∈s.tail,1≤x.have_
 head:∀x r,s=x::r→zfk x=false
structure OutP (s:List Bx):Prop where
 deep:s.length≤16
 all:∀x∈s,CntP x∧1≤x.have_
theorem OkP.inc {s:List Bx} (h:OkP s):OutP (incB s):=by
  cases s with
  | nil=>exact⟨by simp[incB],fun x hx=>by simp[incB] at hx⟩
  | cons y r =>
    refine⟨h.deep,fun x hx=> ?_⟩;simp only[incB,List.mem_cons] at hx;rcases hx with rfl|hx
    · have h1:=h.all y (by simp)
      have h2:=h.head y r rfl;rw[zhx,beq_eq_false_iff_ne] at h2;obtain⟨a,b,c⟩:=h1;refine⟨⟨a,b,?_⟩,by simp⟩;show((y.have_+1:Nat):Int)≤cntB y;omega
    · exact⟨h.all x (List.mem_cons_of_mem _ hx),h.some_ x hx⟩
theorem OutP.tail {x:Bx} {r:List Bx} (h:OutP (x::r)):OutP r:=⟨by have:=h.deep;simp only[List.length_cons] at this;omega,fun y hy=>h.all y (List.mem_cons_of_mem _ hy)⟩
theorem OutP.rest:∀{s:List Bx},OutP s→OkP (zap s)
  | [],_=>⟨by simp[zap],fun x hx=>by simp[zap] at hx,fun x hx=>by simp[zap] at hx,fun x r h=>by cases h⟩
  | b :: r,h=>by
    rw[zap];by_cases hf:zfk b=true
    · rw[if_pos hf]
      exact h.tail.rest
    · rw[if_neg hf]
      refine⟨h.deep,fun x hx=>(h.all x hx).1,fun x hx=>(h.all x (List.mem_cons_of_mem _ hx)).2,fun x r' he=> ?_⟩;cases he;simpa using hf
theorem OkP.push {s:List Bx} (h:OkP s) (hd:s.length<16) (m:Bool) {c:Int} (hc:0<c∧c≤1000000):OkP (⟨m,c,0⟩::incB s):=by
 have h1:=h.inc;refine⟨by rw[List.length_cons,zbh];omega,fun x hx=> ?_,fun x hx=>(h1.all x hx).2,fun x r he=> ?_⟩
 ·rcases List.mem_cons.1 hx with rfl|hx
  ·refine⟨by simp only;omega,hc.2,?_⟩
   unfold cntB;rw[if_neg (by simp only;omega)];simp only;split <;>omega
  ·exact(h1.all x hx).1
 ·cases he
  rw[zhx,beq_eq_false_iff_ne];unfold cntB;rw[if_neg (by simp only;omega)];simp only;split <;>omega
theorem zns:(Tryz.prog.info? 258).map (fun i=>(i.zero,i.size,i.bytes))=some (some (.agg #[.bool false,.int .i64 0]),2,16):=by kernel_rfl
theorem zk2 {w:World} {v:Value} {P:List Value} {n:Nat} {m:Bool} {L:Int} (hP:P.length=n*2) (h:Win w 258 2 v (n+1) (P++ccL m L)) :
    ∃ g off cap,v= .slice (some ⟨g,off,none⟩) (n+1) cap ∧
      (w.cell? ⟨g,off+n*2,none⟩=some (.bool m)∧w.cell? ⟨g,off+n*2+1,none⟩=some (.int .i64 L)) ∧
      (w.frozen? ⟨g,off+n*2,none⟩=false∧w.frozen? ⟨g,off+n*2+1,none⟩=false):=by
  obtain⟨g,off,cap,rfl,h1,h2,_,_,h3⟩:=h.form (by simp);have hx:∀j u,(ccL m L)[j]? = some u→w.cell? ⟨g,off+(n*2+j),none⟩=some u∧w.frozen? ⟨g,off+(n*2+j),none⟩=false:=fun j u hu=>by
    refine h3 _ u ?_;rw[← hP,List.getElem?_append_right (by omega),Nat.add_sub_cancel_left];exact hu
  have x0:=hx 0 _ rfl;have x1:=hx 1 _ rfl;simp only[← Nat.add_assoc,Nat.add_zero] at x0 x1;exact⟨g,off,cap,rfl,⟨x0.1,x1.1⟩,⟨x0.2,x1.2⟩⟩
theorem zy8 {w:World} {P:List Value} {m:Bool} {L L':Int} {g off cap n k:Nat} (_:k=n+1) (hP:P.length=n*2) (h:Win w 258 2 (.slice (some ⟨g,off,none⟩) k cap) k (P++ccL m L)) :
  Win (w.setCell ⟨g,off+n*2+1,none⟩ (.int .i64 L')) 258 2 (.slice (some ⟨g,off,none⟩) k cap) k (P++ccL m L'):=by
 have hw:=h.store (n*2+1) (by rw[List.length_append,hP];simp[ccL]) (.int .i64 L');have hx:(P++ccL m L).set (n*2+1) (.int .i64 L')=P++ccL m L':=by
  rw[← hP,List.set_append,if_neg (by omega),Nat.add_sub_cancel_left];rfl
 rw[hx,← Nat.add_assoc] at hw;exact hw
theorem zo9 (w:World):∀v,Win w 258 2 v 0 []→Calls Tryz.prog 216 #[v] w fun r w'=>r= .returned (.bool false)∧w=w':=by
 intro v h;obtain⟨a,cap,rfl,_,_⟩:=h.slice_form;clear h;go_enter Tryz.func216,Tryz.ntmps216;go_wp2;go_ret;exact⟨rfl,rfl⟩
theorem zu9 {w:World} {P:List Value} {m:Bool} {L:Int} {n:Nat} {v:Value} (hP:P.length=n*2) (hd:n<16) (h:Win w 258 2 v (n+1) (P++ccL m (L+1))) (hL:0≤L∧L≤2000000) :
  Calls Tryz.prog 216 #[v] w fun e w'=>e= .returned (.bool (L==0))∧∃g off cap,v= .slice (some ⟨g,off,none⟩) (n+1) cap∧w'=w.setCell ⟨g,off+n*2+1,none⟩ (.int .i64 L):=by
 obtain⟨g,off,cap,rfl,⟨c0,c1⟩,⟨f0,f1⟩⟩:=zk2 hP h;clear h;have hw:IntKind.i64.wrap (L+1-1)=L:=by simp only[IntKind.wrap_i64];omega
 have hw2:IntKind.i64.wrap L=L:=by simp only[IntKind.wrap_i64];omega
 have hz:((n:Int)+1==0)=false:=by rw[beq_eq_false_iff_ne];omega
 have hwm:wrap64 (n:Int)=(n:Int):=by unfold wrap64;omega
 clear hP hL;go_enter Tryz.func216,Tryz.ntmps216;go_wp2;go_ret;exact⟨rfl,g,off,cap,rfl,rfl⟩
end
section
open Go.RowKit
open Go.Lib
structure NsP (w:World) (b o:Nat) (v:Value) (n:Nat) (xs:List Value):Prop where
 ptr:At w b o [v]
 win:Win w 258 2 v n xs
 far:b∉Value.owner v
theorem NsP.subg {g:List Nat} {w w':World} {b o o' m n:Nat} {v:Value} {xs:List Value} (h:NsP w b o v n xs) (k:Subg g b o' m w w') (hd:o+1≤o'∨o'+m≤o) (hg:∀x∈Value.owner v,x∉g):NsP w' b o v n xs :=
 ⟨h.ptr.subg k hd,h.win.subg k h.far hg,h.far⟩
theorem NsP.keep {w w':World} {b o n:Nat} {v:Value} {xs:List Value} (h:NsP w b o v n xs) (hk:Below w.heap.size w w'):NsP w' b o v n xs :=
 ⟨h.ptr.keep (hk.block b (h.ptr.lt (by simp))),h.win.keep fun k hx=>hk.block k (h.win.lt k hx),h.far⟩
theorem NsP.drewN {w:World} {b o n:Nat} {v:Value} {xs:List Value} (h:NsP w b o v n xs) (q:Nat):NsP (w.drewN q) b o v n xs:=⟨h.ptr,h.win,h.far⟩
structure EndP (w wr:World) (b o N:Nat) (v v':Value) (s q:List Bx) (j:Nat):Prop where
 len:q.length+j=N
 rest:zap s=zap q
 num:numC s=numC q+j
 nst:NsP wr b o v' q.length (outP q)
 out:OutP q
 own:Value.owner v'=Value.owner v
 sub:Subg (Value.owner v) b o 1 w wr
theorem EndP.count {w wr w1:World} {b o N:Nat} {v:Value} {s:List Bx} {x:Bx} {r:List Bx} {j g off cap:Nat} (h:EndP w wr b o N v (.slice (some ⟨g,off,none⟩) (r.length+1) cap) s (x::r) j)
  (hw:w1=wr.setCell ⟨g,off+r.length*2+1,none⟩ (.int .i64 (cntB x-(x.have_:Int)))) :
  NsP w1 b o (.slice (some ⟨g,off,none⟩) (r.length+1) cap) (r.length+1) (outP r++ccP x x.have_)∧Subg (Value.owner v) b o 1 w w1:=by
 have hne:g≠b:=fun e=>h.nst.far (by simp[Value.owner,e])
 have hs:=zy8 (L':=cntB x-(x.have_:Int)) rfl (zcp r) h.nst.win;have hS:Subg (Value.owner (.slice (some ⟨g,off,none⟩) (r.length+1) cap)) b o 1 wr (wr.setCell ⟨g,off+r.length*2+1,none⟩ (.int .i64 (cntB x-(x.have_:Int)))):=zmi wr (by simp[Value.owner]) hne _;rw[hw];refine⟨⟨h.nst.ptr.keep (Below.heap_setCell wr _ _ b (fun e=>hne e.symm)),hs,h.nst.far⟩,?_⟩;have hS2:=h.sub;rw[← h.own] at hS2 ⊢;exact hS2.tr hS
theorem EndP.stop {w wr w1:World} {b o N:Nat} {v:Value} {s:List Bx} {x:Bx} {r:List Bx} {j g off cap:Nat} (h:EndP w wr b o N v (.slice (some ⟨g,off,none⟩) (r.length+1) cap) s (x::r) j)
  (hw:w1=wr.setCell ⟨g,off+r.length*2+1,none⟩ (.int .i64 (cntB x-(x.have_:Int)))) (hf:zfk x=false) :
  numC s=j∧∃v',NsP w1 b o v' (zap s).length (inP (zap s))∧Value.owner v'=Value.owner v∧Subg (Value.owner v) b o 1 w w1:=by
 obtain⟨h1,h2⟩:=h.count hw;have hq:zap (x::r)=x::r:=by rw[zap,if_neg (by rw[hf];decide)]
 have hq2:numC (x::r)=0:=by rw[numC,if_neg (by rw[hf];decide)]
 refine⟨by rw[h.num,hq2];omega,_,?_,h.own,h2⟩;rw[h.rest,hq];exact h1
theorem EndP.none {w wr:World} {b o N:Nat} {v v':Value} {s:List Bx} {j:Nat} (h:EndP w wr b o N v v' s [] j):numC s=j∧∃v',NsP wr b o v' (zap s).length (inP (zap s))∧Value.owner v'=Value.owner v∧Subg (Value.owner v) b o 1 w wr:=by
 refine⟨by rw[h.num];simp[numC],v',?_,h.own,h.sub⟩;rw[h.rest];exact h.nst
theorem EndP.next {w wr w1 w2:World} {b o N:Nat} {v v1 v2:Value} {s:List Bx} {x:Bx} {r:List Bx} {j:Nat} (h:EndP w wr b o N v v1 s (x::r) j) (hf:zfk x=true)
  (hS:Subg (Value.owner v) b o 1 w w1) (hN:NsP w2 b o v2 r.length (outP r)) (ho:Value.owner v2=Value.owner v1) (h2:Sub b o 1 w1 w2):EndP w w2 b o N v v2 s r (j+1):=by
 have h1:=h.len;simp only[List.length_cons] at h1;refine⟨by omega,?_,?_,hN,h.out.tail,ho.trans h.own,hS.tr (h2.subg _)⟩
 ·rw[h.rest,zap,if_pos hf]
 ·rw[h.num,numC,if_pos hf];omega
theorem zoz {w:World} {b o:Nat} {v:Value} {s:List Bx} (h:NsP w b o v s.length (outP s)) (hk:OutP s) :
    Calls Tryz.prog 214 #[.pointer (some ⟨b,o,none⟩)] w fun r w'=>r= .returned (.int .i64 (numC s:Nat))∧∃v',NsP w' b o v' (zap s).length (inP (zap s))∧Value.owner v'=Value.owner v∧Subg (Value.owner v) b o 1 w w':=by
  obtain⟨N,hN⟩:∃N,s.length=N:=⟨_,rfl⟩
  have H0:Hid (EndP w w b o N v v s s 0):=hid ⟨by omega,rfl,by omega,h,hk,rfl,Subg.refl _ _ _ _ _⟩;have hd:=hk.deep;rw[hN] at hd;clear h hk hN;go_enter Tryz.func214,Tryz.ntmps214;go_wp2
  go_loopw [3] (fun i wr=>∃(j:Nat),i= .int .i64 j∧j≤N∧Hid (∃(q:List Bx) (v':Value),EndP w wr b o N v v' s q j)) (fun i _=>N-(RowKit.intOf i).toNat)
  case atStart=>exact⟨0,rfl,by omega,hid ⟨s,v,H0.out⟩⟩
  case round =>
    obtain⟨j,rfl,hj,HI⟩:=hrel;obtain⟨q,v',hI⟩:=HI.out;have hwj:wrap64 ((j:Int)+1)=(j:Int)+1:=by unfold wrap64;omega
    have hwj2:IntKind.i64.wrap ((j:Int)+1)=(j:Int)+1:=by simp only[IntKind.wrap_i64];omega
    cases q with
    | nil =>
      have c1:=(hI.nst.ptr 0 _ rfl).1;have f1:=(hI.nst.ptr 0 _ rfl).2;simp only[Nat.add_zero] at c1 f1;have HC:=hid (zo9 wr v' hI.nst.win);have HR:=hid hI.none;clear HI hI;(go_wp2_with fail);refine HC.out.mono ?_;rintro r w1 ⟨rfl,rfl⟩;go_wp2;go_ret;exact⟨by rw[HR.out.1];rfl,HR.out.2⟩
    | cons x r =>
      have hlen:=hI.len;simp only[List.length_cons] at hlen;have hx:=hI.out.all x (by simp);have hle:=hx.1.le;have hhv:=hx.1.2.2;have h1:=hx.2;have hL:cntB x-((x.have_-1:Nat):Int)=(cntB x-(x.have_:Int))+1:=by omega
      have hwin:Win wr 258 2 v' (r.length+1) (outP r++ccL x.map (cntB x-(x.have_:Int)+1)):=by
        have:=hI.nst.win;simp only[outP,ccP,List.length_cons] at this
        rwa [hL] at this
      have HC:=hid (zu9 (zcp r) (by omega) hwin (by omega));have hz:(cntB x-(x.have_:Int)==0)=zfk x:=by
        rw[zhx,Bool.eq_iff_iff,beq_iff_eq,beq_iff_eq];omega
      rw[hz] at HC;obtain⟨g,off,cap,hv',_,_⟩:=zk2 (zcp r) hwin;subst hv';have c1:=(hI.nst.ptr 0 _ rfl).1;have f1:=(hI.nst.ptr 0 _ rfl).2;simp only[Nat.add_zero] at c1 f1;have hlt:j<N:=by omega
      have HR:=hid (And.intro hI hlt);clear HI hI hlen hx hle hhv h1 hL hwin hz;by_cases hf:zfk x=true
      · rw[hf] at HC
        have HF:=hid hf;clear hf;(go_wp2_with fail);refine HC.out.mono ?_;rintro e w1 ⟨rfl,g',off',cap',hv,hw1⟩;cases hv;obtain⟨hN1,hS1⟩:=HR.out.1.count hw1;obtain⟨v2,hsl,hw2,ho2⟩:=hN1.win.hi (P:=Tryz.prog) (t:=154) Tryz.underlying154 (fun w=>by kernel_rfl) r.length (by omega);rw[← zcp,List.take_left] at hw2;obtain⟨a2,c2,rfl,_,_⟩:=hw2.slice_form;have hl:IntKind.i64.wrap (r.length:Int)=(r.length:Int):=by simp only[IntKind.wrap_i64];have:=HR.out.2;have:=HR.out.1.len;simp only[List.length_cons] at this;omega
        have d1:=(hN1.ptr 0 _ rfl).1;have g1:=(hN1.ptr 0 _ rfl).2;simp only[Nat.add_zero] at d1 g1;have hfin:Hid (EndP w ((w1.setCell ⟨b,o,none⟩ (.slice a2 r.length c2)).drewN 1) b o N v (.slice a2 r.length c2) s r (j+1)):=hid (HR.out.1.next HF.out hS1 (NsP.drewN ⟨hN1.ptr.set 0 (by simp) _,hw2.setCell_far (by rw[ho2];exact hN1.far) _,by rw[ho2];exact hN1.far⟩ 1) ho2 ((zac w1 o _ (by omega)).drewN 1));have HLT:=hid HR.out.2;clear HC HR HF hw1 hN1 hS1 hw2 ho2 c1 f1;(go_wp2_with fail);refine za4 11 (by kernel_rfl) (by kernel_rfl) ?_;simp only[List.take_succ_cons,List.take_zero,List.drop_succ_cons,List.drop_zero]
        repeat still_step
        refine wpStill_nil ?_;go_wp2
        go_roundw
        case rel=>exact⟨j+1,rfl,HLT.out,hid ⟨_,_,hfin.out⟩⟩
        case measure =>
          have:=HLT.out;simp[RowKit.intOf];omega
      · rw[show zfk x=false by simpa using hf] at HC
        have HF:=hid hf;clear hf;(go_wp2_with fail);refine HC.out.mono ?_;rintro e w1 ⟨rfl,g',off',cap',hv,hw1⟩;cases hv;have HE:=hid (HR.out.1.stop hw1 (by simpa using HF.out));clear hw1 HC HR HF;go_wp2;go_ret;exact⟨by rw[HE.out.1];rfl,HE.out.2⟩
end
section
open Go.RowKit
open Go.Lib
theorem zadp {w:World} {v:Value} {s:List Bx} (h:Win w 258 2 v s.length (inP s)) (hk:OkP s) :
    Calls Tryz.prog 212 #[v] w fun r w'=>r= .returned (.bool (keyB s))∧w=w':=by
  cases s with
  | nil =>
    obtain⟨a,cp,rfl,_,_⟩:=h.slice_form;clear h;go_enter Tryz.func212,Tryz.ntmps212;go_wp2;go_ret;exact⟨rfl,rfl⟩
  | cons x r =>
    have hx:=hk.all x (by simp);have hle:=hx.le;obtain⟨l,hl⟩:∃l:Nat,cntB x-(x.have_:Int)=l:=⟨(cntB x-(x.have_:Int)).toNat,by have:=hx.2.2;omega⟩
    have hkey:keyB (x::r)=(x.map&&decide (l%2=0)):=by
      rw[zaf7];cases hm:x.map with
      | false=>rfl
      | true =>
        have hc:cntB x=2*x.c:=by unfold cntB;rw[hm,if_neg (by have:=hx.1;omega),if_pos rfl]
        rw[Bool.true_and,Bool.true_and,Bool.eq_iff_iff,Bool.not_eq_true',decide_eq_false_iff_not,decide_eq_true_eq];omega
    rw[hkey];simp only[inP,ccP,hl,List.length_cons] at h;obtain⟨g,off,cap,rfl,⟨c0,c1⟩,⟨f0,f1⟩⟩:=zk2 (zcp r) h;have hd:=hk.deep;simp only[List.length_cons] at hd;have hz2:((l:Int)%2==0)=decide (l%2=0):=by
      rw[Bool.eq_iff_iff,beq_iff_eq,decide_eq_true_eq];omega
    clear hk hx hle hl hkey h;generalize r.length=n at *
    have hwn:wrap64 (n:Int)=(n:Int):=by unfold wrap64;omega
    have hwn2:IntKind.i64.wrap (n:Int)=(n:Int):=by simp only[IntKind.wrap_i64];omega
    have hz:((n:Int)≥0)=True:=by simp
    generalize x.map=m at *
    generalize decide (l%2=0)=K at *
    cases m with
    | false =>
      go_enter Tryz.func212,Tryz.ntmps212;go_wp2;go_ret;exact⟨rfl,rfl⟩
    | true =>
      go_enter Tryz.func212,Tryz.ntmps212;go_wp2;go_ret;exact⟨by simp,rfl⟩
theorem zkp {w W w3:World} {b o n:Nat} {v v3:Value} {xs ys:List Value} {ob:Obj} (h:NsP W b o v n xs) (hS:Subg (Value.owner v) b o 1 w W) (hb:b<w.heap.size)
  (hW:Win w3 258 2 v3 (n+1) (xs++ys)) (hG:(W.alloc ob).drew.grownBy w3 v.ownBlock) (hO:v3.ownBlock=v.ownBlock∨v3.ownBlock=some (W.alloc ob).drew.heap.size∧(W.alloc ob).drew.heap.size<w3.heap.size) :
  (w3.cell? ⟨b,o,none⟩=some v∧w3.frozen? ⟨b,o,none⟩=false)∧NsP (w3.setCell ⟨b,o,none⟩ v3) b o v3 (n+1) (xs++ys)∧(∀k∈Value.owner v3,k∈Value.owner v∨w.heap.size≤k)∧Subg (Value.owner v) b o 1 w (w3.setCell ⟨b,o,none⟩ v3):=by
 have hbW:b<W.heap.size:=Nat.lt_of_lt_of_le hb hS.size;have hnb:v.ownBlock≠some b:=fun e=>h.far ((zad _ _).1 e)
 have hblk:w3.heap[b]? = W.heap[b]? :=(hG.block b (by show b<(W.alloc ob).heap.size;simp;omega) (fun e=>hnb e.symm)).trans (Below.heap_alloc W ob b hbW);have hA:=h.ptr.keep hblk;have hown:∀k∈Value.owner v3,k∈Value.owner v∨W.heap.size≤k:=by
  intro k hk;rcases hO with e|⟨e,_⟩
  ·exact .inl ((zad _ _).1 (e▸(zad _ _).2 hk))
  ·have h2:=(zad _ _).2 hk
   rw[e] at h2;cases h2;exact .inr (by show W.heap.size≤(W.alloc ob).heap.size;simp)
 have hfar:b∉Value.owner v3:=fun hk=>(hown b hk).elim h.far (fun h=>by omega)
 refine⟨hA 0 _ rfl,⟨hA.set 0 (by simp) v3,hW.setCell_far hfar _,hfar⟩,fun k hk=>(hown k hk).imp id (fun h=>Nat.le_trans hS.size h),?_⟩;have h1:Subg (Value.owner v) b o 1 W w3:=by
  have h2:Subg (Value.owner v) b o 1 W (W.alloc ob).drew:=(zae (zbj ((Below.refl _ W).alloc (Nat.le_refl _) ob)) hbW _ _ _)
  exact h2.tr (zc6 hG (fun k hk=>(zad _ _).1 hk) hnb (by show b<(W.alloc ob).heap.size;simp;omega))
 exact(hS.tr h1).tr ((zac w3 o v3 (by omega)).subg _)
theorem zadh {w:World} {b o:Nat} {v:Value} {n:Nat} {xs:List Value} (h:NsP w b o v n xs) (hd:n<16) (c:Int) :
  Calls Tryz.prog 213 #[.pointer (some ⟨b,o,none⟩),.agg #[.bool false,.int .i64 c]] w fun e w'=>e= .returned (.tuple #[])∧∃v',NsP w' b o v' (n+1) (xs++[.bool false,.int .i64 (c)])∧(∀k∈Value.owner v',k∈Value.owner v∨w.heap.size≤k)∧Subg (Value.owner v) b o 1 w w':=by
 have hb:=h.ptr.lt (by simp);have hbel:Below w.heap.size w ((w.alloc (.cells #[.bool false,.int .i64 c] 166)).alloc (.cells #[.bool false,.int .i64 c] 258)):=zaa (zaa (Below.refl _ _) _) _;have E2:Hid (Blk ((w.alloc (.cells #[.bool false,.int .i64 c] 166)).alloc (.cells #[.bool false,.int .i64 c] 258)) (w.heap.size+1) #[.bool false,.int .i64 (c)] 258):=hid (by
  have h0:=zag (w.alloc (.cells #[.bool false,.int .i64 c] 166)) #[.bool false,.int .i64 c] 258
  rwa [show∀x,(w.alloc x).heap.size=w.heap.size+1 from fun x=>by simp] at h0)
 have hN:=h.keep hbel;have HN:=hid hN;have hS:=zae hbel hb (Value.owner v) o 1;obtain⟨a,cp,rfl,_,_⟩:=h.win.slice_form;have WD:∀x,Hid (Win ((((w.alloc (.cells #[.bool false,.int .i64 c] 166)).alloc (.cells #[.bool false,.int .i64 c] 258))).alloc x).drew 258 2 (.slice a n cp) n xs):=fun x=>hid (hN.win.alloc x)
 have h5:(((w.alloc (.cells #[.bool false,.int .i64 c] 166)).alloc (.cells #[.bool false,.int .i64 c] 258))).cell? ⟨b,o,none⟩=some (.slice a n cp):=(hN.ptr 0 _ rfl).1;have f5:∀x,((((w.alloc (.cells #[.bool false,.int .i64 c] 166)).alloc (.cells #[.bool false,.int .i64 c] 258))).alloc x).cell? ⟨b,o,none⟩=some (.slice a n cp):=fun x=>((hN.ptr.alloc (by simp) x) 0 _ rfl).1
 have h0:(((w.alloc (.cells #[.bool false,.int .i64 c] 166)).alloc (.cells #[.bool false,.int .i64 c] 258))).cell? ⟨w.heap.size+1,0,none⟩=some (.bool false):=E2.out.cell 0;have h1:(((w.alloc (.cells #[.bool false,.int .i64 c] 166)).alloc (.cells #[.bool false,.int .i64 c] 258))).cell? ⟨w.heap.size+1,1,none⟩=some (.int .i64 (c)):=E2.out.cell 1;have e0:∀x,((((w.alloc (.cells #[.bool false,.int .i64 c] 166)).alloc (.cells #[.bool false,.int .i64 c] 258))).alloc x).cell? ⟨w.heap.size+1,0,none⟩=some (.bool false):=fun x=>(E2.out.alloc x).cell 0
 have e1:∀x,((((w.alloc (.cells #[.bool false,.int .i64 c] 166)).alloc (.cells #[.bool false,.int .i64 c] 258))).alloc x).cell? ⟨w.heap.size+1,1,none⟩=some (.int .i64 (c)):=fun x=>(E2.out.alloc x).cell 1
 have HE:=hid (fun(w3:World) (a3:Option Addr) (c3:Nat) ob hW hG hO=>zkp (w:=w) (W:=((w.alloc (.cells #[.bool false,.int .i64 c] 166)).alloc (.cells #[.bool false,.int .i64 c] 258))) (w3:=w3) (v3:= .slice a3 (n+1) c3) (ys:=[.bool false,.int .i64 (c)]) (ob:=ob) hN hS hb hW hG hO);clear h hbel hN hb hS E2;go_enter Tryz.func213,Tryz.ntmps213;go_wp2;generalize ((w.alloc (.cells #[.bool false,.int .i64 c] 166)).alloc (.cells #[.bool false,.int .i64 c] 258))=W at *
 go_region_law (first
  |(refine zax rfl _ _ _ rfl Tryz.underlying154 zns rfl rfl (WD _).out _ rfl 1 _ (zcl _ Tryz.underlying154 2 1 [.bool false,.int .i64 (c)] 258 _ rfl (by simp[Value.oneCell']) (heap_alloc_new _ _)) (by unfold maxLen;omega) (by omega) ?_;intro v3 w3 hW3 hG3 hO3;obtain⟨a3,c3,rfl,_,_⟩:=Win.slice_form hW3.out;have HP:=hid (HE.out w3 a3 c3 _ hW3.out hG3.out hO3.out);have g0:=HP.out.1.1;have g1:=HP.out.1.2;clear hW3 hG3 hO3))
 all_goals
  go_wp2
  go_end0
  exact⟨rfl,_,HP.out.2⟩
theorem zad5 {w:World} {b o:Nat} {v:Value} {n:Nat} {xs:List Value} (h:NsP w b o v n xs) (hd:n<16) {c:Int} (hc:0≤c∧c≤1000000) :
  Calls Tryz.prog 213 #[.pointer (some ⟨b,o,none⟩),.agg #[.bool true,.int .i64 c]] w fun e w'=>e= .returned (.tuple #[])∧∃v',NsP w' b o v' (n+1) (xs++[.bool true,.int .i64 (c*2)])∧(∀k∈Value.owner v',k∈Value.owner v∨w.heap.size≤k)∧Subg (Value.owner v) b o 1 w w':=by
 have hb:=h.ptr.lt (by simp);have hw:wrap64 (c*2)=c*2:=by unfold wrap64;omega
 have hw2:IntKind.i64.wrap (c*2)=c*2:=by simp only[IntKind.wrap_i64];omega
 have hz:(c != -1)=true:=by rw[bne_iff_ne];omega
 have hbel:Below w.heap.size w ((w.alloc (.cells #[.bool true,.int .i64 c] 166)).alloc (.cells #[.bool true,.int .i64 (c*2)] 258)):=zaa (zaa (Below.refl _ _) _) _;have E2:Hid (Blk ((w.alloc (.cells #[.bool true,.int .i64 c] 166)).alloc (.cells #[.bool true,.int .i64 (c*2)] 258)) (w.heap.size+1) #[.bool true,.int .i64 (c*2)] 258):=hid (by
  have h0:=zag (w.alloc (.cells #[.bool true,.int .i64 c] 166)) #[.bool true,.int .i64 (c*2)] 258
  rwa [show∀x,(w.alloc x).heap.size=w.heap.size+1 from fun x=>by simp] at h0)
 have hN:=h.keep hbel;have HN:=hid hN;have hS:=zae hbel hb (Value.owner v) o 1;obtain⟨a,cp,rfl,_,_⟩:=h.win.slice_form;have WD:∀x,Hid (Win ((((w.alloc (.cells #[.bool true,.int .i64 c] 166)).alloc (.cells #[.bool true,.int .i64 (c*2)] 258))).alloc x).drew 258 2 (.slice a n cp) n xs):=fun x=>hid (hN.win.alloc x)
 have h5:(((w.alloc (.cells #[.bool true,.int .i64 c] 166)).alloc (.cells #[.bool true,.int .i64 (c*2)] 258))).cell? ⟨b,o,none⟩=some (.slice a n cp):=(hN.ptr 0 _ rfl).1;have f5:∀x,((((w.alloc (.cells #[.bool true,.int .i64 c] 166)).alloc (.cells #[.bool true,.int .i64 (c*2)] 258))).alloc x).cell? ⟨b,o,none⟩=some (.slice a n cp):=fun x=>((hN.ptr.alloc (by simp) x) 0 _ rfl).1
 have h0:(((w.alloc (.cells #[.bool true,.int .i64 c] 166)).alloc (.cells #[.bool true,.int .i64 (c*2)] 258))).cell? ⟨w.heap.size+1,0,none⟩=some (.bool true):=E2.out.cell 0;have h1:(((w.alloc (.cells #[.bool true,.int .i64 c] 166)).alloc (.cells #[.bool true,.int .i64 (c*2)] 258))).cell? ⟨w.heap.size+1,1,none⟩=some (.int .i64 (c*2)):=E2.out.cell 1;have e0:∀x,((((w.alloc (.cells #[.bool true,.int .i64 c] 166)).alloc (.cells #[.bool true,.int .i64 (c*2)] 258))).alloc x).cell? ⟨w.heap.size+1,0,none⟩=some (.bool true):=fun x=>(E2.out.alloc x).cell 0
 have e1:∀x,((((w.alloc (.cells #[.bool true,.int .i64 c] 166)).alloc (.cells #[.bool true,.int .i64 (c*2)] 258))).alloc x).cell? ⟨w.heap.size+1,1,none⟩=some (.int .i64 (c*2)):=fun x=>(E2.out.alloc x).cell 1
 have HE:=hid (fun(w3:World) (a3:Option Addr) (c3:Nat) ob hW hG hO=>zkp (w:=w) (W:=((w.alloc (.cells #[.bool true,.int .i64 c] 166)).alloc (.cells #[.bool true,.int .i64 (c*2)] 258))) (w3:=w3) (v3:= .slice a3 (n+1) c3) (ys:=[.bool true,.int .i64 (c*2)]) (ob:=ob) hN hS hb hW hG hO);clear h hbel hN hb hS E2;go_enter Tryz.func213,Tryz.ntmps213;go_wp2;generalize ((w.alloc (.cells #[.bool true,.int .i64 c] 166)).alloc (.cells #[.bool true,.int .i64 (c*2)] 258))=W at *
 go_region_law (first
  |(refine zax rfl _ _ _ rfl Tryz.underlying154 zns rfl rfl (WD _).out _ rfl 1 _ (zcl _ Tryz.underlying154 2 1 [.bool true,.int .i64 (c*2)] 258 _ rfl (by simp[Value.oneCell']) (heap_alloc_new _ _)) (by unfold maxLen;omega) (by omega) ?_;intro v3 w3 hW3 hG3 hO3;obtain⟨a3,c3,rfl,_,_⟩:=Win.slice_form hW3.out;have HP:=hid (HE.out w3 a3 c3 _ hW3.out hG3.out hO3.out);have g0:=HP.out.1.1;have g1:=HP.out.1.2;clear hW3 hG3 hO3))
 all_goals
  go_wp2
  go_end0
  exact⟨rfl,_,HP.out.2⟩
theorem zym {w:World} {b o:Nat} {v:Value} {s:List Bx} (h:NsP w b o v s.length (inP s)) (hd:s.length<16) (m:Bool) (c:Int) (hc:0<c∧c≤1000000) :
    Calls Tryz.prog 213 #[.pointer (some ⟨b,o,none⟩),.agg #[.bool m,.int .i64 c]] w fun e w'=>e= .returned (.tuple #[])∧∃v',NsP w' b o v' (s.length+1) (inP (⟨m,c,0⟩::incB s))∧(∀k∈Value.owner v',k∈Value.owner v∨w.heap.size≤k)∧Subg (Value.owner v) b o 1 w w':=by
  have e0:((0:Nat):Int)=0:=rfl;simp only[inP,zl6,ccP,ccL,e0,Int.sub_zero];cases m with
  | false =>
    have:cntB ⟨false,c,0⟩=c:=by unfold cntB;rw[if_neg (by simp only;omega),if_neg (by simp)]
    rw[this];exact zadh h hd c
  | true =>
    have:cntB ⟨true,c,0⟩=c*2:=by unfold cntB;rw[if_neg (by simp only;omega),if_pos rfl];simp only;omega
    rw[this];exact zad5 h hd ⟨by omega,hc.2⟩
end
section
open Go.RowKit
open Go.Lib
theorem zam (n:Int) (h0:0≤n) (h1:n<18446744073709551616):IntKind.u64.wrap n=n:=by
 simp[IntKind.wrap,IntKind.bits,IntKind.signed];omega
theorem zgb (n:Int) (h0:0≤n) (h1:n<256):IntKind.u8.wrap n=n:=by
 simp[IntKind.wrap,IntKind.bits,IntKind.signed];omega
theorem zgy (x:Nat) (h:x<256):bits .and .u8 (x:Int) 31=((x%32:Nat):Int):=by
 have h1:(BitVec.ofInt 8 (x:Int)).toNat=x:=by
  rw[BitVec.ofInt_natCast,BitVec.toNat_ofNat];exact Nat.mod_eq_of_lt (by omega)
 have h2:(BitVec.ofInt 8 (31:Int)).toNat=31:=by decide
 show IntKind.u8.wrap ((BitVec.ofInt 8 (x:Int) &&& BitVec.ofInt 8 (31:Int)).toNat:Int)=_;rw[BitVec.toNat_and,h1,h2,show 31=2^5-1 by decide,Nat.and_two_pow_sub_one_eq_mod,zgb _ (by omega) (by omega)]
theorem zv2 (a c k:Nat) (ha:a*2^k+c<18446744073709551616) (hc:c<2^k):bits .or .u64 ((a*2^k:Nat):Int) (c:Int)=((a*2^k+c:Nat):Int):=by
 have h1:(BitVec.ofInt 64 ((a*2^k:Nat):Int)).toNat=a*2^k:=by
  rw[BitVec.ofInt_natCast,BitVec.toNat_ofNat];exact Nat.mod_eq_of_lt (by omega)
 have h2:(BitVec.ofInt 64 (c:Int)).toNat=c:=by
  rw[BitVec.ofInt_natCast,BitVec.toNat_ofNat];exact Nat.mod_eq_of_lt (by omega)
 show IntKind.u64.wrap ((BitVec.ofInt 64 ((a*2^k:Nat):Int) ||| BitVec.ofInt 64 (c:Int)).toNat:Int)=_;rw[BitVec.toNat_or,h1,h2,show a*2^k=2^k*a by rw[Nat.mul_comm],← Nat.two_pow_add_eq_or_of_lt hc,zam _ (by omega) (by rw[Nat.mul_comm];omega)]
end
end Go.Proofs.YtpaciekgbhoncaaGreat
