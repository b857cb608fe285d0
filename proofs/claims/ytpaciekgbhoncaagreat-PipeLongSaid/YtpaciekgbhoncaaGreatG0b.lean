/-
  Parts: JinWf, Sub, Kit, Room, Tok, UtfCk, EscFns, Vr, Rune.
-/
import Derived.Test.YtpaciekgbhoncaaGreatG0a
import Derived.Lib.OthersKept
import Derived.Test.YtpaciekgbhoncaaGreatProg
import Derived.WalkKit
import Derived.WalkSpells
import Derived.WalkLawsBesides
import Derived.Deep.QuietTactic
import Derived.BigQuiet
import Derived.Lib.Hide
import Derived.Lib.BufferWrite
import Derived.Lib.SlBuf
import Derived.Lib.SlBytesRow
import Derived.Laws.MakeOwn
import Derived.Laws.CopyOwn
import Derived.StillTailTactics
import Derived.Handy
import Derived.Deep.Light
import Derived.Deep.AppendLies
import Derived.Deep.RegionWith
import Derived.Outline
import Derived.Deep.MidRow
import Derived.Shelf.Small.Utf8
import Derived.Below
import Derived.OwnWalk
set_option maxRecDepth 100000
set_option maxHeartbeats 16000000
open Go.Lib (hid)
namespace Go.Proofs.YtpaciekgbhoncaaGreat
section
open Go.Lib
def zi3 (t:Tk):Prop:=(t.k=44∨t.k=58∨t.k=93∨t.k=125∨t.k=91∨t.k=123∨t.k=115∨t.k=110∨t.k=116∨t.k=102∨t.k=48)∧t.t.length≤200∧t.n.2<18446744073709551616
def WfX:Lx→Prop
 | .word k _=>k=116∨k=102∨k=48
 | .str _ t=>t.length≤200
 | _=>True
theorem zrc (b:Nat):WfX (zar b).1∧∀t∈(zar b).2,zi3 t:=by
 unfold zar;split
 ·exact⟨trivial,by simp⟩
 split
 ·rename_i h
  refine⟨trivial,fun t ht=> ?_⟩;simp only[List.mem_cons,List.not_mem_nil,or_false] at ht;subst ht;simp only[zt3,Bool.or_eq_true,beq_iff_eq] at h;refine⟨?_,by simp[sgnT],by simp[sgnT]⟩;simp only[sgnT];omega
 split
 ·exact⟨by simp[WfX],by simp⟩
 split
 ·exact⟨trivial,by simp⟩
 split
 ·exact⟨.inl rfl,by simp⟩
 split
 ·exact⟨.inr (.inl rfl),by simp⟩
 split
 ·exact⟨.inr (.inr rfl),by simp⟩
 ·exact⟨trivial,by simp⟩
theorem zai6 (d:Dec):(endD d).1.2<18446744073709551616:=by
  cases d with
  | bad f=>simp[endD]
  | num p m v =>
    simp only[endD];split
    · simp
    split
    · split
      · simp only;omega
      · simp
    split
    · simpa using by assumption
    · simp
theorem zq8 (d:Dec):zi3 ⟨110,[],(endD d).1⟩:=⟨by simp,by simp,zai6 d⟩
theorem zpe (s:Lx) (h:WfX s) (b:UInt8):WfX (zak s b).1∧∀t∈(zak s b).2,zi3 t:=by
  match s,h with
  | .bad e,_=>exact⟨trivial,by simp[zak]⟩
  | .idle,_=>exact zrc _
  | .str s t,h =>
    simp only[zak];split
    · refine⟨trivial,fun x hx=> ?_⟩
      simp only[List.mem_cons,List.not_mem_nil,or_false] at hx;subst hx;exact⟨by simp,h,by simp⟩
    split
    · exact⟨trivial,by simp⟩
    split
    · exact⟨trivial,by simp⟩
    · rename_i h3
      refine⟨?_,by simp⟩;show(t++(zaq s b).2).length≤200;omega
  | .num d,_ =>
    simp only[zak];split
    · exact⟨trivial,by simp⟩
    split
    · exact⟨trivial,by simp⟩
    split
    · exact⟨trivial,by simp⟩
    · have hw:=zrc b.toNat
      generalize zar b.toNat=q at hw ⊢;obtain⟨q1,q2⟩:=q;cases q1 with
      | bad e=>exact⟨trivial,by simp[zsa]⟩
      | _ =>
        refine⟨hw.1,fun t ht=> ?_⟩;simp only[zsa,List.mem_append,List.mem_cons,List.not_mem_nil,or_false] at ht;rcases ht with rfl|ht
        · exact zq8 d
        · exact hw.2 t ht
  | .word k [],_=>exact⟨trivial,by simp[zak]⟩
  | .word k (x::q),h =>
    simp only[zak];split
    · split
      · refine⟨trivial,fun t ht=> ?_⟩
        simp only[List.mem_cons,List.not_mem_nil,or_false] at ht;subst ht;have h':k=116∨k=102∨k=48:=h;exact⟨by simp only[sgnT];omega,by simp[sgnT],by simp[sgnT]⟩
      · exact⟨h,by simp⟩
    · exact⟨trivial,by simp⟩
theorem zww (s:Lx):∀t∈(endX s).1,zi3 t:=by
  intro t ht;cases s with
  | num d =>
    simp only[endX] at ht;split at ht
    · simp at ht
    · simp only[List.mem_cons,List.not_mem_nil,or_false] at ht
      subst ht;exact zq8 d
  | _=>simp[endX] at ht
def plJ:List FrJ→Bool→Nat
 | [],dn=>if dn=true then 5 else 0
 |⟨false,p⟩::_,_=>if p=0 then 1 else if p=1 then 5 else 0
 |⟨true,p⟩::_,_=>if p=0 then 3 else if p=1 then 4 else if p=2 then 0 else if p=3 then 5 else 2
def zjv:List FrJ→Prop
 | []=>True
 | f::r=>f.p=(if f.map=true then 3 else 1)∧zjv r
def WfJ (D:Nat) (st:List FrJ) (dn:Bool):Prop :=
  (dn=true→st=[])∧st.length≤D∧match st with
    | []=>True
    | f::r=>f.p≤(if f.map=true then 4 else 2)∧zjv r
def WfP (D:Nat):Pj→Prop
 | .bad e=>e≠0∧e<100
 | .at_ st dn=>WfJ D st dn
theorem zkf (st:List FrJ) (h:match st with | []=>True|f::r=>f.p≤(if f.map=true then 4 else 2)∧zjv r):zjv (zml st):=by
 match st,h with
 | [],_=>trivial
 |⟨false,p⟩::r,h=>exact⟨rfl,h.2⟩
 |⟨true,p⟩::r,h=>exact⟨rfl,h.2⟩
theorem zfg (st:List FrJ):(zml st).length=st.length:=by
 match st with
 | []=>rfl
 |⟨false,p⟩::r=>rfl
 |⟨true,p⟩::r=>rfl
theorem zrg {D:Nat} {st:List FrJ} (h:zjv st) (hl:st.length≤D) (hd:zgo st=true→st=[]):WfJ D st (zgo st):=by
 refine⟨hd,hl,?_⟩
 match st,h with
 | [],_=>trivial
 |⟨false,p⟩::r,h=>exact⟨by have:=h.1;simp at this;simp;omega,h.2⟩
 |⟨true,p⟩::r,h=>exact⟨by have:=h.1;simp at this;simp;omega,h.2⟩
theorem zq6 (st:List FrJ):zgo st=true→st=[]:=by
 match st with
 | []=>exact fun _=>rfl
 | _::_=>exact fun h=>by cases h
theorem zws {D:Nat} {st:List FrJ} {dn:Bool} (h:WfJ D st dn) (e:Ev):WfP D (valJ st dn e).1:=by
 unfold valJ;split
 ·have hd:zgo st=zgo (zml st):=by
   match st with
   | []=>rfl
   |⟨false,_⟩::_=>rfl
   |⟨true,_⟩::_=>rfl
  show WfJ D (zml st) (zgo st);rw[hd];exact zrg (zkf st h.2.2) (by rw[zfg];exact h.2.1) (zq6 _)
 ·exact⟨by decide,by decide⟩
theorem zpx {D:Nat} {st:List FrJ} {dn:Bool} (h:WfJ D st dn) (m:Bool) (e:Ev):WfP D (zer D st dn m e).1:=by
 unfold zer;split
 ·split
  ·exact⟨by decide,by decide⟩
  ·refine⟨fun hh=>(by cases hh),?_,?_⟩
   ·simp only[List.length_cons,zfg];omega
   ·exact⟨by simp,zkf st h.2.2⟩
 ·exact⟨by decide,by decide⟩
theorem zp6 {D:Nat} {st:List FrJ} {dn:Bool} (h:WfJ D st dn) (m:Bool):WfP D (zdq m st).1:=by
  match st,h with
  | [],_=>exact⟨by decide,by decide⟩
  | ⟨b,p⟩::r,h =>
    simp only[zdq];by_cases hc:b=m∧(p=0∨p=if m=true then 3 else 1)
    · rw[if_pos hc]
      have h1:=h.2.1;simp only[List.length_cons] at h1;exact show WfJ D r (zgo r) from zrg h.2.2.2 (by omega) (zq6 _)
    · rw[if_neg hc]
      exact⟨by decide,by decide⟩
theorem zmh {D:Nat} {st:List FrJ} {dn:Bool} (h:WfJ D st dn):WfP D (zek st).1:=by
 unfold zek;split
 ·exact⟨fun hh=>(by cases hh),h.2.1,by simp,h.2.2.2⟩
 ·exact⟨fun hh=>(by cases hh),h.2.1,by simp,h.2.2.2⟩
 ·exact⟨by decide,by decide⟩
theorem zqq {D:Nat} {st:List FrJ} {dn:Bool} (h:WfJ D st dn):WfP D (zd3 st).1:=by
 unfold zd3;split
 ·exact⟨fun hh=>(by cases hh),h.2.1,by simp,h.2.2.2⟩
 ·exact⟨by decide,by decide⟩
theorem zafy {D:Nat} {st:List FrJ} {dn:Bool} (h:WfJ D st dn) (t:List UInt8):WfP D (strJ st dn t).1:=by
 have hv:=zws h (zce t);unfold strJ;split
 ·exact⟨fun hh=>(by cases hh),h.2.1,by simp,h.2.2.2⟩
 ·exact⟨fun hh=>(by cases hh),h.2.1,by simp,h.2.2.2⟩
 ·exact hv
theorem zagb {D:Nat} {p:Pj} (h:WfP D p) (t:Tk):WfP D (tokJ D p t).1:=by
  cases p with
  | bad e=>exact h
  | at_ st dn =>
    simp only[tokJ];split
    · exact zmh h
    split
    · exact zqq h
    split
    · exact zp6 h _
    split
    · exact zp6 h _
    split
    · exact zpx h _ _
    split
    · exact zpx h _ _
    split
    · exact zafy h _
    repeat' (first | exact zws h _|split)
theorem zln {D:Nat}:∀(l:List Tk) {p:Pj},WfP D p→WfP D (zaw D p l).1
 | [],_,h=>h
 | t::l,_,h=>zln l (zagb h t)
def zgt (e:Ev):Prop:=mayE e∧zfi e=e∧EvOk e
theorem zis (t:List UInt8) (h:t.length≤200):zgt (zce t):=by
 refine⟨⟨by simp[zce],by simp[zce],by simp[zce]⟩,rfl,⟨by simp[zce],by simp[zce],by simp[zce],?_⟩⟩;simp only[zce,ByteArray.size,List.size_toArray];omega
theorem zaew (w:Bool×Nat) (h:w.2<18446744073709551616):zgt (zju w):=⟨⟨by simp[zju],by simp[zju],by simp[zju]⟩,rfl,⟨by simp[zju],h,by simp[zju],by simp[zju,ByteArray.size]⟩⟩
theorem zmz (b:Bool):zgt (zdh b):=⟨⟨by simp[zdh],by simp[zdh],by simp[zdh]⟩,rfl,⟨by simp[zdh],by simp[zdh],by simp[zdh],by simp[zdh,ByteArray.size]⟩⟩
theorem zmx (m:Bool):zgt (zda m):=by
 cases m <;>exact⟨by decide,rfl,⟨by simp[zda],by simp[zda],by simp[zda],by simp[zda,ByteArray.size]⟩⟩
theorem zzv:zgt zcy:=⟨by decide,rfl,⟨by simp[zcy],by simp[zcy],by simp[zcy],by simp[zcy,ByteArray.size]⟩⟩
theorem zacb:zgt zbm:=⟨by decide,rfl,⟨by simp[zbm],by simp[zbm],by simp[zbm],by simp[zbm,ByteArray.size]⟩⟩
theorem zny (m:Bool) (st:List FrJ):∀e∈(zdq m st).2,zgt e:=by
  intro e he
  match st,he with
  | [],he=>simp[zdq] at he
  | ⟨b,p⟩::r,he =>
    simp only[zdq] at he;by_cases hc:b=m∧(p=0∨p=if m=true then 3 else 1)
    · rw[if_pos hc] at he
      simp only[List.mem_cons,List.not_mem_nil,or_false] at he;subst he;exact zacb
    · rw[if_neg hc] at he
      simp at he
theorem zf8 {st:List FrJ} {dn:Bool} {e:Ev} (h:zgt e):∀x∈(valJ st dn e).2,zgt x:=by
 intro x hx;unfold valJ at hx;split at hx
 ·simp only[List.mem_cons,List.not_mem_nil,or_false] at hx
  subst hx;exact h
 ·simp at hx
theorem zaea (D:Nat) (p:Pj) (t:Tk) (hk:zi3 t):∀e∈(tokJ D p t).2,zgt e:=by
  intro e he;cases p with
  | bad _=>simp[tokJ] at he
  | at_ st dn =>
    simp only[tokJ] at he;split at he
    · unfold zek at he;split at he <;>simp at he
    split at he
    · unfold zd3 at he;split at he <;>simp at he
    split at he
    · exact zny _ _ e he
    split at he
    · exact zny _ _ e he
    split at he
    · unfold zer at he
      split at he
      · split at he
        · simp at he
        · simp only[List.mem_cons,List.not_mem_nil,or_false] at he;subst he;exact zmx _
      · simp at he
    split at he
    · unfold zer at he
      split at he
      · split at he
        · simp at he
        · simp only[List.mem_cons,List.not_mem_nil,or_false] at he;subst he;exact zmx _
      · simp at he
    split at he
    · unfold strJ at he
      split at he
      · simp only[List.mem_cons,List.not_mem_nil,or_false] at he;subst he;exact zis _ hk.2.1
      · simp only[List.mem_cons,List.not_mem_nil,or_false] at he;subst he;exact zis _ hk.2.1
      · exact zf8 (zis _ hk.2.1) e he
    split at he
    · exact zf8 (zaew _ hk.2.2) e he
    split at he
    · exact zf8 (zmz _) e he
    split at he
    · exact zf8 (zmz _) e he
    · exact zf8 zzv e he
theorem zgk (D:Nat):∀(l:List Tk) (p:Pj),(∀t∈l,zi3 t)→∀e∈(zaw D p l).2,zgt e
  | [],_,_,e,he=>by simp[zaw] at he
  | t::l,p,h,e,he=>by
    simp only[zaw,List.mem_append] at he;rcases he with he|he
    · exact zaea D p t (h t (by simp)) e he
    · exact zgk D l _ (fun x hx=>h x (by simp[hx])) e he
end
section
open Go.RowKit
open Go.Lib
def At (w:World) (b o:Nat) (vs:List Value):Prop:=∀j u,vs[j]? = some u→w.cell? ⟨b,o+j,none⟩=some u∧w.frozen? ⟨b,o+j,none⟩=false
structure Sub (b o n:Nat) (w w':World):Prop where
 step:Step [b] [b] w w'
 shape:∀(c:Array Value) (t:TypeId) (fr:Nat×Nat),w.heap[b]? = some (.cells c t fr)→∃c':Array Value,w'.heap[b]? = some (.cells c' t fr)∧c'.size=c.size
 cell:∀k,(k<o∨o+n≤k)→w'.cell? ⟨b,k,none⟩=w.cell? ⟨b,k,none⟩
theorem Sub.refl (b o n:Nat) (w:World):Sub b o n w w:=⟨Step.refl _ _,fun c _ _ h=>⟨c,h,rfl⟩,fun _ _=>rfl⟩
theorem Sub.trans {b o n:Nat} {w w1 w2:World} (h:Sub b o n w w1) (k:Sub b o n w1 w2):Sub b o n w w2 :=
 ⟨h.step.trans k.step,fun c t fr hc=>by
  obtain⟨c1,h1,s1⟩:=h.shape c t fr hc;obtain⟨c2,h2,s2⟩:=k.shape c1 t fr h1;exact⟨c2,h2,s2.trans s1⟩,fun i hi=>(k.cell i hi).trans (h.cell i hi)⟩
theorem Sub.widen {b o n o' n':Nat} {w w':World} (h:Sub b o n w w') (h1:o'≤o) (h2:o+n≤o'+n'):Sub b o' n' w w' :=
 ⟨h.step,h.shape,fun k hk=>h.cell k (by omega)⟩
theorem Sub.drewN {b o n:Nat} {w w':World} (h:Sub b o n w w') (q:Nat):Sub b o n w (w'.drewN q):=⟨h.step.drewN q,h.shape,h.cell⟩
theorem Sub.drew {b o n:Nat} {w w':World} (h:Sub b o n w w'):Sub b o n w w'.drew:=h.drewN 1
theorem zdv (b o n:Nat) (w:World) (x:Obj) (hb:b<w.heap.size):Sub b o n w (w.alloc x):=by
 have he:∀k,k<w.heap.size→(w.alloc x).heap[k]? = w.heap[k]? := fun k hk=>Below.heap_alloc w x k hk
 refine⟨⟨rfl,rfl,rfl,by simp,fun k hk _=>he k hk,fun _ h=> .inl h⟩,fun c t fr hc=>⟨c,(he b hb).trans hc,rfl⟩,fun k _=>World.cell?_of_block (w:=w) (he b hb)⟩
theorem Sub.alloc {b o n:Nat} {w w':World} (h:Sub b o n w w') (x:Obj) (hb:b<w.heap.size):Sub b o n w (w'.alloc x) :=
 h.trans (zdv b o n w' x (Nat.lt_of_lt_of_le hb h.step.size))
theorem zai (w:World) (p:Addr) (v:Value) (c:Array Value) (t:TypeId) (fr:Nat×Nat) (hp:p.spot=none) (h:w.heap[p.block]? = some (.cells c t fr)) :
  (w.setCell p v).heap[p.block]? = some (.cells (c.setIfInBounds p.off v) t fr):=by
 unfold World.setCell;simp[Array.getElem?_modify,h,hp]
theorem zao (w:World) (b k j:Nat) (v:Value) (h:k≠j):(w.setCell ⟨b,j,none⟩ v).cell? ⟨b,k,none⟩=w.cell? ⟨b,k,none⟩:=by
  unfold World.cell?;cases hb:w.heap[b]? with
  | none =>
    have:(w.setCell ⟨b,j,none⟩ v).heap[b]? = none:=by
      unfold World.setCell;simp[Array.getElem?_modify,hb]
    simp[this]
  | some x =>
    cases x with
    | cells c t fr =>
      have:=zai w ⟨b,j,none⟩ v c t fr rfl hb;simp only[] at this;rw[this];simp[show j≠k from fun e=>h e.symm]
    | _ =>
      unfold World.setCell;simp[Array.getElem?_modify,hb]
theorem zac {b o n:Nat} (w:World) (k:Nat) (v:Value) (h:o≤k∧k<o+n):Sub b o n w (w.setCell ⟨b,k,none⟩ v) :=
 ⟨zal [b] w ⟨b,k,none⟩ v (by simp),fun c t fr hc=>⟨_,zai w ⟨b,k,none⟩ v c t fr rfl hc,by simp⟩,fun i hi=>zao w b i k v (by omega)⟩
theorem Sub.setCell {b o n:Nat} {w w':World} (h:Sub b o n w w') (k:Nat) (v:Value) (hk:o≤k∧k<o+n):Sub b o n w (w'.setCell ⟨b,k,none⟩ v):=h.trans (zac w' k v hk)
theorem Sub.frozen {b o n:Nat} {w w':World} (h:Sub b o n w w') (c:Array Value) (t:TypeId) (fr:Nat×Nat) (hc:w.heap[b]? = some (.cells c t fr)) (k:Nat):w'.frozen? ⟨b,k,none⟩=w.frozen? ⟨b,k,none⟩:=by
 obtain⟨c',h',_⟩:=h.shape c t fr hc;unfold World.frozen?;simp only[hc,h']
theorem zdt {w:World} {b k:Nat} {u:Value} (h:w.cell? ⟨b,k,none⟩=some u):∃c t fr,w.heap[b]? = some (.cells c t fr)∧c[k]? = some u:=by
  unfold World.cell? at h;cases hb:w.heap[b]? with
  | none=>simp[hb] at h
  | some x =>
    cases x with
    | cells c t fr=>exact⟨c,t,fr,rfl,by simpa [hb] using h⟩
    | _=>simp[hb] at h
theorem At.block {w:World} {b o:Nat} {vs:List Value} (h:At w b o vs) (hv:vs≠[]):∃c t fr,w.heap[b]? = some (.cells c t fr):=by
  match vs,hv with
  | v::_,_ =>
    obtain⟨c,t,fr,hc,_⟩:=zdt (h 0 v rfl).1;exact⟨c,t,fr,hc⟩
theorem At.lt {w:World} {b o:Nat} {vs:List Value} (h:At w b o vs) (hv:vs≠[]):b<w.heap.size:=by
 obtain⟨c,t,fr,hc⟩:=h.block hv;exact(Array.getElem?_eq_some_iff.1 hc).1
theorem At.nil_ (w:World) (b o:Nat):At w b o []:=fun j u h=>by simp at h
theorem At.sub {w w':World} {b o n o':Nat} {vs:List Value} (h:At w b o' vs) (k:Sub b o n w w') (hd:o'+vs.length≤o∨o+n≤o'):At w' b o' vs:=fun j u hj=>by
 have hlt:j<vs.length:=(List.getElem?_eq_some_iff.1 hj).1;obtain⟨h1,h2⟩:=h j u hj;obtain⟨c,t,fr,hc,_⟩:=zdt h1;exact⟨(k.cell _ (by omega)).trans h1,(k.frozen c t fr hc _).trans h2⟩
theorem At.keep {w w':World} {b o:Nat} {vs:List Value} (h:At w b o vs) (hk:w'.heap[b]? = w.heap[b]?):At w' b o vs:=fun j u hj=>by
 obtain⟨h1,h2⟩:=h j u hj;exact⟨(World.cell?_of_block (w:=w) (a:=⟨b,o+j,none⟩) hk).trans h1,(World.frozen?_of_block (w:=w) (a:=⟨b,o+j,none⟩) hk).trans h2⟩
theorem At.alloc {w:World} {b o:Nat} {vs:List Value} (h:At w b o vs) (hv:vs≠[]) (x:Obj):At (w.alloc x) b o vs:=h.keep (Below.heap_alloc w x b (h.lt hv))
theorem At.set {w:World} {b o:Nat} {vs:List Value} (h:At w b o vs) (k:Nat) (hk:k<vs.length) (v:Value):At (w.setCell ⟨b,o+k,none⟩ v) b o (vs.set k v):=fun j u hj=>by
 have hs:=zac (b:=b) (o:=o+k) (n:=1) w (o+k) v (by omega);obtain⟨h1,h2⟩:=h k vs[k] (List.getElem?_eq_getElem hk);obtain⟨c,t,fr,hc,hcu⟩:=zdt h1;by_cases e:j=k
 ·subst e
  have:u=v:=by simpa [hk] using hj.symm
  subst this;refine⟨?_,(hs.frozen c t fr hc _).trans h2⟩;have hh:=zai w ⟨b,o+j,none⟩ u c t fr rfl hc;have hlt:o+j<c.size:=(Array.getElem?_eq_some_iff.1 hcu).1;unfold World.cell?;simp only[] at hh;rw[hh];simp[hlt]
 ·rw[List.getElem?_set_ne (fun h=>e h.symm)] at hj
  obtain⟨g1,g2⟩:=h j u hj;exact⟨(hs.cell _ (by omega)).trans g1,(hs.frozen c t fr hc _).trans g2⟩
theorem zag3 {w:World} {b o:Nat} {v:Value} {vs:List Value} (h:w.cell? ⟨b,o,none⟩=some v∧w.frozen? ⟨b,o,none⟩=false) (ht:At w b (o+1) vs):At w b o (v::vs):=fun j u hj=>by
  cases j with
  | zero =>
    have:u=v:=by simpa using hj.symm
    subst this;exact h
  | succ j =>
    have:=ht j u (by simpa using hj);rw[show o+(j+1)=o+1+j by omega];exact this
theorem At.left {w:World} {b o:Nat} {vs us:List Value} (h:At w b o (vs++us)):At w b o vs:=fun j u hj=>h j u (by
 have:=(List.getElem?_eq_some_iff.1 hj).1;rw[List.getElem?_append_left this];exact hj)
theorem At.right {w:World} {b o:Nat} {vs us:List Value} (h:At w b o (vs++us)):At w b (o+vs.length) us:=fun j u hj=>by
 have:=h (vs.length+j) u (by
  rw[List.getElem?_append_right (by omega)];simpa using hj)
 rw[show o+vs.length+j=o+(vs.length+j) by omega];exact this
theorem At.append {w:World} {b o:Nat} {vs us:List Value} (h:At w b o vs) (k:At w b (o+vs.length) us):At w b o (vs++us):=fun j u hj=>by
 by_cases hlt:j<vs.length
 ·rw[List.getElem?_append_left hlt] at hj
  exact h j u hj
 ·rw[List.getElem?_append_right (by omega)] at hj
  have:=k (j-vs.length) u hj;rw[show o+vs.length+(j-vs.length)=o+j by omega] at this;exact this
end
section
open Go.RowKit
open Go.Lib
theorem zl9 {P:Program} (t e:TypeId) (i:TypeInfo) (z:Value) (ht:P.underlying t=some (.slice e)) (hi:P.info? e=some i) (hz:i.zero=some z)
  (kl kc:IntKind) (n c:Nat) (hnc:n≤c) (hbytes:i.bytes*c≤281474976710656) (h63:c≤9223372036854775807) (w:World) :
  (Instr.makeSlice t (.int kl (n:Int)) (.int kc (c:Int))).run P w= .ok (.slice (some ⟨w.heap.size,0,none⟩) n c) (w.alloc (.cells (madeCells z.cells (c*i.size)) e)):=by
 have hb:(i.bytes:Int)*(c:Int)≤281474976710656:=by
  have h:((i.bytes*c:Nat):Int)≤281474976710656:=by omega
  rwa [Int.natCast_mul] at h
 have hr:=run_make (P:=P) w t e i z ht hi hz kl kc n c (by omega) (by omega) hb (by omega);simp only[Int.toNat_natCast] at hr;exact hr
theorem zahu:(Tryz.prog.info? 5).map (fun i=>(i.zero,i.size,i.bytes))=some (some (.int .u8 0),1,1):=by kernel_rfl
theorem zti (n:Nat):madeCells (Value.cells (.int .u8 0)) (n*1)=(Lib.byteCells (List.replicate n 0)).toArray:=by
 apply Array.toList_inj.1;simp[madeCells,Lib.byteCells];apply List.ext_getElem
 ·simp
 ·intro i h1 h2
  simp[Value.cells,Nat.mod_one]
open Go in
theorem za4 {P:Program} {id:Nat} {Q:Exit→Act→World→Prop} {a:Act} {w:World} {l:List Oper} (n:Nat) (hm:P.follows .mixedOrders=true) (hB:Region.lexTailB .any l.toArray n=true)
  (h:wpStill P l.toArray w.drew (fun a'=>wpList P l.toArray Q (l.drop n) a' w.drew) (l.take n) a):(Code.region id l.toArray true).wp P Q a w :=
 wp_region_still_tail n hm hB h
theorem znr (W:World) (t e:TypeId) (ht:Tryz.prog.underlying t=some (.slice e)) (hz:∀w,(Go.sizeOf e).run Tryz.prog w= .ok 1 w) (b len cap h:Nat) (hh:h≤cap) :
  (Instr.slice t (.slice (some ⟨b,0,none⟩) len cap) none (some (.int .i64 (h:Int))) none).run Tryz.prog W= .ok (.slice (some ⟨b,0,none⟩) h cap) W:=by
 go_simp
theorem zak0 (w:World):(Go.sizeOf 5).run Tryz.prog w= .ok 1 w:=by kernel_rfl
theorem zaa8 {w:World} {g:Nat} {l:List UInt8} (hg:w.heap[g]? = some (.cells (Lib.byteCells l).toArray 5 (0,0))):Lib.Bytes w g 0 ⟨l.toArray⟩:=by
 intro i hi;have hi':i<l.length:=by simpa [ByteArray.size] using hi
 simp only[World.cell?,hg];simp[Lib.byteCells,hi'];rfl
theorem zaet {w:World} {g:Nat} {l:List UInt8} (hg:w.heap[g]? = some (.cells (Lib.byteCells l).toArray 5 (0,0))) (f a cap:Nat) (h:f+a≤l.length) :
  (convert 30 9 (.slice (some ⟨g,f,none⟩) a cap)).run Tryz.prog w= .ok (.string ⟨((l.drop f).take a).toArray⟩) w:=by
 have:=run_convert_window (P:=Tryz.prog) w 30 5 9 Tryz.underlying30 Tryz.underlying5 Tryz.underlying9 g 0 ⟨l.toArray⟩ (zaa8 hg) f a cap (by simpa [ByteArray.size] using h);rw[Nat.zero_add] at this;rw[this];congr 2;apply ByteArray.ext;apply Array.toList_inj.1;rw[extract_data];simp
theorem zn8 (x y:List UInt8):((⟨x.toArray⟩:ByteArray)++(⟨y.toArray⟩:ByteArray))=⟨(x++y).toArray⟩:=by
 apply ByteArray.ext;apply Array.toList_inj.1;simp
structure But (g:Nat) (w w':World):Prop where
 os:w'.os=w.os
 tape:w'.tape=w.tape
 output:w'.output=w.output
 size:w'.heap.size=w.heap.size
 block:∀k,k≠g→w'.heap[k]? = w.heap[k]?
theorem zdk (x:ByteArray) (k:Nat) (hk:k≤x.size) (W:World):(Instr.slice 9 (.string x) none (some (.int .i64 (k:Int))) none).run Tryz.prog W= .ok (.string (x.extract 0 k)) W:=by
 rw[run_slice_string_h W 9 x Tryz.underlying9 .i64 _ (by omega) (by omega)];simp
theorem zol (x:ByteArray) (a k:Nat) (ha:a≤k) (hk:k≤x.size) (W:World):(Instr.slice 9 (.string x) (some (.int .i64 (a:Int))) (some (.int .i64 (k:Int))) none).run Tryz.prog W= .ok (.string (x.extract a k)) W:=by
 rw[run_slice_string W 9 x .i64 .i64 _ _ Tryz.underlying9 (by omega) (by omega) (by omega)];simp
theorem ze6 (x:ByteArray) (a k:Nat):(x.extract a k).data.toList=(x.data.toList.take k).drop a:=by
 rw[extract_data,List.drop_take]
theorem zb5 {B:Nat} {a w:World} (h:Below B a w) (n:Nat):Below B a (w.drewN n):=⟨h.os,h.tape,h.output,h.size,h.block⟩
structure Keep (B L:Nat) (w w':World):Prop where
 below:Below B w w'
 above:∀k,L≤k→w'.heap[k]? = w.heap[k]?
theorem zxa (m:Nat) (hm:m≤100000) (v:Int) (hv:v=m):∀W:World,(Instr.makeSlice 30 (.int .i64 v) (.int .i64 v)).run Tryz.prog W= .ok (.slice (some ⟨W.heap.size,0,none⟩) m m) (W.alloc (.cells (Lib.byteCells (List.replicate m 0)).toArray 5)):=by
 subst hv;obtain⟨i0,hi,hz0,hz1,hz2⟩:=info_parts zahu;intro W;have:=zl9 (P:=Tryz.prog) 30 5 i0 (.int .u8 0) Tryz.underlying30 hi hz0 .i64 .i64 m m (Nat.le_refl _) (by rw[hz2];omega) (by omega) W;rw[hz1,zti] at this;exact this
theorem zgs (x:ByteArray):(⟨x.data.toList.toArray⟩:ByteArray)=x:=by
 apply ByteArray.ext;simp
theorem zafu (a:Addr) (n:Nat):(a.add n).block=a.block:=by unfold Addr.add;split <;>rfl
def zall (w:World) (B size:Nat) (A:Option Addr) (n:Nat) (xs:List Value):Prop :=
 xs.length=n*size∧(0<n→∃ad,A=some ad∧ad.block<B∧∀j u,xs[j]? = some u→w.cell? (ad.add j)=some u)
section
variable {w w' : World} {B B' size n : Nat} {A : Option Addr} {xs : List Value}
end
theorem zb3 (x:ByteArray):x.data.toList.length=x.size:=by simp
theorem zg5 (x:ByteArray) (a:Nat) (ha:a≤x.size) (W:World):(Instr.slice 9 (.string x) (some (.int .i64 (a:Int))) none none).run Tryz.prog W= .ok (.string (x.extract a x.size)) W:=by
 rw[run_slice_string_l W 9 x Tryz.underlying9 .i64 _ (by omega) (by omega)];simp
theorem zbd (l:List UInt8):(⟨l.toArray⟩:ByteArray).size=l.length:=by simp[ByteArray.size]
theorem zc8 (l k:List UInt8):(⟨l.toArray⟩:ByteArray)++⟨k.toArray⟩=⟨(l++k).toArray⟩:=by
 apply ByteArray.ext;simp
theorem zhu (W:World) (l:List UInt8) (cs:Array Value) (k:Nat) (hk:l.length=k) (hc:cs=(Lib.byteCells l).toArray) (x:ByteArray) (hx:x=⟨l.toArray⟩) :
  (convert 30 9 (.slice (some ⟨W.heap.size,0,none⟩) k k)).run Tryz.prog (W.alloc (.cells cs 5))= .ok (.string x) (W.alloc (.cells cs 5)):=by
 subst hc hk hx;have:=zaet (w:=W.alloc (.cells (Lib.byteCells l).toArray 5)) (g:=W.heap.size) (l:=l) (heap_alloc_new W _) 0 l.length l.length (by omega);rw[this];simp
theorem zbx (n:Int) (h0:0≤n) (h1:n<18446744073709551616):IntKind.u64.wrap n=n:=by
 simp[IntKind.wrap,IntKind.bits,IntKind.signed];omega
theorem zuk (n:Int) (h0:0≤n) (h1:n<256):IntKind.u8.wrap n=n:=by
 simp[IntKind.wrap,IntKind.bits,IntKind.signed];omega
theorem ziy (n:Int) (h:0≤n) (h1:n≤1114111):IntKind.i32.wrap n=n:=by rw[IntKind.wrap_i32];omega
end
section
open Go.RowKit
open Go.Lib
def Room (w:World) (b o n:Nat):Prop:=∃c t fr,w.heap[b]? = some (.cells c t fr)∧o+n≤c.size∧∀k,o≤k→k<o+n→w.frozen? ⟨b,k,none⟩=false
theorem Room.cell {w:World} {b o n:Nat} (h:Room w b o n) (k:Nat) (h1:o≤k) (h2:k<o+n):∃v,w.cell? ⟨b,k,none⟩=some v∧w.frozen? ⟨b,k,none⟩=false:=by
 obtain⟨c,t,fr,hc,hs,hf⟩:=h;refine⟨c[k]'(by omega),?_,hf k h1 h2⟩;unfold World.cell?;simp only[hc];simp[show k<c.size by omega]
theorem Room.lt {w:World} {b o n:Nat} (h:Room w b o n):b<w.heap.size:=by
 obtain⟨c,t,fr,hc,_⟩:=h;exact(Array.getElem?_eq_some_iff.1 hc).1
theorem Room.sub {w w':World} {b o n o' n':Nat} (h:Room w b o n) (k:Sub b o' n' w w'):Room w' b o n:=by
 obtain⟨c,t,fr,hc,hs,hf⟩:=h;obtain⟨c',hc',hs'⟩:=k.shape c t fr hc;exact⟨c',t,fr,hc',by omega,fun i h1 h2=>(k.frozen c t fr hc i).trans (hf i h1 h2)⟩
theorem Room.keep {w w':World} {b o n:Nat} (h:Room w b o n) (hk:w'.heap[b]? = w.heap[b]?):Room w' b o n:=by
 obtain⟨c,t,fr,hc,hs,hf⟩:=h;exact⟨c,t,fr,hk.trans hc,hs,fun i h1 h2=>(World.frozen?_of_block (w:=w) (a:=⟨b,i,none⟩) hk).trans (hf i h1 h2)⟩
theorem Room.part {w:World} {b o n o' n':Nat} (h:Room w b o n) (h1:o≤o') (h2:o'+n'≤o+n):Room w b o' n':=by
 obtain⟨c,t,fr,hc,hs,hf⟩:=h;exact⟨c,t,fr,hc,by omega,fun i h3 h4=>hf i (by omega) (by omega)⟩
theorem Room.there {w:World} {b o n:Nat} (h:Room w b o n):w.there b o n:=fun j hj=>by
 obtain⟨v,hv,hf⟩:=h.cell (o+j) (by omega) (by omega);exact⟨by rw[hv];rfl,hf⟩
theorem At.room {w:World} {b o:Nat} {vs:List Value} (h:At w b o vs) (hv:vs≠[]):Room w b o vs.length:=by
 obtain⟨c,t,fr,hc⟩:=h.block hv;have hl:0<vs.length:=List.length_pos_iff.2 hv;refine⟨c,t,fr,hc,?_,fun k h1 h2=> ?_⟩
 ·have h1:=(h (vs.length-1) _ (List.getElem?_eq_getElem (by omega))).1
  unfold World.cell? at h1;simp only[hc] at h1;have:=(Array.getElem?_eq_some_iff.1 (by simpa using h1)).1;omega
 ·have h3:=(h (k-o) _ (List.getElem?_eq_getElem (by omega))).2
  rwa [show o+(k-o)=k by omega] at h3
theorem zkj (b:Nat):∀(vs:List Value) (w:World) (o:Nat),Sub b o vs.length w (w.setCells b o vs):=by
  intro vs
  induction vs with
  | nil=>intro w o;exact Sub.refl _ _ _ _
  | cons v r ih =>
    intro w o;exact(zac w o v (by simp only[List.length_cons];omega)).trans ((ih _ (o+1)).widen (by omega) (by simp only[List.length_cons];omega))
theorem zyz (b:Nat):∀(vs:List Value) (w:World) (o:Nat),Room w b o vs.length→At (w.setCells b o vs) b o vs:=by
  intro vs
  induction vs with
  | nil=>intro w o _;exact At.nil_ _ _ _
  | cons v r ih =>
    intro w o hR;have h1:=zac (b:=b) (o:=o) (n:=1) w o v (by omega);refine zag3 ?_ (ih _ _ ((hR.sub h1).part (by omega) (by simp only[List.length_cons];omega)));have hs:=zkj b r (w.setCell ⟨b,o,none⟩ v) (o+1);obtain⟨u,hu,hf⟩:=hR.cell o (Nat.le_refl _) (by simp only[List.length_cons];omega);have hA:At w b o [u]:=fun j x hx=>by
      cases j with
      | zero => have:x=u:=by simpa using hx.symm
                subst this;exact⟨hu,hf⟩
      | succ j=>simp at hx
    have hB:At (w.setCell ⟨b,o,none⟩ v) b o [v]:=hA.set 0 (by simp) v;exact(hB.sub hs (.inl (by simp))) 0 v rfl
theorem zas {P:Program} {ops:Array Oper} {rest:List Oper} {op:Oper} {a:Act} {w:World} {Q:Exit→Act→World→Prop} (hgd:op.guard=none) (ty:TypeId) (x y:Operand) (ho:op.op= .store ty x y)
  (b o:Nat) (cs:List Value) (hx:a.eval x= .pointer (some ⟨b,o,none⟩)) (hy:a.eval y= .agg cs.toArray) (hr:Room w b o cs.length) (hi:(P.info? ty).map (·.size)=some cs.length) (h1:cs.toArray.all (·.oneCell')=true)
  (h:∀w',Hid (At w' b o cs∧Sub b o cs.length w w')→wpList P ops Q rest (a.put op.dst undef) w'):wpList P ops Q (op::rest) a w :=
 wpList_store_mid hgd ty x y ho b o cs.toArray hx hy (by simpa using hr.there) (by simpa using hi) h1 (h _ (hid ⟨zyz b _ w o hr,zkj b _ w o⟩))
theorem Room.alloc {w:World} {b o n:Nat} (h:Room w b o n) (x:Obj):Room (w.alloc x) b o n:=h.keep (Below.heap_alloc w x b h.lt)
theorem zbr {w w':World} {b:Nat} (h:Below w.heap.size w w') (hb:b<w.heap.size) (o n:Nat):Sub b o n w w' :=
 ⟨⟨h.os,h.tape,h.output,h.size,fun k hk _=>h.block k hk,fun _ h=> .inl h⟩,fun c _ _ hc=>⟨c,(h.block b hb).trans hc,rfl⟩,fun _ _=>World.cell?_of_block (w:=w) (h.block b hb)⟩
end
section
open Go.RowKit
open Go.Lib
def zez (t:Tk):List Value:=[.int .u8 t.k,.string ⟨t.t.toArray⟩,.bool t.n.1,.int .u64 t.n.2]
def tkV (t:Tk):Value:= .agg #[.int .u8 t.k,.string ⟨t.t.toArray⟩,.bool t.n.1,.int .u64 t.n.2]
def tksC:List Tk→List Value
 | []=>[]
 | e::r=>zez e++tksC r
theorem zqd (L K:List Tk):tksC (L++K)=tksC L++tksC K:=by
 induction L with
 | nil=>rfl
 | cons e L ih=>simp only[List.cons_append,tksC,ih,List.append_assoc]
theorem zadl (L:List Tk):∀u∈tksC L,u.oneCell'=true:=by
  induction L with
  | nil=>intro u h;simp[tksC] at h
  | cons e L ih =>
    intro u h;rw[tksC,List.mem_append] at h;rcases h with h|h
    · simp[zez] at h
      rcases h with rfl|rfl|rfl|rfl <;>rfl
    · exact ih u h
def getT (L:List Tk) (i:Nat):Tk:=L[i]?.getD (sgnT 0)
theorem zhv (L:List Tk):∀(i j:Nat),i<L.length→j<4→(tksC L)[i*4+j]? =(zez (getT L i))[j]? := by
  induction L with
  | nil=>intro i j h;simp at h
  | cons e L ih =>
    intro i j hi hj;rw[tksC];cases i with
    | zero =>
      rw[List.getElem?_append_left (by simp[zez];omega)];simp[getT]
    | succ i =>
      rw[List.getElem?_append_right (by simp[zez];omega)];have h1:(i+1)*4+j-(zez e).length=i*4+j:=by simp[zez];omega
      rw[h1,ih i j (by simpa using hi) hj];simp[getT]
theorem zahk:(Tryz.prog.info? 205).map (fun i=>(i.zero,i.size,i.bytes))=some (some (.agg #[.int .u8 0,.string ⟨#[]⟩,.bool false,.int .u64 0]),4,40):=by kernel_rfl
structure Tks (w0 w:World) (v:Value) (L:List Tk):Prop where
 win:Win w 205 4 v L.length (tksC L)
 new:∀k∈Value.owner v,w0.heap.size≤k
theorem Tks.nil_ (w0 w:World):Tks w0 w (.slice none 0 0) []:=⟨Win.nil_ _ _ _,fun k hk=>by simp[Value.owner] at hk⟩
theorem Tks.keep {w0 w w':World} {v:Value} {L:List Tk} (h:Tks w0 w v L) (hk:∀k,k<w.heap.size→w0.heap.size≤k→w'.heap[k]? = w.heap[k]?):Tks w0 w' v L :=
 ⟨h.win.keep fun k ho=>hk k (h.win.lt k ho) (h.new k ho),h.new⟩
theorem Tks.go {w0 w w':World} {v:Value} {L:List Tk} (h:Tks w0 w v L) (k:Below w.heap.size w w'):Tks w0 w' v L:=h.keep fun i hi _=>k.block i hi
theorem Tks.sub {w0 w w':World} {v:Value} {L:List Tk} {b o n:Nat} (h:Tks w0 w v L) (k:Sub b o n w w') (hb:b<w0.heap.size):Tks w0 w' v L :=
 h.keep fun i hi h0=>k.step.block i hi (by simp only[List.mem_singleton];omega)
theorem Tks.old {w0 w1 w:World} {v:Value} {L:List Tk} (h:Tks w0 w v L) (hs:w1.heap.size≤w0.heap.size):Tks w1 w v L:=⟨h.win,fun k hk=>Nat.le_trans hs (h.new k hk)⟩
theorem Tks.form {w0 w:World} {v:Value} {L:List Tk} (h:Tks w0 w v L):∃a c,v= .slice a L.length c:=by
 obtain⟨a,c,h,_,_⟩:=h.win.slice_form;exact⟨a,c,h⟩
theorem Tks.cells {w0 w:World} {v:Value} {L:List Tk} (h:Tks w0 w v L) {i:Nat} (hi:i<L.length):∃b off c,v= .slice (some ⟨b,off,none⟩) L.length c ∧
  w.cell? ⟨b,off+i*4,none⟩=some (.int .u8 (getT L i).k)∧w.cell? ⟨b,off+i*4+1,none⟩=some (.string ⟨(getT L i).t.toArray⟩)∧w.cell? ⟨b,off+i*4+2,none⟩=some (.bool (getT L i).n.1)∧w.cell? ⟨b,off+i*4+3,none⟩=some (.int .u64 (getT L i).n.2):=by
 obtain⟨g,off,c,rfl,_,_,_,_,hc⟩:=h.win.form (by omega);refine⟨g,off,c,rfl,?_,?_,?_,?_⟩
 ·exact(hc (i*4+0) _ (by rw[zhv L i 0 hi (by omega)];rfl)).1
 ·exact(hc (i*4+1) _ (by rw[zhv L i 1 hi (by omega)];rfl)).1
 ·exact(hc (i*4+2) _ (by rw[zhv L i 2 hi (by omega)];rfl)).1
 ·exact(hc (i*4+3) _ (by rw[zhv L i 3 hi (by omega)];rfl)).1
theorem zaij (w0 w:World) (t:Tk) (hs:w0.heap.size≤w.heap.size):Tks w0 (w.alloc (.cells #[.int .u8 t.k,.string ⟨t.t.toArray⟩,.bool t.n.1,.int .u64 t.n.2] 205)) (.slice (some ⟨w.heap.size,0,none⟩) 1 1) [t] :=
 ⟨⟨rfl,.inr ⟨w.heap.size,0,1,_,rfl,heap_alloc_new w _,Nat.le_refl _,by simp,by unfold maxLen;omega,by simp[tksC,zez]⟩⟩,fun k hk=>by simp[Value.owner] at hk;subst hk;exact hs⟩
end
section
open Go.RowKit
open Go.Lib
def za9 (n lo hi:Nat) (bad:Bool):List Value:=[.int .i64 n,.int .u8 lo,.int .u8 hi,.bool bad]
def CAt (w:World) (b o:Nat):Option (Nat×Nat×Nat)→Prop
 | none=>∃n lo hi:Nat,At w b o (za9 n lo hi true)
 | some (k,l,h)=>k≤3∧∃lo hi:Nat,At w b o (za9 k lo hi false)∧(0<k→lo=l∧hi=h)
theorem CAt.cells {w:World} {b o:Nat} {s:Option (Nat×Nat×Nat)} (h:CAt w b o s):∃n lo hi,At w b o (za9 n lo hi s.isNone):=by
 match s,h with
 | none,⟨n,lo,hi,h⟩=>exact⟨n,lo,hi,h⟩
 | some (k,_,_),⟨_,lo,hi,h,_⟩=>exact⟨k,lo,hi,h⟩
theorem CAt.lt {w:World} {b o:Nat} {s:Option (Nat×Nat×Nat)} (h:CAt w b o s):b<w.heap.size:=by
 obtain⟨_,_,_,h⟩:=h.cells;exact h.lt (by simp[za9])
theorem CAt.map {w w':World} {b o:Nat} {s:Option (Nat×Nat×Nat)} (h:CAt w b o s) (hk:∀vs:List Value,vs.length=4→At w b o vs→At w' b o vs):CAt w' b o s:=by
 match s,h with
 | none,⟨n,lo,hi,h⟩=>exact⟨n,lo,hi,hk _ rfl h⟩
 | some (_,_,_),⟨h0,lo,hi,h,h1⟩=>exact⟨h0,lo,hi,hk _ rfl h,h1⟩
theorem CAt.keep {w w':World} {b o:Nat} {s:Option (Nat×Nat×Nat)} (h:CAt w b o s) (hk:w'.heap[b]? = w.heap[b]?):CAt w' b o s:=h.map fun _ _ h=>h.keep hk
theorem CAt.sub {w w':World} {b o o' n:Nat} {s:Option (Nat×Nat×Nat)} (h:CAt w b o s) (k:Sub b o' n w w') (hd:o+4≤o'∨o'+n≤o):CAt w' b o s:=h.map fun vs hv h=>h.sub k (by omega)
def zle (w:World) (b o:Nat) (s:Option (Nat×Nat×Nat)) (w':World):Prop:=CAt w' b o s∧Sub b o 4 w w'
theorem zeb {w:World} {b o:Nat} (h:At w b o (za9 0 0 0 false)):CAt w b o st0:=⟨by omega,0,0,h,fun h=>by omega⟩
theorem At.four {w:World} {b o:Nat} {v0 v1 v2 v3:Value} (h:At w b o [v0,v1,v2,v3]) :
  (w.cell? ⟨b,o,none⟩=some v0∧w.frozen? ⟨b,o,none⟩=false)∧(w.cell? ⟨b,o+1,none⟩=some v1∧w.frozen? ⟨b,o+1,none⟩=false) ∧
  (w.cell? ⟨b,o+2,none⟩=some v2∧w.frozen? ⟨b,o+2,none⟩=false)∧(w.cell? ⟨b,o+3,none⟩=some v3∧w.frozen? ⟨b,o+3,none⟩=false) :=
 ⟨h 0 v0 rfl,h 1 v1 rfl,h 2 v2 rfl,h 3 v3 rfl⟩
theorem zr8 (w:World) (b o:Nat) (v0 v1 v2 v3:Value) (hb:At w b o [v0,v1,v2,v3]) (n lo hi:Int) :
  Calls Tryz.prog 148 #[.pointer (some ⟨b,o,none⟩),.int .i64 n,.int .u8 lo,.int .u8 hi] w fun e w'=>e= .returned (.tuple #[]) ∧
   At w' b o [.int .i64 n,.int .u8 lo,.int .u8 hi,v3]∧Sub b o 4 w w':=by
 obtain⟨⟨hc0,hf0⟩,⟨hc1,hf1⟩,⟨hc2,hf2⟩,_⟩:=hb.four;have e1:=hb.set 0 (by simp) (.int .i64 n);have e2:=e1.set 1 (by simp) (.int .u8 lo);have e3:=e2.set 2 (by simp) (.int .u8 hi);have s3:Sub b o 4 w (((w.setCell ⟨b,o,none⟩ (.int .i64 n)).setCell ⟨b,o+1,none⟩ (.int .u8 lo)).setCell ⟨b,o+2,none⟩ (.int .u8 hi)) :=
  ((zac w o _ (by omega)).setCell (o+1) _ (by omega)).setCell (o+2) _ (by omega)
 have HP:=hid (And.intro e3 s3);clear hb e1 e2 e3 s3;go_enter Tryz.func148,Tryz.ntmps148;go_wp2
 go_end0
 exact⟨rfl,HP.out⟩
theorem zlz {w:World} {b o:Nat} {n lo hi:Nat} {v:Value} (hb:At w b o [.int .i64 n,.int .u8 lo,.int .u8 hi,v]):zle w b o none (w.setCell ⟨b,o+3,none⟩ (.bool true)) :=
 ⟨⟨n,lo,hi,hb.set 3 (by simp) _⟩,zac w (o+3) _ (by omega)⟩
theorem zwj {w:World} {b o:Nat} {s:Option (Nat×Nat×Nat)} (h:CAt w b o s):w.cell? ⟨b,o+3,none⟩=some (.bool s.isNone):=by
 obtain⟨_,_,_,h⟩:=h.cells;exact h.four.2.2.2.1
theorem zaeg (w:World) (b o:Nat) (lo hi:Nat) (hb:At w b o (za9 0 lo hi false)) (x:Nat) (hx:x<256) :
  Calls Tryz.prog 142 #[.pointer (some ⟨b,o,none⟩),.int .u8 x] w fun e w'=>e= .returned (.tuple #[])∧zle w b o (za0 x) w':=by
 obtain⟨_,_,_,hc3,hf3⟩:=hb.four;have HB:=hid hb;have HL:=hid (zr8 w b o _ _ _ _ hb);clear hb;by_cases c0:(x:Int)<128
 ·have he:za0 x=some (0,0,0):=by unfold za0;rw[if_pos (by omega)]
  rw[he];go_enter Tryz.func142,Tryz.ntmps142;go_wp2
  go_end0
  exact⟨rfl,⟨by omega,lo,hi,HB.out,fun h=>by omega⟩,Sub.refl _ _ _ _⟩
 by_cases c1:(194:Int)≤x∧(x:Int)≤223
 ·obtain⟨c1a,c1b⟩:=c1
  have he:za0 x=some (1,128,191):=by unfold za0;rw[if_neg (by omega),if_pos (by omega)]
  rw[he];go_enter Tryz.func142,Tryz.ntmps142;(go_wp2_with fail);refine(HL.out 1 128 191).mono ?_;rintro e w' ⟨rfl,hb',hs⟩;go_wp2
  go_end0
  exact⟨rfl,⟨by omega,128,191,hb',fun _=>⟨rfl,rfl⟩⟩,hs⟩
 have c1':(194:Int)≤x→¬(x:Int)≤223:=fun h h'=>c1 ⟨h,h'⟩
 clear c1;by_cases d1:(194:Int)≤x
 ·have c1'':=c1' d1
  clear c1';by_cases c2:(x:Int)=224
  ·have c2z:((x:Int)==224)=true:=by rw[beq_iff_eq];exact c2
   have he:za0 x=some (2,160,191):=by unfold za0;rw[if_neg (by omega),if_neg (by omega),if_pos (by omega)]
   rw[he];go_enter Tryz.func142,Tryz.ntmps142;(go_wp2_with fail);refine(HL.out 2 160 191).mono ?_;rintro e w' ⟨rfl,hb',hs⟩;go_wp2
   go_end0
   exact⟨rfl,⟨by omega,160,191,hb',fun _=>⟨rfl,rfl⟩⟩,hs⟩
  have c2z:((x:Int)==224)=false:=by rw[beq_eq_false_iff_ne];exact c2
  by_cases c3:(x:Int)=237
  ·have c3z:((x:Int)==237)=true:=by rw[beq_iff_eq];exact c3
   have he:za0 x=some (2,128,159):=by unfold za0;rw[if_neg (by omega),if_neg (by omega),if_neg (by omega),if_pos (by omega)]
   rw[he];go_enter Tryz.func142,Tryz.ntmps142;(go_wp2_with fail);refine(HL.out 2 128 159).mono ?_;rintro e w' ⟨rfl,hb',hs⟩;go_wp2
   go_end0
   exact⟨rfl,⟨by omega,128,159,hb',fun _=>⟨rfl,rfl⟩⟩,hs⟩
  have c3z:((x:Int)==237)=false:=by rw[beq_eq_false_iff_ne];exact c3
  have c4a:(225:Int)≤x:=by omega
  by_cases c4:(x:Int)≤239
  ·skip
   have he:za0 x=some (2,128,191):=by unfold za0;rw[if_neg (by omega),if_neg (by omega),if_neg (by omega),if_neg (by omega),if_pos (by omega)]
   rw[he];go_enter Tryz.func142,Tryz.ntmps142;(go_wp2_with fail);refine(HL.out 2 128 191).mono ?_;rintro e w' ⟨rfl,hb',hs⟩;go_wp2
   go_end0
   exact⟨rfl,⟨by omega,128,191,hb',fun _=>⟨rfl,rfl⟩⟩,hs⟩
  by_cases c5:(x:Int)=240
  ·have c5z:((x:Int)==240)=true:=by rw[beq_iff_eq];exact c5
   have he:za0 x=some (3,144,191):=by unfold za0;rw[if_neg (by omega),if_neg (by omega),if_neg (by omega),if_neg (by omega),if_neg (by omega),if_pos (by omega)]
   rw[he];go_enter Tryz.func142,Tryz.ntmps142;(go_wp2_with fail);refine(HL.out 3 144 191).mono ?_;rintro e w' ⟨rfl,hb',hs⟩;go_wp2
   go_end0
   exact⟨rfl,⟨by omega,144,191,hb',fun _=>⟨rfl,rfl⟩⟩,hs⟩
  have c5z:((x:Int)==240)=false:=by rw[beq_eq_false_iff_ne];exact c5
  have c6a:(241:Int)≤x:=by omega
  by_cases c6:(x:Int)≤243
  ·skip
   have he:za0 x=some (3,128,191):=by unfold za0;rw[if_neg (by omega),if_neg (by omega),if_neg (by omega),if_neg (by omega),if_neg (by omega),if_neg (by omega),if_pos (by omega)]
   rw[he];go_enter Tryz.func142,Tryz.ntmps142;(go_wp2_with fail);refine(HL.out 3 128 191).mono ?_;rintro e w' ⟨rfl,hb',hs⟩;go_wp2
   go_end0
   exact⟨rfl,⟨by omega,128,191,hb',fun _=>⟨rfl,rfl⟩⟩,hs⟩
  by_cases c7:(x:Int)=244
  ·have c7z:((x:Int)==244)=true:=by rw[beq_iff_eq];exact c7
   have he:za0 x=some (3,128,143):=by unfold za0;rw[if_neg (by omega),if_neg (by omega),if_neg (by omega),if_neg (by omega),if_neg (by omega),if_neg (by omega),if_neg (by omega),if_pos (by omega)]
   rw[he];go_enter Tryz.func142,Tryz.ntmps142;(go_wp2_with fail);refine(HL.out 3 128 143).mono ?_;rintro e w' ⟨rfl,hb',hs⟩;go_wp2
   go_end0
   exact⟨rfl,⟨by omega,128,143,hb',fun _=>⟨rfl,rfl⟩⟩,hs⟩
  have c7z:((x:Int)==244)=false:=by rw[beq_eq_false_iff_ne];exact c7
  have he:za0 x=none:=by unfold za0;rw[if_neg (by omega),if_neg (by omega),if_neg (by omega),if_neg (by omega),if_neg (by omega),if_neg (by omega),if_neg (by omega),if_neg (by omega)]
  rw[he];have HN:=hid (zlz HB.out);go_enter Tryz.func142,Tryz.ntmps142;go_wp2
  go_end0
  exact⟨rfl,HN.out⟩
 ·have c1a:(x:Int)<194:=by omega
  clear c1';have c2z:((x:Int)==224)=false:=by rw[beq_eq_false_iff_ne];omega
  have c3z:((x:Int)==237)=false:=by rw[beq_eq_false_iff_ne];omega
  have c4:¬(225:Int)≤x:=by omega
  have c5z:((x:Int)==240)=false:=by rw[beq_eq_false_iff_ne];omega
  have c6:¬(241:Int)≤x:=by omega
  have c7z:((x:Int)==244)=false:=by rw[beq_eq_false_iff_ne];omega
  have he:za0 x=none:=by unfold za0;rw[if_neg (by omega),if_neg (by omega),if_neg (by omega),if_neg (by omega),if_neg (by omega),if_neg (by omega),if_neg (by omega),if_neg (by omega)]
  rw[he];have HN:=hid (zlz HB.out);go_enter Tryz.func142,Tryz.ntmps142;go_wp2
  go_end0
  exact⟨rfl,HN.out⟩
theorem zado (w:World) (b o n:Nat) (lo hi:Nat) (hn:n<3) (hb:At w b o (za9 (n+1) lo hi false)) (x:UInt8) :
  Calls Tryz.prog 143 #[.pointer (some ⟨b,o,none⟩),.int .u8 x.toNat] w fun e w'=>e= .returned (.tuple #[])∧zle w b o (zb7 (some (n+1,lo,hi)) x) w':=by
 obtain⟨⟨hc0,_⟩,⟨hc1,_⟩,⟨hc2,_⟩,hc3,hf3⟩:=hb.four;have HN:=hid (zlz hb);have HL:=hid (zr8 w b o _ _ _ _ hb);clear hb;by_cases c1:((x.toNat:Nat):Int)<(lo:Int)
 ·have he:zb7 (some (n+1,lo,hi)) x=none:=by simp only[zb7];rw[if_pos (by omega)]
  rw[he];go_enter Tryz.func143,Tryz.ntmps143;go_wp2;refine bodyPost_ret (results_none rfl _ _ _) rfl ?_;exact⟨rfl,HN.out⟩
 by_cases c2:(hi:Int)<((x.toNat:Nat):Int)
 ·have he:zb7 (some (n+1,lo,hi)) x=none:=by simp only[zb7];rw[if_pos (by omega)]
  rw[he];go_enter Tryz.func143,Tryz.ntmps143;go_wp2;refine bodyPost_ret (results_none rfl _ _ _) rfl ?_;exact⟨rfl,HN.out⟩
 have hw:((n+1:Nat):Int)-1=(n:Int):=by omega
 have he:zb7 (some (n+1,lo,hi)) x=if n=0 then some (0,0,0) else some (n,128,191):=by simp only[zb7];rw[if_neg (by omega)]
 have hfin:∀w',At w' b o (za9 n 128 191 false)→CAt w' b o (if n=0 then some (0,0,0) else some (n,128,191)):=by
  intro w' h';by_cases h0:n=0
  ·subst h0
   exact⟨by omega,128,191,h',fun h=>by omega⟩
  ·rw[if_neg h0]
   exact⟨by omega,128,191,h',fun _=>⟨rfl,rfl⟩⟩
 obtain⟨S,hS⟩:∃S,(if n=0 then some (0,0,0) else some (n,128,191))=S:=⟨_,rfl⟩
 rw[he];rw[hS] at hfin ⊢;have HF:=hid hfin;clear hfin he HN hS;go_enter Tryz.func143,Tryz.ntmps143;(go_wp2_with fail);refine(HL.out n 128 191).mono ?_;rintro e w' ⟨rfl,hb',hs⟩;go_wp2
 go_end0
 exact⟨rfl,HF.out _ hb',hs⟩
theorem zafq {w:World} {b o:Nat} {s:Option (Nat×Nat×Nat)} (h:CAt w b o s) :
  Calls Tryz.prog 134 #[.pointer (some ⟨b,o,none⟩)] w fun e w'=>e= .returned (.bool s.isNone)∧w=w':=by
 have hc:=zwj h;clear h;generalize s.isNone=q at *
 go_enter Tryz.func134,Tryz.ntmps134;go_wp2;go_ret;exact⟨rfl,rfl⟩
theorem zlb {w:World} {b o:Nat} {s:Option (Nat×Nat×Nat)} (h:CAt w b o s) :
    Calls Tryz.prog 131 #[.pointer (some ⟨b,o,none⟩)] w fun e w'=>e= .returned (.bool (zch s))∧w=w':=by
  have hB:=zafq h
  match s,h with
  | none,⟨_,_,_,h⟩ =>
    have hs:zch none=false:=rfl;rw[hs];simp only[Option.isNone] at hB;clear h;go_enter Tryz.func131,Tryz.ntmps131;(go_wp2_with fail);refine hB.mono ?_;rintro e w' ⟨rfl,rfl⟩;go_wp2;go_ret;exact⟨rfl,rfl⟩
  | some (k,_,_),⟨_,_,_,h,_⟩ =>
    have hc:w.cell? ⟨b,o,none⟩=some (.int .i64 k):=h.four.1.1;simp only[Option.isNone] at hB;clear h;by_cases h0:k=0
    · subst h0
      have hs:∀x y,zch (some (0,x,y))=true:=fun _ _=>rfl
      rw[hs];have hz:(((0:Nat):Int)==0)=true:=rfl;go_enter Tryz.func131,Tryz.ntmps131;(go_wp2_with fail);refine hB.mono ?_;rintro e w' ⟨rfl,rfl⟩;go_wp2;go_ret;exact⟨rfl,rfl⟩
    · have hs:∀x y,zch (some (k,x,y))=false:=fun _ _=>by
        match k,h0 with
        | 0,h0=>exact absurd rfl h0
        | k+1,_=>rfl
      rw[hs];have hz:((k:Int)==0)=false:=by rw[beq_eq_false_iff_ne];omega
      go_enter Tryz.func131,Tryz.ntmps131;(go_wp2_with fail);refine hB.mono ?_;rintro e w' ⟨rfl,rfl⟩;go_wp2;go_ret;exact⟨rfl,rfl⟩
theorem zei {w:World} {b o:Nat} {s:Option (Nat×Nat×Nat)} (h:CAt w b o s) (x:UInt8) :
    Calls Tryz.prog 136 #[.pointer (some ⟨b,o,none⟩),.int .u8 x.toNat] w fun e w'=>e= .returned (.bool (zb7 s x).isSome)∧zle w b o (zb7 s x) w':=by
  have hB:=zafq h
  match s,h with
  | none,h =>
    have hs:zb7 none x=none:=rfl;rw[hs];have HC:=hid h;simp only[Option.isNone] at hB;simp only[Option.isSome];clear h;go_enter Tryz.func136,Tryz.ntmps136;(go_wp2_with fail);refine hB.mono ?_;rintro e w' ⟨rfl,rfl⟩;go_wp2;go_ret;exact⟨rfl,HC.out,Sub.refl _ _ _ _⟩
  | some (k,l,u),⟨hk,lo,hi,h,hlo⟩ =>
    have hc:w.cell? ⟨b,o,none⟩=some (.int .i64 k):=h.four.1.1;simp only[Option.isNone] at hB;have main:∀w':World,zle w b o (zb7 (some (k,l,u)) x) w'→w'.cell? ⟨b,o+3,none⟩=some (.bool (!(zb7 (some (k,l,u)) x).isSome)):=by
      intro w' hp;have:=zwj hp.1;rw[this];cases zb7 (some (k,l,u)) x <;>rfl
    cases k with
    | zero =>
      have hO:=zaeg w b o lo hi h x.toNat x.toNat_lt;have hs:zb7 (some (0,l,u)) x=za0 x.toNat:=rfl;rw[hs] at main ⊢;have hz:(((0:Nat):Int)==0)=true:=rfl;have HM:=hid main;clear h main hlo hs;go_enter Tryz.func136,Tryz.ntmps136;(go_wp2_with fail);refine hB.mono ?_;rintro e w' ⟨rfl,rfl⟩;(go_wp2_with fail);refine hO.mono ?_;rintro e w' ⟨rfl,hp⟩;have hc3:=HM.out w' hp;have HP:=hid hp;clear hp HM;generalize hq:(za0 x.toNat).isSome=q at hc3;go_wp2;go_ret;exact⟨by simp[hq],HP.out⟩
    | succ k =>
      obtain⟨rfl,rfl⟩:=hlo (by omega);have hO:=zado w b o k lo hi (by omega) h x;have hz:(((k+1:Nat):Int)==0)=false:=by rw[beq_eq_false_iff_ne];omega
      have HM:=hid main;clear h main hlo;go_enter Tryz.func136,Tryz.ntmps136;(go_wp2_with fail);refine hB.mono ?_;rintro e w' ⟨rfl,rfl⟩;(go_wp2_with fail);refine hO.mono ?_;rintro e w' ⟨rfl,hp⟩;have hc3:=HM.out w' hp;have HP:=hid hp;clear hp HM;generalize hq:(zb7 (some (k+1,lo,hi)) x).isSome=q at hc3;go_wp2;go_ret;exact⟨by simp[hq],HP.out⟩
end
section
open Go.RowKit
open Go.Lib
def hexR (b:Nat):Nat×Bool:=match hexV b with
 | some d=>(d,true)
 | none=>(0,false)
theorem zdo {b d:Nat} (h:hexV b=some d):d<16∧b<128∧48≤b:=by
 unfold hexV at h
 repeat' split at h
 all_goals first |(simp only[Option.some.injEq] at h;omega)|(cases h)
theorem zdj (x:Nat) (w:World) :
    Calls Tryz.prog 141 #[.int .u8 x] w fun e w'=>e= .returned (.tuple #[.int .i64 (hexR x).1,.bool (hexR x).2])∧w=w':=by
  by_cases a1:(48:Int)≤x
  · by_cases a2:(x:Int)≤57
    · have he:hexR x=(x-48,true):=by unfold hexR hexV;rw[if_pos (by omega)]
      rw[he,show((x-48:Nat):Int)=(x:Int)-48 by omega];clear he;go_enter Tryz.func141,Tryz.ntmps141;go_wp2;go_ret2;exact⟨rfl,rfl⟩
    by_cases b1:(97:Int)≤x
    · have n65:(65:Int)≤x:=by omega
      have n70:¬(x:Int)≤70:=by omega
      by_cases b2:(x:Int)≤102
      · have he:hexR x=(x-87,true):=by unfold hexR hexV;rw[if_neg (by omega),if_pos (by omega)]
        rw[he,show((x-87:Nat):Int)=(x:Int)-97+10 by omega];clear he;go_enter Tryz.func141,Tryz.ntmps141;go_wp2;go_ret2;exact⟨rfl,rfl⟩
      · have he:hexR x=(0,false):=by unfold hexR hexV;rw[if_neg (by omega),if_neg (by omega),if_neg (by omega)]
        rw[he];clear he;go_enter Tryz.func141,Tryz.ntmps141;go_wp2;go_ret2;exact⟨rfl,rfl⟩
    · by_cases c1:(65:Int)≤x
      · by_cases c2:(x:Int)≤70
        · have he:hexR x=(x-55,true):=by unfold hexR hexV;rw[if_neg (by omega),if_neg (by omega),if_pos (by omega)]
          rw[he,show((x-55:Nat):Int)=(x:Int)-65+10 by omega];clear he;go_enter Tryz.func141,Tryz.ntmps141;go_wp2;go_ret2;exact⟨rfl,rfl⟩
        · have he:hexR x=(0,false):=by unfold hexR hexV;rw[if_neg (by omega),if_neg (by omega),if_neg (by omega)]
          rw[he];clear he;go_enter Tryz.func141,Tryz.ntmps141;go_wp2;go_ret2;exact⟨rfl,rfl⟩
      · have he:hexR x=(0,false):=by unfold hexR hexV;rw[if_neg (by omega),if_neg (by omega),if_neg (by omega)]
        rw[he];clear he;go_enter Tryz.func141,Tryz.ntmps141;go_wp2;go_ret2;exact⟨rfl,rfl⟩
  · have b1:¬(97:Int)≤x:=by omega
    have c1:¬(65:Int)≤x:=by omega
    have he:hexR x=(0,false):=by unfold hexR hexV;rw[if_neg (by omega),if_neg (by omega),if_neg (by omega)]
    rw[he];clear he;go_enter Tryz.func141,Tryz.ntmps141;go_wp2;go_ret2;exact⟨rfl,rfl⟩
def ziw (b:Nat):List UInt8:=match zb1 b with
 | some c=>[UInt8.ofNat c]
 | none=>[]
theorem zo3 {b:Nat} (h1:b≠34) (h2:b≠92) (h3:b≠47) (h4:b≠98) (h5:b≠102) (h6:b≠110) (h7:b≠114) (h8:b≠116):zb1 b=none:=by
 unfold zb1;rw[if_neg (by omega),if_neg h4,if_neg h5,if_neg h6,if_neg h7,if_neg h8]
theorem znk (x:Nat) (w:World) :
  Calls Tryz.prog 144 #[.int .u8 x] w fun e w'=>e= .returned (.string ⟨(ziw x).toArray⟩)∧w=w':=by
 by_cases a1:x=34
 ·subst a1
  go_enter Tryz.func144,Tryz.ntmps144;go_wp2;go_ret;exact⟨rfl,rfl⟩
 by_cases a2:x=92
 ·subst a2
  go_enter Tryz.func144,Tryz.ntmps144;go_wp2;go_ret;exact⟨rfl,rfl⟩
 by_cases a3:x=47
 ·subst a3
  go_enter Tryz.func144,Tryz.ntmps144;go_wp2;go_ret;exact⟨rfl,rfl⟩
 by_cases a4:x=98
 ·subst a4
  go_enter Tryz.func144,Tryz.ntmps144;go_wp2;go_ret;exact⟨rfl,rfl⟩
 by_cases a5:x=102
 ·subst a5
  go_enter Tryz.func144,Tryz.ntmps144;go_wp2;go_ret;exact⟨rfl,rfl⟩
 by_cases a6:x=110
 ·subst a6
  go_enter Tryz.func144,Tryz.ntmps144;go_wp2;go_ret;exact⟨rfl,rfl⟩
 by_cases a7:x=114
 ·subst a7
  go_enter Tryz.func144,Tryz.ntmps144;go_wp2;go_ret;exact⟨rfl,rfl⟩
 by_cases a8:x=116
 ·subst a8
  go_enter Tryz.func144,Tryz.ntmps144;go_wp2;go_ret;exact⟨rfl,rfl⟩
 have he:ziw x=[]:=by unfold ziw;rw[zo3 a1 a2 a3 a4 a5 a6 a7 a8]
 rw[he];have z1:((x:Int)==34)=false:=by rw[beq_eq_false_iff_ne];omega
 have z2:((x:Int)==92)=false:=by rw[beq_eq_false_iff_ne];omega
 have z3:((x:Int)==47)=false:=by rw[beq_eq_false_iff_ne];omega
 have z4:((x:Int)==98)=false:=by rw[beq_eq_false_iff_ne];omega
 have z5:((x:Int)==102)=false:=by rw[beq_eq_false_iff_ne];omega
 have z6:((x:Int)==110)=false:=by rw[beq_eq_false_iff_ne];omega
 have z7:((x:Int)==114)=false:=by rw[beq_eq_false_iff_ne];omega
 have z8:((x:Int)==116)=false:=by rw[beq_eq_false_iff_ne];omega
 clear a1 a2 a3 a4 a5 a6 a7 a8 he;go_enter Tryz.func144,Tryz.ntmps144;go_wp2;go_ret;exact⟨rfl,rfl⟩
def lowQ (k b:Nat):Bool:=if k=0 then b==92 else if k=1 then b==117 else if k=2 then(hexR b).2&&decide ((hexR b).1=13) else if k=3 then(hexR b).2&&decide (12≤(hexR b).1) else(hexR b).2
theorem zabe (k b:Nat):zc5 k b=lowQ k b:=by
  unfold zc5 lowQ hexR
  match k with
  | 0=>rfl
  | 1=>rfl
  | 2 =>
    show(b==100||b==68)=_;simp only[show¬(2=0) by decide,show¬(2=1) by decide,if_true,if_false];unfold hexV;by_cases h1:b=100
    · subst h1;rfl
    by_cases h2:b=68
    · subst h2;rfl
    have e1:(b==100)=false:=by rw[beq_eq_false_iff_ne];exact h1
    have e2:(b==68)=false:=by rw[beq_eq_false_iff_ne];exact h2
    rw[e1,e2];split <;>rename_i hh
    · repeat' split at hh
      all_goals first |(simp only[Option.some.injEq] at hh;simp;omega)|(cases hh)
    · rfl
  | 3 =>
    simp only[show¬(3=0) by decide,show¬(3=1) by decide,show¬(3=2) by decide,if_true,if_false];cases hexV b <;>simp
  | k+4 =>
    rw[if_neg (by omega),if_neg (by omega),if_neg (by omega),if_neg (by omega)];show(hexV b).isSome=_;cases hexV b <;>rfl
theorem zef (k x:Nat) (w:World) :
    Calls Tryz.prog 135 #[.int .i64 k,.int .u8 x] w fun e w'=>e= .returned (.bool (zc5 k x))∧w=w':=by
  have hH:=hid (zdj x);rw[zabe];unfold lowQ;generalize hexR x=p at *
  obtain⟨d,q⟩:=p;simp only[];by_cases k0:k=0
  · subst k0
    have e:(x==92)=((x:Int)==92):=by rw[Bool.eq_iff_iff];simp;omega
    rw[if_pos rfl,e];go_enter Tryz.func135,Tryz.ntmps135;(go_wp2_with fail);refine(hH.out _).mono ?_;rintro e w' ⟨rfl,rfl⟩;go_wp2;go_ret;exact⟨rfl,rfl⟩
  rw[if_neg k0];have z0:((k:Int)==0)=false:=by rw[beq_eq_false_iff_ne];omega
  by_cases k1:k=1
  · subst k1
    have e:(x==117)=((x:Int)==117):=by rw[Bool.eq_iff_iff];simp;omega
    rw[if_pos rfl,e];go_enter Tryz.func135,Tryz.ntmps135;(go_wp2_with fail);refine(hH.out _).mono ?_;rintro e w' ⟨rfl,rfl⟩;go_wp2;go_ret;exact⟨rfl,rfl⟩
  rw[if_neg k1];have z1:((k:Int)==1)=false:=by rw[beq_eq_false_iff_ne];omega
  by_cases k2:k=2
  · subst k2
    rw[if_pos rfl];cases q with
    | false =>
      go_enter Tryz.func135,Tryz.ntmps135;(go_wp2_with fail);refine(hH.out _).mono ?_;rintro e w' ⟨rfl,rfl⟩;go_wp2;go_ret;exact⟨rfl,rfl⟩
    | true =>
      have e:(true&&decide (d=13))=((d:Int)==13):=by rw[Bool.eq_iff_iff];simp;omega
      rw[e];go_enter Tryz.func135,Tryz.ntmps135;(go_wp2_with fail);refine(hH.out _).mono ?_;rintro e w' ⟨rfl,rfl⟩;go_wp2;go_ret;exact⟨rfl,rfl⟩
  rw[if_neg k2];have z2:((k:Int)==2)=false:=by rw[beq_eq_false_iff_ne];omega
  by_cases k3:k=3
  · subst k3
    rw[if_pos rfl];cases q with
    | false =>
      go_enter Tryz.func135,Tryz.ntmps135;(go_wp2_with fail);refine(hH.out _).mono ?_;rintro e w' ⟨rfl,rfl⟩;go_wp2;go_ret;exact⟨rfl,rfl⟩
    | true =>
      have e:(true&&decide (12≤d))=decide ((12:Int)≤(d:Int)):=by rw[Bool.eq_iff_iff];simp;omega
      rw[e];go_enter Tryz.func135,Tryz.ntmps135;(go_wp2_with fail);refine(hH.out _).mono ?_;rintro e w' ⟨rfl,rfl⟩;go_wp2;go_ret;exact⟨rfl,rfl⟩
  rw[if_neg k3];have z3:((k:Int)==3)=false:=by rw[beq_eq_false_iff_ne];omega
  go_enter Tryz.func135,Tryz.ntmps135;(go_wp2_with fail);refine(hH.out _).mono ?_;rintro e w' ⟨rfl,rfl⟩;go_wp2;go_ret;exact⟨rfl,rfl⟩
end
section
open Go.Shelf
open Go.RowKit
def zou:Go.Shelf.Ren:=⟨fun|119=>150|n=>n,fun|21=>21|4=>4|n=>n,fun|n=>n⟩
theorem zaip:Go.Proofs.Lays.n119 Tryz.prog zou:={
 mixed:=by kernel_rfl
 f119:=Tryz.func150.trans (congrArg some (by kernel_rfl))
 t4:=Tryz.underlying4
 a4:=Tryz.isAgg4
 z4:=Tryz.sizeOf4
 v4:=Tryz.zeroValue4
 t21:=Tryz.underlying21
 a21:=Tryz.isAgg21
 z21:=Tryz.sizeOf21
 v21:=Tryz.zeroValue21}
theorem utf8_ValidRune (r:Int) (w:World) :
  Calls Tryz.prog 150 #[.int .i32 r] w fun e w'=>e= .returned (.bool (Lib.validRune r))∧w'=w:=Any.utf8_ValidRune zaip r w
end
section
open Go.RowKit
open Go.Lib
theorem zaas (n:Int) (W:World):(convert 21 9 (.int .i32 n)).run Tryz.prog W= .ok (.string (Utf8.encode n)) W :=
 run_convert_int_string W 21 9 .i32 n (by rw[Tryz.underlying21];rfl) Tryz.underlying9
theorem zafs (n:Nat) (hr:zcg n) (w:World) :
  Calls Tryz.prog 149 #[.int .i64 n] w fun e w'=>e= .returned (.tuple #[.string (Utf8.encode n),.bool true])∧w=w':=by
 unfold zcg at hr;have h1:¬((n:Int)<0):=by omega
 have h2:¬((1114111:Int)<n):=by omega
 have hw:=ziy n (by omega) (by omega);have hv:Lib.validRune (n:Int)=true:=by unfold Lib.validRune;simp only[decide_eq_true_eq];omega
 have hV:=fun W=>utf8_ValidRune (n:Int) W
 rw[hv] at hV;have HV:=hid hV;have hC:=zaas (n:Int);generalize Utf8.encode (n:Int)=s at *
 clear hr hv hV;go_enter Tryz.func149,Tryz.ntmps149;(go_wp2_with fail);refine(HV.out _).mono ?_;rintro e w' ⟨rfl,rfl⟩;go_wp2;go_ret2;exact⟨rfl,rfl⟩
theorem zakp (r:Int) (hr:r<0∨1114111<r∨(55296≤r∧r≤57343)) (w:World) :
  Calls Tryz.prog 149 #[.int .i64 r] w fun e w'=>e= .returned (.tuple #[.string ⟨#[]⟩,.bool false])∧w=w':=by
 by_cases h1:r<0
 ·clear hr
  go_enter Tryz.func149,Tryz.ntmps149;go_wp2;go_ret2;exact⟨rfl,rfl⟩
 by_cases h2:(1114111:Int)<r
 ·clear hr
  go_enter Tryz.func149,Tryz.ntmps149;go_wp2;go_ret2;exact⟨rfl,rfl⟩
 have hw:=ziy r (by omega) (by omega);have hv:Lib.validRune r=false:=by unfold Lib.validRune;simp only[decide_eq_false_iff_not];omega
 have hV:=fun W=>utf8_ValidRune r W
 rw[hv] at hV;have HV:=hid hV;clear hr hv hV;go_enter Tryz.func149,Tryz.ntmps149;(go_wp2_with fail);refine(HV.out _).mono ?_;rintro e w' ⟨rfl,rfl⟩;go_wp2;go_ret2;exact⟨rfl,rfl⟩
end
end Go.Proofs.YtpaciekgbhoncaaGreat
