/-
  Parts: Win, EvPure, Evs, Up, Blk, Val, EvOf, UtfPure, UtfEnc, EscPure, DecPure, LexPure, JinPure.
-/
import Derived.Deep.AppendSrc
import Derived.Deep.Upon
import Derived.Below
import Derived.Lib.Hide
import Derived.Lib.SlBytesRow
import Derived.Laws.AppendOwn
import Derived.RowKit
import Derived.Test.YtpaciekgbhoncaaGreatProg
import Derived.WalkKit
import Derived.WalkLawsBesides
import Derived.WalkSpells
import Derived.Laws.StructEq
import Derived.Deep.RegionWith
import Derived.Deep.QuietTactic
import Derived.BigQuiet
import Derived.Handy
import Derived.Lib.ValidLaws
import Derived.Lib.RuneBytes
import Derived.Laws.Runes
import Derived.Lib.ItoaNum
open Go.Lib (hid)
namespace Go.Proofs.YtpaciekgbhoncaaGreat
section
open Go.RowKit
open Go.Lib
theorem zej (b o j:Nat):(⟨b,o,none⟩:Addr).add j=⟨b,o+j,none⟩:=by unfold Addr.add;split <;>simp_all
def Win (w:World) (e:TypeId) (sz:Nat) (v:Value) (n:Nat) (xs:List Value):Prop :=
  xs.length=n*sz ∧
  ((v= .slice none 0 0∧n=0) ∨
   ∃g off cap cur,v= .slice (some ⟨g,off,none⟩) n cap∧w.heap[g]? = some (.cells cur e (0,0))∧n≤cap∧off+cap*sz≤cur.size∧cap≤maxLen∧(cur.toList.drop off).take (n*sz)=xs)
def Value.owner:Value→List Nat
 | .slice (some a) _ _=>[a.block]
 | _=>[]
theorem zaff (v:Value) (k:Nat):k∈Value.owner v↔v.ownBlock=some k:=by
 cases v <;>simp[Value.owner,Value.ownBlock]
 rename_i a _ _;cases a <;>simp[eq_comm]
section
variable {w w' : World} {e : TypeId} {sz : Nat} {v : Value} {n : Nat} {xs : List Value}
theorem Win.nil_ (w:World) (e:TypeId) (sz:Nat):Win w e sz (.slice none 0 0) 0 []:=⟨by simp,.inl ⟨rfl,rfl⟩⟩
theorem Win.lt (h:Win w e sz v n xs):∀k∈Value.owner v,k<w.heap.size:=by
 intro k hk;rcases h.2 with ⟨rfl,_⟩|⟨g,off,cap,cur,rfl,hg,_⟩
 ·simp[Value.owner] at hk
 ·simp[Value.owner] at hk
  subst hk;exact(Array.getElem?_eq_some_iff.1 hg).1
theorem Win.typed (h:Win w e sz v n xs):∀k∈Value.owner v,∃cur,w.heap[k]? = some (.cells cur e (0,0)):=by
 intro k hk;rcases h.2 with ⟨rfl,_⟩|⟨g,off,cap,cur,rfl,hg,_⟩
 ·simp[Value.owner] at hk
 ·simp[Value.owner] at hk
  subst hk;exact⟨cur,hg⟩
theorem Win.keep (h:Win w e sz v n xs) (hk:∀k∈Value.owner v,w'.heap[k]? = w.heap[k]?):Win w' e sz v n xs:=by
 refine⟨h.1,?_⟩;rcases h.2 with h0|⟨g,off,cap,cur,rfl,hg,r⟩
 ·exact .inl h0
 ·exact .inr ⟨g,off,cap,cur,rfl,by rw[hk g (by simp[Value.owner]),hg],r⟩
theorem Win.alloc (h:Win w e sz v n xs) (o:Obj):Win (w.alloc o) e sz v n xs:=h.keep fun k hk=>Below.heap_alloc w o k (h.lt k hk)
theorem Win.setCell_far (h:Win w e sz v n xs) {p:Addr} (hp:p.block∉Value.owner v) (u:Value):Win (w.setCell p u) e sz v n xs :=
 h.keep fun k hk=>Below.heap_setCell w p u k (fun e=>hp (e▸hk))
theorem Win.form (h:Win w e sz v n xs) (hn:0<n):∃g off cap,v= .slice (some ⟨g,off,none⟩) n cap∧n≤cap∧cap≤maxLen∧g<w.heap.size∧Value.owner v=[g]∧∀j u,xs[j]? = some u→w.cell? ⟨g,off+j,none⟩=some u∧w.frozen? ⟨g,off+j,none⟩=false:=by
 rcases h.2 with ⟨_,h0⟩|⟨g,off,cap,cur,rfl,hg,hnc,hs,hm,ht⟩
 ·omega
 ·refine⟨g,off,cap,rfl,hnc,hm,(Array.getElem?_eq_some_iff.1 hg).1,rfl,fun j u hu=> ?_⟩
  have hj:j<n*sz:=by have:=(List.getElem?_eq_some_iff.1 hu).1;rw[h.1] at this;exact this
  rw[← ht,List.getElem?_take_of_lt hj,List.getElem?_drop] at hu;constructor
  ·simp only[World.cell?,hg]
   simpa using hu
  ·simp[World.frozen?,hg]
theorem Win.slice_form (h:Win w e sz v n xs):∃a cap,v= .slice a n cap∧n≤cap∧cap≤maxLen:=by
 rcases h.2 with ⟨rfl,rfl⟩|⟨g,off,cap,cur,rfl,hg,hnc,hs,hm,ht⟩
 ·exact⟨none,0,rfl,by omega,by unfold maxLen;omega⟩
 ·exact⟨_,cap,rfl,hnc,hm⟩
theorem Win.store {g off cap:Nat} (h:Win w e sz (.slice (some ⟨g,off,none⟩) n cap) n xs) (j:Nat) (hj:j<xs.length) (u:Value):Win (w.setCell ⟨g,off+j,none⟩ u) e sz (.slice (some ⟨g,off,none⟩) n cap) n (xs.set j u):=by
  refine⟨by rw[List.length_set];exact h.1,.inr ?_⟩;rcases h.2 with ⟨h0,_⟩|⟨g',off',cap',cur,hv,hg,hnc,hs,hm,ht⟩
  · simp at h0
  · injection hv with h1 h2 h3
    injection h1 with h1
    injection h1 with h4 h5 h6
    subst h3;subst h4;subst h5
    have hg':=heap_setCell_same w g (off+j) _ _ u hg;refine⟨g,off,cap,_,rfl,hg',hnc,by simpa using hs,hm,?_⟩;rw[h.1] at hj;rw[← ht];apply List.ext_getElem?;intro i;simp only[Array.toList_setIfInBounds,List.getElem?_take,List.getElem?_drop,List.getElem?_set,List.length_take,List.length_drop,Array.length_toList];by_cases hi:i<n*sz
    · simp only[hi,if_true]
      by_cases hij:j=i
      · subst hij
        have hb:n*sz≤cap*sz:=Nat.mul_le_mul_right _ hnc;rw[if_pos rfl,if_pos rfl,if_pos (by omega),if_pos (by omega)]
      · rw[if_neg (by omega),if_neg hij]
    · simp only[hi,if_false]
      by_cases hij:j=i
      · subst hij;omega
      · rw[if_neg hij]
end
section
variable {P : Program} {w : World} {e t : TypeId} {sz : Nat} {v : Value} {n : Nat} {xs : List Value}
theorem Win.lo (h:Win w e sz v n xs) (ht:P.underlying t=some (.slice e)) (hz:∀w,(Go.sizeOf e).run P w= .ok sz w) (k:Nat) (hk:k≤n) :
    ∃v',(∀W,(Instr.slice t v (some (.int .i64 (k:Int))) none none).run P W= .ok v' W)∧Win w e sz v' (n-k) (xs.drop (k*sz))∧Value.owner v'=Value.owner v:=by
  have ht':P.underlying t=some (.slice (P.elem t)):=by simp[Program.elem,ht]
  have he:P.elem t=e:=by simp[Program.elem,ht]
  have hl:(xs.drop (k*sz)).length=(n-k)*sz:=by rw[List.length_drop,h.1,Nat.sub_mul]
  rcases h.2 with ⟨rfl,rfl⟩|⟨g,off,cap,cur,rfl,hg,hnc,hs,hm,hx⟩
  · obtain rfl:k=0:=by omega
    refine⟨.slice none 0 0,fun W=> ?_,⟨hl,.inl ⟨rfl,rfl⟩⟩,rfl⟩;rw[run_slice_l W t _ _ _ ht' .i64 _ (by omega) (by omega),he,hz];simp[Result.andThen,sliced]
  · by_cases hkc:cap=k
    · refine⟨.slice (some ⟨g,off,none⟩) (n-k) (cap-k),fun W=> ?_,⟨hl,.inr ⟨g,off,cap-k,cur,rfl,hg,by omega,?_,by omega,?_⟩⟩,rfl⟩
      · rw[run_slice_l W t _ _ _ ht' .i64 _ (by omega) (by omega),he,hz]
        simp[Result.andThen,sliced,hkc]
      · subst hkc
        simp;have:=Nat.le_trans (Nat.le_add_right off _) hs;exact this
      · obtain rfl:n=k:=by omega
        have:xs.drop (n*sz)=[]:=by rw[List.drop_of_length_le (by rw[h.1];exact Nat.le_refl _)]
        simp[this]
    · refine⟨.slice (some ⟨g,off+k*sz,none⟩) (n-k) (cap-k),fun W=> ?_,⟨hl,.inr ⟨g,off+k*sz,cap-k,cur,rfl,hg,by omega,?_,by omega,?_⟩⟩,rfl⟩
      · rw[run_slice_l W t _ _ _ ht' .i64 _ (by omega) (by omega),he,hz]
        simp[Result.andThen,sliced,hkc,zej]
      · have h1:(cap-k)*sz=cap*sz-k*sz:=Nat.sub_mul _ _ _
        have h2:k*sz≤cap*sz:=Nat.mul_le_mul_right _ (by omega);omega
      · rw[← hx,List.drop_take,List.drop_drop,Nat.sub_mul]
theorem Win.hi (h:Win w e sz v n xs) (ht:P.underlying t=some (.slice e)) (hz:∀w,(Go.sizeOf e).run P w= .ok sz w) (k:Nat) (hk:k≤n) :
  ∃v',(∀W,(Instr.slice t v none (some (.int .i64 (k:Int))) none).run P W= .ok v' W)∧Win w e sz v' k (xs.take (k*sz))∧Value.owner v'=Value.owner v:=by
 have ht':P.underlying t=some (.slice (P.elem t)):=by simp[Program.elem,ht]
 have he:P.elem t=e:=by simp[Program.elem,ht]
 have hkn:k*sz≤n*sz:=Nat.mul_le_mul_right _ hk;have hl:(xs.take (k*sz)).length=k*sz:=by rw[List.length_take,h.1];omega
 rcases h.2 with ⟨rfl,rfl⟩|⟨g,off,cap,cur,rfl,hg,hnc,hs,hm,hx⟩
 ·obtain rfl:k=0:=by omega
  refine⟨.slice none 0 0,fun W=> ?_,⟨hl,.inl ⟨rfl,rfl⟩⟩,rfl⟩;rw[run_slice_h W t _ _ _ ht' .i64 _ (by omega) (by omega),he,hz];simp[Result.andThen,sliced]
 ·refine⟨.slice (some ⟨g,off,none⟩) k cap,fun W=> ?_,⟨hl,.inr ⟨g,off,cap,cur,rfl,hg,by omega,hs,hm,?_⟩⟩,rfl⟩
  ·rw[run_slice_h W t _ _ _ ht' .i64 _ (by omega) (by omega),he,hz]
   by_cases h0:cap=0 <;>simp[Result.andThen,sliced,h0,zej]
  ·rw[← hx,List.take_take,Nat.min_eq_left hkn]
theorem Win.append (h:Win w e sz v n xs) {tx ty:TypeId} {i:TypeInfo} {z:Value} {bytes:Nat} (ht:P.underlying t=some (.slice e)) (hi:P.info? e=some i) (hz:i.zero=some z) (hsize:i.size=sz) (hby:i.bytes=bytes) (hzs:z.cells.size=sz)
    (x:Value) (m:Nat) (news:List Value) (hs:Src P sz tx x m news w) (h63:n+m≤maxLen) (hbytes:(n+m)*bytes≤140737488355328) :
    ∃v' w',(Builtin.append_ #[t,tx] ty #[v,x]).run P w= .ok v' w'∧Win w' e sz v' (n+m) (xs++news)∧w.grownBy w' v.ownBlock∧(v'.ownBlock=v.ownBlock∨v'.ownBlock=some w.heap.size∧w.heap.size<w'.heap.size):=by
  subst hsize;subst hby;have hnl:=hs.newsLen;have hl:(xs++news).length=(n+m)*i.size:=by rw[List.length_append,h.1,hnl,Nat.add_mul]
  have hsmall:n+m≤9223372036854775807:=by simp only[maxLen] at h63;omega
  have grown:∀(old:Nat) (hold:old<n+m) (row:Option Nat),
      Win (w.drew.alloc (.cells ((xs++news).toArray++Builtin.zeroCells z.cells (grownCap w (n+m) old e-(n+m))) e)) e i.size (.slice (some ⟨w.heap.size,0,none⟩) (n+m) (grownCap w (n+m) old e)) (n+m) (xs++news) ∧
      w.grownBy (w.drew.alloc (.cells ((xs++news).toArray++Builtin.zeroCells z.cells (grownCap w (n+m) old e-(n+m))) e)) row:=by
    intro old hold row;have hge:=grownCap_ge w (n+m) old e;have hcm:grownCap w (n+m) old e≤maxLen:=grownCap_le_maxLen w (n+m) old e h63;refine⟨⟨hl,.inr ⟨w.heap.size,0,_,_,rfl,heap_alloc_new w.drew _,hge,?_,hcm,?_⟩⟩,⟨rfl,rfl,rfl,by simp,fun k hk _=>Below.heap_alloc w.drew _ k hk⟩⟩
    · simp only[Array.size_append,List.size_toArray,size_zeroCells,hzs,hl,Nat.zero_add]
      rw[← Nat.add_mul];exact Nat.mul_le_mul_right _ (by omega)
    · simp only[Array.toList_append,List.drop_zero]
      rw[← hl];exact List.take_left
  rcases h.2 with ⟨rfl,rfl⟩|⟨g,off,cap,cur,rfl,hg,hnc,hsz,hm,hx⟩
  · have hx:xs=[]:=List.eq_nil_of_length_eq_zero (by rw[h.1];simp)
    subst hx;by_cases hm0:m=0
    · subst hm0
      have hnn:news=[]:=List.eq_nil_of_length_eq_zero (by rw[hnl];simp);subst hnn;exact⟨_,w,run_append_nothing w t tx ty e i ht hi none 0 0 (Nat.le_refl _) x hs,⟨by simp,.inl ⟨rfl,rfl⟩⟩,⟨rfl,rfl,rfl,Nat.le_refl _,fun _ _ _=>rfl⟩,.inl rfl⟩
    · have hr:=run_append_grow_src (P:=P) w t tx ty e i z ht hi hz none 0 0 [] (run_firstCells_none w.drew i.size 0 0 0) x m news hs (by omega) (by omega) (growslice_fits (by omega) (by omega))
      have hgr:=grown 0 (by omega) (Value.ownBlock (.slice none 0 0));simp only[List.nil_append] at hgr ⊢ hr;exact⟨_,_,hr,hgr.1,hgr.2,.inr ⟨rfl,by simp⟩⟩
  · by_cases hroom:n+m≤cap
    · have hb:(n+m)*i.size≤cap*i.size:=Nat.mul_le_mul_right _ hroom
      rw[Nat.add_mul] at hb;have hst:=run_storeCells_at P g (off+n*i.size) e news 0 cur w hg (by rw[hnl];omega) hs.one;simp only[Nat.add_zero] at hst;have hr:(Builtin.append_ #[t,tx] ty #[.slice (some ⟨g,off,none⟩) n cap,x]).run P w= .ok (.slice (some ⟨g,off,none⟩) (n+m) cap) (w.setRow g (cur.toList.take (off+n*i.size)++news++cur.toList.drop (off+n*i.size+news.length)).toArray):=by
        rcases hs.kind with ⟨e',hk⟩|hk <;>simp[Builtin.append_,run_underlying ht,run_underlying hk,sizeOf,typeInfo,hi,hs.len,hroom,hs.cells,Addr.add_lit,hst]
      refine⟨_,_,hr,⟨hl,.inr ⟨g,off,cap,_,rfl,setRow_heap w g cur _ e _ hg,hroom,?_,hm,?_⟩⟩,⟨rfl,rfl,rfl,by simp,fun k _ hk=>setRow_other w g k _ (fun e=>hk (by simp[Value.ownBlock,e]))⟩,.inl rfl⟩
      · simp only[List.size_toArray,List.length_append,List.length_take,List.length_drop,Array.length_toList]
        omega
      · have h1:(cur.toList.take (off+n*i.size)).length=off+n*i.size:=by rw[List.length_take,Array.length_toList];omega
        rw[List.append_assoc,List.drop_append_of_le_length (by omega),List.drop_take,show off+n*i.size-off=n*i.size by omega,hx,← List.append_assoc,← hl];exact List.take_left
    · have holds:∀j u,xs[j]? = some u→w.drew.cell? ((⟨g,off,none⟩:Addr).add j)=some u:=by
        intro j u hu;have hj:j<n*i.size:=by have:=(List.getElem?_eq_some_iff.1 hu).1;rw[h.1] at this;exact this
        rw[← hx,List.getElem?_take_of_lt hj,List.getElem?_drop] at hu;rw[zej];show w.cell? _=_;simp only[World.cell?,hg];simpa using hu
      have hr:=run_append_grow_src (P:=P) w t tx ty e i z ht hi hz (some ⟨g,off,none⟩) n cap xs (run_firstCells_some w.drew i.size n _ n cap xs h.1 holds) x m news hs (by omega) (by omega) (growslice_fits (by omega) (by omega));have hgr:=grown cap (by omega) (Value.ownBlock (.slice (some ⟨g,off,none⟩) n cap));exact⟨_,_,hr,hgr.1,hgr.2,.inr ⟨rfl,by simp⟩⟩
theorem zaj {ops:Array Oper} {rest:List Oper} {o:Oper} {a:Act} {Q:Exit→Act→World→Prop} (hgd:o.guard=none) (sl x:Operand) (tx:TypeId)
    (ho:o.op= .call {callee:= .builtin .append,args:=#[sl,x],argTypes:=#[t,tx]}) {z:Value} {bytes:Nat}
    (ht:P.underlying t=some (.slice e)) (hi:(P.info? e).map (fun i=>(i.zero,i.size,i.bytes))=some (some z,sz,bytes)) (hzs:z.cells.size=sz)
    (hs:a.eval sl=v) (h:Win w e sz v n xs) (X:Value) (hx:a.eval x=X) (m:Nat) (news:List Value) (hsrc:Src P sz tx X m news w) (h63:n+m≤maxLen) (hbytes:(n+m)*bytes≤140737488355328)
    (hk:∀v' w',Hid (Win w' e sz v' (n+m) (xs++news))→Hid (w.grownBy w' v.ownBlock)→Hid (v'.ownBlock=v.ownBlock∨v'.ownBlock=some w.heap.size∧w.heap.size<w'.heap.size)→wpList P ops Q rest (a.put o.dst v') w'):wpList P ops Q (o::rest) a w:=by
  refine wpList_plain hgd fun K hK=> ?_
  cases hq:P.info? e with
  | none=>simp[hq] at hi
  | some i =>
    simp only[hq,Option.map_some,Option.some.injEq,Prod.mk.injEq] at hi;obtain⟨v',w',hr,h2,h3,h4⟩:=h.append (ty:=o.type) ht hq hi.1 hi.2.1 hi.2.2 hzs X m news hsrc h63 hbytes;unfold Oper.wp execOp;simp only[ho,resolve,invoke,builtin,Sem.run_bind,Sem.run_pure,Result.andThen_ok,List.map_toArray,List.map_cons,List.map_nil,hs,hx,hr];exact hK _ _ (hk v' w' h2 h3 h4)
end
structure Step (F F':List Nat) (w w':World):Prop where
 os:w'.os=w.os
 tape:w'.tape=w.tape
 output:w'.output=w.output
 size:w.heap.size≤w'.heap.size
 block:∀k,k<w.heap.size→k∉F→w'.heap[k]? = w.heap[k]?
 foot:∀k∈F',k∈F∨w.heap.size≤k
theorem Step.refl (F:List Nat) (w:World):Step F F w w:=⟨rfl,rfl,rfl,Nat.le_refl _,fun _ _ _=>rfl,fun _ h=> .inl h⟩
theorem Step.drewN {F F':List Nat} {w w':World} (h:Step F F' w w') (q:Nat):Step F F' w (w'.drewN q):=⟨h.os,h.tape,h.output,h.size,h.block,h.foot⟩
theorem Step.trans {F F' F'':List Nat} {a b c:World} (h:Step F F' a b) (k:Step F' F'' b c):Step F F'' a c :=
 ⟨k.os.trans h.os,k.tape.trans h.tape,k.output.trans h.output,Nat.le_trans h.size k.size,fun i hi hF=>(k.block i (Nat.lt_of_lt_of_le hi h.size) (fun hF'=>by
  rcases h.foot i hF' with h1|h1
  ·exact hF h1
  ·omega)).trans (h.block i hi hF),fun i hi=>by
  rcases k.foot i hi with h1|h1
  ·exact h.foot i h1
  ·exact .inr (Nat.le_trans h.size h1)⟩
theorem Step.below {F F':List Nat} {w w':World} {B:Nat} (h:Step F F' w w') (hB:∀k∈F,B≤k) (hw:B≤w.heap.size):Below B w w' :=
 ⟨h.os,h.tape,h.output,h.size,fun k hk=>h.block k (by omega) (fun hF=>by have:=hB k hF;omega)⟩
theorem Step.low {F F':List Nat} {w w':World} {B:Nat} (h:Step F F' w w') (hB:∀k∈F,B≤k) (hw:B≤w.heap.size):∀k∈F',B≤k:=fun k hk=>by
 rcases h.foot k hk with h1|h1
 ·exact hB k h1
 ·omega
theorem zfp {P:Program} {tx e':TypeId} (w:World) (hk:P.underlying tx=some (.slice e')) (v:Value) (e:TypeId) (g:Nat) (h1:v.oneCell'=true) (hg:g=w.heap.size) :
    Src P 1 tx (.slice (some ⟨g,0,none⟩) 1 1) 1 [v] (w.alloc (.cells #[v] e)):=by
  subst hg;refine Src.ofSlice _ hk _ 1 1 [v] rfl (fun j u hu=> ?_) (by simpa using h1);cases j with
  | zero =>
    simp at hu;subst hu;rw[zej];have hh:=heap_alloc_new w (.cells #[v] e);simp only[World.cell?,Nat.add_zero];rw[hh];rfl
  | succ j=>simp at hu
def zbe (l:List UInt8):List Value:=l.map fun b=>Value.int .u8 (b.toNat:Int)
theorem zf7 (l:List UInt8):(zbe l).length=l.length:=by simp[zbe]
theorem Win.apart {w:World} {e:TypeId} {sz:Nat} {v:Value} {n:Nat} {xs:List Value} (h:Win w e sz v n xs) {b:Nat} {c:Array Value} {t:TypeId} {fr:Nat×Nat} (hb:w.heap[b]? = some (.cells c t fr)) (hne:e≠t):b∉Value.owner v:=by
 intro hk;obtain⟨cur,hc⟩:=h.typed b hk;rw[hb] at hc
 injection hc with hc
 injection hc with _ h2
 exact hne h2.symm
theorem Win.apart2 {w:World} {e e':TypeId} {sz sz':Nat} {v v':Value} {n n':Nat} {xs xs':List Value} (h:Win w e sz v n xs) (h':Win w e' sz' v' n' xs') (hne:e≠e'):∀k∈Value.owner v',k∉Value.owner v:=by
 intro k hk;obtain⟨cur,hc⟩:=h'.typed k hk;exact h.apart hc hne
theorem zal (F:List Nat) (w:World) (p:Addr) (u:Value) (hp:p.block∈F):Step F F w (w.setCell p u) :=
 ⟨rfl,rfl,rfl,by simp[World.setCell],fun k _ hF=>Below.heap_setCell w p u k (fun e=>hF (e▸hp)),fun _ h=> .inl h⟩
theorem ztg {F:List Nat} {w w':World} {row:Option Nat} (h:w.grownBy w' row) (hr:∀k,row=some k→k∈F):Step F F w w' :=
 ⟨h.os,h.tape,h.output,h.size,fun k hk hF=>h.block k hk (fun e=>hF (hr k e.symm)),fun _ h=> .inl h⟩
theorem Step.widen {F F' G:List Nat} {w w':World} (h:Step F F' w w') (hG:∀k∈G,k∈F∨w.heap.size≤k):Step F G w w':=⟨h.os,h.tape,h.output,h.size,h.block,hG⟩
theorem zad (v:Value) (k:Nat):v.ownBlock=some k↔k∈Value.owner v:=(zaff v k).symm
def Off (ts:List Nat) (w w':World):Prop:=∀(k:Nat) (c:Array Value) (t:TypeId) (fr:Nat×Nat),w.heap[k]? = some (.cells c t fr)→t∉ts→w'.heap[k]? = some (.cells c t fr)
theorem Win.src {P:Program} {w:World} {e tx e':TypeId} {sz:Nat} {v:Value} {n:Nat} {xs:List Value} (h:Win w e sz v n xs) (hk:P.underlying tx=some (.slice e')) (h1:∀u∈xs,u.oneCell'=true):Src P sz tx v n xs w:=by
 rcases h.2 with ⟨rfl,rfl⟩|⟨g,off,cap,cur,rfl,hg,hnc,hs,hm,hx⟩
 ·have:xs=[]:=List.eq_nil_of_length_eq_zero (by rw[h.1];simp)
  subst this;exact Src.ofNil w hk 0
 ·refine Src.ofSlice w hk _ n cap xs h.1 (fun j u hu=> ?_) h1
  have hj:j<n*sz:=by have:=(List.getElem?_eq_some_iff.1 hu).1;rw[h.1] at this;exact this
  rw[← hx,List.getElem?_take_of_lt hj,List.getElem?_drop] at hu;rw[zej];simp only[World.cell?,hg];simpa using hu
theorem Win.elem {w:World} {e:TypeId} {v:Value} {n:Nat} {xs:List Value} (h:Win w e 1 v n xs) (k:Nat) (u:Value) (hu:xs[k]? = some u):∃g off cap,v= .slice (some ⟨g,off,none⟩) n cap∧w.cell? ⟨g,off+k,none⟩=some u:=by
 have hk:k<n:=by have:=(List.getElem?_eq_some_iff.1 hu).1;rw[h.1] at this;omega
 obtain⟨g,off,cap,rfl,_,_,_,_,h2⟩:=h.form (by omega);exact⟨g,off,cap,rfl,(h2 k u hu).1⟩
theorem zax {P:Program} {w:World} {e t:TypeId} {sz:Nat} {v:Value} {n:Nat} {xs:List Value} {ops:Array Oper} {o:Oper} {a:Act} {K:Act→World→Prop} {Q:Exit→Act→World→Prop} {E:Prop} (hgd:o.guard=none) (sl x:Operand) (tx:TypeId)
    (ho:o.op= .call {callee:= .builtin .append,args:=#[sl,x],argTypes:=#[t,tx]}) {z:Value} {bytes:Nat}
    (ht:P.underlying t=some (.slice e)) (hi:(P.info? e).map (fun i=>(i.zero,i.size,i.bytes))=some (some z,sz,bytes)) (hzs:z.cells.size=sz)
    (hs:a.eval sl=v) (h:Win w e sz v n xs) (X:Value) (hx:a.eval x=X) (m:Nat) (news:List Value) (hsrc:Src P sz tx X m news w) (h63:n+m≤maxLen) (hbytes:(n+m)*bytes≤140737488355328)
    (hk:∀v' w',Hid (Win w' e sz v' (n+m) (xs++news))→Hid (w.grownBy w' v.ownBlock)→Hid (v'.ownBlock=v.ownBlock∨v'.ownBlock=some w.heap.size∧w.heap.size<w'.heap.size)→K (a.put o.dst v') w') :
    if Region.wanted o (yielded ops a.tmps)=true then Oper.wp P o a w K Q else E:=by
  have hw:Region.wanted o (yielded ops a.tmps)=true:=by simp[Region.wanted,hgd]
  rw[if_pos hw];cases hq:P.info? e with
  | none=>simp[hq] at hi
  | some i =>
    simp only[hq,Option.map_some,Option.some.injEq,Prod.mk.injEq] at hi;obtain⟨v',w',hr,h2,h3,h4⟩:=h.append (ty:=o.type) ht hq hi.1 hi.2.1 hi.2.2 hzs X m news hsrc h63 hbytes;unfold Oper.wp execOp;simp only[ho,resolve,invoke,builtin,Sem.run_bind,Sem.run_pure,Result.andThen_ok,List.map_toArray,List.map_cons,List.map_nil,hs,hx,hr];exact hk v' w' h2 h3 h4
theorem zfv (w:World) (v:Value) (e:TypeId) (g:Nat) (hg:g=w.heap.size):Win (w.alloc (.cells #[v] e)) e 1 (.slice (some ⟨g,0,none⟩) 1 1) 1 [v]:=by
 subst hg;exact⟨rfl,.inr ⟨w.heap.size,0,1,_,rfl,heap_alloc_new w _,Nat.le_refl _,by simp,by unfold maxLen;omega,by simp⟩⟩
end
section
open Go.Lib
structure Ev where
 k:Int
 y:Bool
 m:Nat
 t:ByteArray
 c:Int
def mayE (e:Ev):Prop:=0≤e.k∧e.k≤7∧(e.k=5∨e.k=6→ -1≤e.c)
instance (e:Ev):Decidable (mayE e):=by unfold mayE;infer_instance
def zfi (e:Ev):Ev:=if e.k=1 then⟨1,e.y,0,⟨#[]⟩,0⟩ else if e.k=2 then⟨2,e.y,e.m,⟨#[]⟩,0⟩ else if e.k=3∨e.k=4 then⟨e.k,false,0,e.t,0⟩ else if e.k=5∨e.k=6 then⟨e.k,false,0,⟨#[]⟩,e.c⟩ else⟨e.k,false,0,⟨#[]⟩,0⟩
structure Bx where
 map:Bool
 c:Int
 have_:Nat
deriving DecidableEq
def zet (b:Bx):Prop:=(0≤b.c∧(b.have_:Int)≠(if b.map then 2*b.c else b.c))∨(b.map=true∧b.have_%2=1)
instance (b:Bx):Decidable (zet b):=by unfold zet;infer_instance
inductive Ck
 | bad (e:Nat)
 | live (s:List Bx)
 | done
deriving DecidableEq
def incB:List Bx→List Bx
 | []=>[]
 | b::r=>⟨b.map,b.c,b.have_+1⟩::r
def keyB:List Bx→Bool
 | []=>false
 | b::_=>b.map&&b.have_%2==0
def zcy:Ev:=⟨0,false,0,⟨#[]⟩,0⟩
def zbm:Ev:=⟨7,false,0,⟨#[]⟩,0⟩
end
section
open Go.RowKit
open Go.Lib
def zeg (e:Ev):List Value:=[.int .i64 e.k,.bool e.y,.int .u64 e.m,.string e.t,.int .i64 e.c]
def EvOk (e:Ev):Prop:=(-9223372036854775808≤e.k∧e.k≤9223372036854775807)∧e.m<18446744073709551616∧(-9223372036854775808≤e.c∧e.c≤9223372036854775807)∧e.t.size≤9223372036854775807
def zalj (w:World) (B:Nat) (A:Option Addr) (n:Nat) (E:Nat→Ev):Prop :=
 0<n→∃b off,A=some ⟨b,off,none⟩∧b<B∧∀i,i<n→∀j u,(zeg (E i))[j]? = some u→w.cell? ⟨b,off+i*5+j,none⟩=some u
end
section
open Go.RowKit
open Go.Lib
theorem zaa {a w:World} (h:Below a.heap.size a w) (o:Obj):Below a.heap.size a (w.alloc o):=h.alloc h.size o
theorem zab {a w w':World} (h:Below a.heap.size a w) (k:Below w.heap.size w w'):Below a.heap.size a w':=h.trans (k.mono h.size)
theorem zg9 {a w:World} {b:Nat} (h:Below a.heap.size a w) (hb:a.heap.size≤b) (o:Nat) (u:Value):Below a.heap.size a (w.setCell ⟨b,o,none⟩ u):=h.setCell hb u
theorem zx8 {a w:World} (h:Below a.heap.size a w) (u0 u1 u2 u3 u4:Value) :
  Below a.heap.size a (((((w.setCell ⟨a.heap.size,0,none⟩ u0).setCell ⟨a.heap.size,1,none⟩ u1).setCell ⟨a.heap.size,2,none⟩ u2).setCell ⟨a.heap.size,3,none⟩ u3).setCell ⟨a.heap.size,4,none⟩ u4) :=
 zg9 (zg9 (zg9 (zg9 (zg9 h (Nat.le_refl _) _ _) (Nat.le_refl _) _ _) (Nat.le_refl _) _ _) (Nat.le_refl _) _ _) (Nat.le_refl _) _ _
def Blk (w:World) (b:Nat) (cs:Array Value) (t:TypeId):Prop:=w.heap[b]? = some (.cells cs t (0,0))
theorem Blk.cell {w:World} {b:Nat} {cs:Array Value} {t:TypeId} (h:Blk w b cs t) (j:Nat):w.cell? ⟨b,j,none⟩=cs[j]? := by
 unfold Blk at h;simp[World.cell?,h]
theorem Blk.froz {w:World} {b:Nat} {cs:Array Value} {t:TypeId} (h:Blk w b cs t) (j:Nat):w.frozen? ⟨b,j,none⟩=false:=by
 unfold Blk at h;simp[World.frozen?,h]
theorem Blk.lt {w:World} {b:Nat} {cs:Array Value} {t:TypeId} (h:Blk w b cs t):b<w.heap.size:=(Array.getElem?_eq_some_iff.1 h).1
theorem Blk.below {w w':World} {b B:Nat} {cs:Array Value} {t:TypeId} (h:Blk w b cs t) (k:Below B w w') (hB:b<B):Blk w' b cs t:=(k.block b hB).trans h
theorem Blk.go {w w':World} {b:Nat} {cs:Array Value} {t:TypeId} (h:Blk w b cs t) (k:Below w.heap.size w w'):Blk w' b cs t:=h.below k h.lt
theorem Blk.alloc {w:World} {b:Nat} {cs:Array Value} {t:TypeId} (h:Blk w b cs t) (x:Obj):Blk (w.alloc x) b cs t:=(Below.heap_alloc w x b h.lt).trans h
theorem zag (w:World) (cs:Array Value) (t:TypeId):Blk (w.alloc (.cells cs t)) w.heap.size cs t:=heap_alloc_new w _
theorem zaku (k:Int):(k=0∨k=1∨k=2∨k=3∨k=4∨k=5∨k=6∨k=7)∨¬(0≤k∧k≤7):=by omega
theorem Blk.set {w:World} {b:Nat} {cs:Array Value} {t:TypeId} (h:Blk w b cs t) (j:Nat) (u:Value):Blk (w.setCell ⟨b,j,none⟩ u) b (cs.setIfInBounds j u) t:=by
 unfold Blk at h ⊢;unfold World.setCell;simp[Array.getElem?_modify,h]
theorem Blk.far {w:World} {b:Nat} {cs:Array Value} {t:TypeId} (h:Blk w b cs t) {p:Addr} (hp:b≠p.block) (u:Value):Blk (w.setCell p u) b cs t:=(Below.heap_setCell w p u b hp).trans h
theorem zcl {P:Program} {tx e':TypeId} (W:World) (hk:P.underlying tx=some (.slice e')) (sz m:Nat) (xs:List Value) (e:TypeId) (g:Nat) (hl:xs.length=m*sz) (h1:∀u∈xs,u.oneCell'=true) (hh:W.heap[g]? = some (.cells xs.toArray e (0,0))) :
  Src P sz tx (.slice (some ⟨g,0,none⟩) m m) m xs W:=by
 refine Src.ofSlice _ hk _ m m xs hl (fun j u hu=> ?_) h1;rw[zej];simp only[World.cell?,Nat.zero_add];rw[hh];simpa using hu
theorem Blk.lift {w w2:World} {b:Nat} {cs:Array Value} {t:TypeId} (h:Blk w b cs t) {row:Option Nat} (k:w.grownBy w2 row) (hr:row≠some b):Blk w2 b cs t :=
 (k.block b h.lt (fun e=>hr e.symm)).trans h
theorem Blk.drew {w:World} {b:Nat} {cs:Array Value} {t:TypeId} (h:Blk w b cs t):Blk w.drew b cs t:=h
theorem zbj {B:Nat} {w w':World} (h:Below B w w'):Below B w w'.drew:=⟨h.os,h.tape,h.output,h.size,h.block⟩
theorem zat {B:Nat} {w w':World} (h:Below B w w') (q:Nat):Below B w (w'.drewN q):=⟨h.os,h.tape,h.output,h.size,h.block⟩
end
section
open Go.RowKit
open Go.Lib
def evV (e:Ev):Value:= .agg #[.int .i64 e.k,.bool e.y,.int .u64 e.m,.string e.t,.int .i64 e.c]
theorem Blk.ev {w:World} {b:Nat} {k:Int} {y:Bool} {m:Int} {t:ByteArray} {c:Int} {T:TypeId} (h:Blk w b #[.int .i64 k,.bool y,.int .u64 m,.string t,.int .i64 c] T) :
  (w.cell? ⟨b,0,none⟩=some (.int .i64 k)∧w.cell? ⟨b,1,none⟩=some (.bool y)∧w.cell? ⟨b,2,none⟩=some (.int .u64 m)∧w.cell? ⟨b,3,none⟩=some (.string t)∧w.cell? ⟨b,4,none⟩=some (.int .i64 c)) ∧
  (w.frozen? ⟨b,0,none⟩=false∧w.frozen? ⟨b,1,none⟩=false∧w.frozen? ⟨b,2,none⟩=false∧w.frozen? ⟨b,3,none⟩=false∧w.frozen? ⟨b,4,none⟩=false) :=
 ⟨⟨h.cell 0,h.cell 1,h.cell 2,h.cell 3,h.cell 4⟩,⟨h.froz 0,h.froz 1,h.froz 2,h.froz 3,h.froz 4⟩⟩
def evZ:Ev:=⟨0,false,0,⟨#[]⟩,0⟩
end
section
open Go.RowKit
open Go.Lib
def valE (e:Ev):Value :=
 if e.k=1 then .iface 4 (.bool e.y) else if e.k=2 then .iface 93 (.agg #[.bool e.y,.int .u64 e.m]) else if e.k=3 then .iface 179 (.string e.t)
 else if e.k=4 then .iface 181 (.string e.t) else if e.k=5 then .iface 166 (.agg #[.bool false,.int .i64 e.c]) else if e.k=6 then .iface 166 (.agg #[.bool true,.int .i64 e.c])
 else if e.k=7 then .iface 169 (.agg #[]) else .nilIface
end
section
open Go.RowKit
open Go.Lib
theorem zc7 (T u:TypeId) (h:(Tryz.prog.underlying T).map (fun x=>match x with | .interface _=>false|_=>true)=some true) (v:Value) (W:World):(Instr.typeAssert (.iface T v) u T true).run Tryz.prog W= .ok (.tuple #[v,.bool true]) W:=by
 cases hu:Tryz.prog.underlying T with
 | none=>simp[hu] at h
 | some x=>cases x <;>simp[hu] at h <;>simp[Instr.typeAssert,run_underlying hu]
theorem zd0 (T u d:TypeId) (z:Value) (h:(Tryz.prog.underlying T).map (fun x=>match x with | .interface _=>false|_=>true)=some true) (hd:d≠T) (hz:(Tryz.prog.info? T).map (·.zero)=some (some z)) (v:Value) (W:World) :
  (Instr.typeAssert (.iface d v) u T true).run Tryz.prog W= .ok (.tuple #[z,.bool false]) W:=by
 obtain⟨j,hj,hz'⟩:=Option.map_eq_some_iff.1 hz;cases hu:Tryz.prog.underlying T with
 | none=>simp[hu] at h
 | some x=>cases x <;>simp[hu] at h <;>simp[Instr.typeAssert,run_underlying hu,hd,zeroValue,typeInfo,hj,hz']
theorem zf3 (d:TypeId) (hd:d≠4) (v:Value) (W:World):(Instr.typeAssert (.iface d v) 20 4 true).run Tryz.prog W= .ok (.tuple #[.bool false,.bool false]) W:=zd0 _ _ d _ (by kernel_rfl) hd (by kernel_rfl) v W
theorem zbv (d:TypeId) (hd:d≠93) (v:Value) (W:World):(Instr.typeAssert (.iface d v) 20 93 true).run Tryz.prog W= .ok (.tuple #[.agg #[.bool false,.int .u64 0],.bool false]) W:=zd0 _ _ d _ (by kernel_rfl) hd (by kernel_rfl) v W
theorem zb4 (d:TypeId) (hd:d≠179) (v:Value) (W:World):(Instr.typeAssert (.iface d v) 20 179 true).run Tryz.prog W= .ok (.tuple #[.string ⟨#[]⟩,.bool false]) W:=zd0 _ _ d _ (by kernel_rfl) hd (by kernel_rfl) v W
theorem zf2 (d:TypeId) (hd:d≠181) (v:Value) (W:World):(Instr.typeAssert (.iface d v) 20 181 true).run Tryz.prog W= .ok (.tuple #[.string ⟨#[]⟩,.bool false]) W:=zd0 _ _ d _ (by kernel_rfl) hd (by kernel_rfl) v W
theorem zcx (d:TypeId) (hd:d≠166) (v:Value) (W:World):(Instr.typeAssert (.iface d v) 20 166 true).run Tryz.prog W= .ok (.tuple #[.agg #[.bool false,.int .i64 0],.bool false]) W:=zd0 _ _ d _ (by kernel_rfl) hd (by kernel_rfl) v W
theorem zd4 (d:TypeId) (hd:d≠169) (v:Value) (W:World):(Instr.typeAssert (.iface d v) 20 169 true).run Tryz.prog W= .ok (.tuple #[.agg #[],.bool false]) W:=zd0 _ _ d _ (by kernel_rfl) hd (by kernel_rfl) v W
theorem zjn (v:Value) (W:World):(Instr.typeAssert (.iface 4 v) 20 4 true).run Tryz.prog W= .ok (.tuple #[v,.bool true]) W:=zc7 _ _ (by kernel_rfl) v W
theorem ze7 (v:Value) (W:World):(Instr.typeAssert (.iface 93 v) 20 93 true).run Tryz.prog W= .ok (.tuple #[v,.bool true]) W:=zc7 _ _ (by kernel_rfl) v W
theorem zfq (v:Value) (W:World):(Instr.typeAssert (.iface 179 v) 20 179 true).run Tryz.prog W= .ok (.tuple #[v,.bool true]) W:=zc7 _ _ (by kernel_rfl) v W
theorem zik (v:Value) (W:World):(Instr.typeAssert (.iface 181 v) 20 181 true).run Tryz.prog W= .ok (.tuple #[v,.bool true]) W:=zc7 _ _ (by kernel_rfl) v W
theorem zf5 (v:Value) (W:World):(Instr.typeAssert (.iface 166 v) 20 166 true).run Tryz.prog W= .ok (.tuple #[v,.bool true]) W:=zc7 _ _ (by kernel_rfl) v W
theorem zl4 (v:Value) (W:World):(Instr.typeAssert (.iface 169 v) 20 169 true).run Tryz.prog W= .ok (.tuple #[v,.bool true]) W:=zc7 _ _ (by kernel_rfl) v W
theorem zpu (d:TypeId) (v:Value) (W:World):(binOp .eql 20 (.iface d v) .nilIface).run Tryz.prog W= .ok (.bool false) W:=by kernel_rfl
theorem zwc (W:World):(binOp .eql 20 .nilIface .nilIface).run Tryz.prog W= .ok (.bool true) W:=by kernel_rfl
end
section
open Go.Lib
def za0 (b:Nat):Option (Nat×Nat×Nat) :=
 if b<128 then some (0,0,0) else if 194≤b∧b≤223 then some (1,128,191) else if b=224 then some (2,160,191) else if b=237 then some (2,128,159)
 else if 225≤b∧b≤239 then some (2,128,191) else if b=240 then some (3,144,191) else if 241≤b∧b≤243 then some (3,128,191) else if b=244 then some (3,128,143) else none
def st0:Option (Nat×Nat×Nat):=some (0,0,0)
def zb7:Option (Nat×Nat×Nat)→UInt8→Option (Nat×Nat×Nat)
 | none,_=>none
 | some (0,_,_),b=>za0 b.toNat
 | some (n+1,lo,hi),b=>if b.toNat<lo∨hi<b.toNat then none else if n=0 then some (0,0,0) else some (n,128,191)
def zch:Option (Nat×Nat×Nat)→Bool
 | some (0,_,_)=>true
 | _=>false
theorem zoh (b n lo hi:Nat) (h:za0 b=some (n,lo,hi)) (hb:128≤b):(n=1∨n=2∨n=3)∧128≤lo∧lo≤hi∧hi≤191:=by
 unfold za0 at h;rw[if_neg (by omega)] at h
 repeat' split at h
 all_goals first |(simp only[Option.some.injEq,Prod.mk.injEq] at h;omega)|(cases h)
end
section
open Go.Lib
def zro (x:ByteArray):List UInt8:=x.data.toList
theorem zgm {x:ByteArray} {l:List UInt8} (h:x=⟨l.toArray⟩):zro x=l:=by subst h;rfl
def encL (n:Nat):List UInt8:=zro (Utf8.encode (n:Int))
theorem zor (x:ByteArray):(⟨(zro x).toArray⟩:ByteArray)=x:=by cases x;simp[zro]
theorem zqu (n:Nat):(⟨(encL n).toArray⟩:ByteArray)=Utf8.encode (n:Int):=zor _
def zcg (n:Nat):Prop:=n<55296∨(57343<n∧n≤1114111)
theorem zab5 {n:Nat} (h:zcg n):Utf8.valid (n:Int)=true:=by
 rw[validRune_eq];unfold validRune zcg at *
 simp only[decide_eq_true_eq];omega
theorem toNat_ofNat (x:Nat) (h:x<256):(UInt8.ofNat x).toNat=x:=by simp;omega
theorem zadw {n:Nat} (hr:zcg n):Utf8.encode (n:Int)=(if n<128 then⟨#[UInt8.ofNat n]⟩ else if n<2048 then⟨#[UInt8.ofNat (192+n/64),UInt8.ofNat (128+n%64)]⟩
  else if n<65536 then⟨#[UInt8.ofNat (224+n/4096),UInt8.ofNat (128+n/64%64),UInt8.ofNat (128+n%64)]⟩
  else⟨#[UInt8.ofNat (240+n/262144),UInt8.ofNat (128+n/4096%64),UInt8.ofNat (128+n/64%64),UInt8.ofNat (128+n%64)]⟩):=by
 have e:(if Utf8.valid (n:Int)=true then(n:Int).toNat else Utf8.runeError)=n:=by rw[if_pos (zab5 hr)];exact Int.toNat_natCast n
 unfold Utf8.encode;rw[e]
theorem enc1 {n:Nat} (h:n<128):encL n=[UInt8.ofNat n]:=by
 have e:=zadw (n:=n) (.inl (by omega));rw[if_pos h] at e;exact zgm e
theorem enc2 {n:Nat} (h0:128≤n) (h:n<2048):encL n=[UInt8.ofNat (192+n/64),UInt8.ofNat (128+n%64)]:=by
 have e:=zadw (n:=n) (.inl (by omega));rw[if_neg (by omega),if_pos h] at e;exact zgm e
theorem enc3 {n:Nat} (hr:zcg n) (h0:2048≤n) (h:n<65536):encL n=[UInt8.ofNat (224+n/4096),UInt8.ofNat (128+n/64%64),UInt8.ofNat (128+n%64)]:=by
 have e:=zadw hr;rw[if_neg (by omega),if_neg (by omega),if_pos h] at e;exact zgm e
theorem enc4 {n:Nat} (h0:65536≤n) (h:n≤1114111):encL n=[UInt8.ofNat (240+n/262144),UInt8.ofNat (128+n/4096%64),UInt8.ofNat (128+n/64%64),UInt8.ofNat (128+n%64)]:=by
 have e:=zadw (n:=n) (.inr (by omega));rw[if_neg (by omega),if_neg (by omega),if_neg (by omega)] at e;exact zgm e
theorem zri {n:Nat} (hr:zcg n):∃a rest,encL n=a::rest∧(rest=[]∧a.toNat=n∧n<128 ∨
  128≤n∧∃lo hi,1≤rest.length∧rest.length≤3∧za0 a.toNat=some (rest.length,lo,hi)∧128≤lo∧194≤a.toNat∧(∀b,rest[0]? = some b→lo≤b.toNat∧b.toNat≤hi)∧∀b∈rest,128≤b.toNat∧b.toNat≤191):=by
 by_cases h1:n<128
 ·exact⟨_,_,enc1 h1,.inl ⟨rfl,toNat_ofNat n (by omega),h1⟩⟩
 by_cases h2:n<2048
 ·refine⟨_,_,enc2 (by omega) h2,.inr ⟨by omega,128,191,by simp,by simp,?_,by omega,?_,?_,?_⟩⟩
  ·rw[toNat_ofNat _ (by omega)]
   simp only[List.length_singleton];unfold za0;rw[if_neg (by omega),if_pos (by omega)]
  ·rw[toNat_ofNat _ (by omega)];omega
  ·intro b hb
   simp only[List.getElem?_cons_zero,Option.some.injEq] at hb;subst hb;rw[toNat_ofNat _ (by omega)];omega
  ·intro b hb
   simp only[List.mem_singleton] at hb;subst hb;rw[toNat_ofNat _ (by omega)];omega
 by_cases h3:n<65536
 ·have hb1:(UInt8.ofNat (128+n/64%64)).toNat=128+n/64%64:=toNat_ofNat _ (by omega)
  have hb2:(UInt8.ofNat (128+n%64)).toNat=128+n%64:=toNat_ofNat _ (by omega);have ha:(UInt8.ofNat (224+n/4096)).toNat=224+n/4096:=toNat_ofNat _ (by omega);have key:∃lo hi,za0 (224+n/4096)=some (2,lo,hi)∧128≤lo∧lo≤128+n/64%64∧128+n/64%64≤hi:=by
   unfold zcg at hr;unfold za0;rw[if_neg (by omega),if_neg (by omega)];by_cases c1:224+n/4096=224
   ·exact⟨160,191,by rw[if_pos c1],by omega,by omega,by omega⟩
   rw[if_neg c1];by_cases c2:224+n/4096=237
   ·exact⟨128,159,by rw[if_pos c2],by omega,by omega,by omega⟩
   rw[if_neg c2,if_pos (by omega)];exact⟨128,191,rfl,by omega,by omega,by omega⟩
  obtain⟨lo,hi,ho,hlo,k1,k2⟩:=key;refine⟨_,_,enc3 hr (by omega) h3,.inr ⟨by omega,lo,hi,by simp,by simp,by rw[ha];exact ho,hlo,by omega,?_,?_⟩⟩
  ·intro b hb
   simp only[List.getElem?_cons_zero,Option.some.injEq] at hb;subst hb;rw[hb1];exact⟨k1,k2⟩
  ·intro b hb
   simp only[List.mem_cons,List.not_mem_nil,or_false] at hb;rcases hb with rfl|rfl <;>omega
 ·unfold zcg at hr
  have hb1:(UInt8.ofNat (128+n/4096%64)).toNat=128+n/4096%64:=toNat_ofNat _ (by omega);have hb2:(UInt8.ofNat (128+n/64%64)).toNat=128+n/64%64:=toNat_ofNat _ (by omega);have hb3:(UInt8.ofNat (128+n%64)).toNat=128+n%64:=toNat_ofNat _ (by omega);have ha:(UInt8.ofNat (240+n/262144)).toNat=240+n/262144:=toNat_ofNat _ (by omega);have key:∃lo hi,za0 (240+n/262144)=some (3,lo,hi)∧128≤lo∧lo≤128+n/4096%64∧128+n/4096%64≤hi:=by
   unfold za0;rw[if_neg (by omega),if_neg (by omega),if_neg (by omega),if_neg (by omega),if_neg (by omega)];by_cases c1:240+n/262144=240
   ·exact⟨144,191,by rw[if_pos c1],by omega,by omega,by omega⟩
   rw[if_neg c1];by_cases c2:240+n/262144=244
   ·exact⟨128,143,by rw[if_neg (by omega),if_pos c2],by omega,by omega,by omega⟩
   rw[if_pos (by omega)];exact⟨128,191,rfl,by omega,by omega,by omega⟩
  obtain⟨lo,hi,ho,hlo,k1,k2⟩:=key;refine⟨_,_,enc4 (by omega) (by omega),.inr ⟨by omega,lo,hi,by simp,by simp,by rw[ha];exact ho,hlo,by omega,?_,?_⟩⟩
  ·intro b hb
   simp only[List.getElem?_cons_zero,Option.some.injEq] at hb;subst hb;rw[hb1];exact⟨k1,k2⟩
  ·intro b hb
   simp only[List.mem_cons,List.not_mem_nil,or_false] at hb;rcases hb with rfl|rfl|rfl <;>omega
theorem zaaa {n:Nat} (hr:zcg n):1≤(encL n).length∧(encL n).length≤4:=by
 obtain⟨a,rest,h,hc⟩:=zri hr;rw[h,List.length_cons];rcases hc with ⟨rfl,_⟩|⟨_,_,_,h1,h2,_⟩
 ·simp
 ·omega
theorem zcs (b:UInt8) (x:Nat) (h:x=b.toNat):UInt8.ofNat x=b:=by subst h;simp
theorem zakd (x y z u:Nat) (_:x<8) (hy:y<64) (hz:z<64) (hu:u<64):(x*262144+y*4096+z*64+u)/262144=x∧(x*262144+y*4096+z*64+u)/4096%64=y∧(x*262144+y*4096+z*64+u)/64%64=z∧(x*262144+y*4096+z*64+u)%64=u:=by
 refine⟨by omega,by omega,by omega,by omega⟩
theorem zaig (y z u:Nat) (_:y<16) (hz:z<64) (hu:u<64):(y*4096+z*64+u)/4096=y∧(y*4096+z*64+u)/64%64=z∧(y*4096+z*64+u)%64=u:=by
 refine⟨by omega,by omega,by omega⟩
theorem zalc (z u:Nat) (hu:u<64):(z*64+u)/64=z∧(z*64+u)%64=u:=by
 refine⟨by omega,by omega⟩
theorem zgj (b k m:Nat) (h:b/k=m):b=m*k+b%k:=by have:=Nat.div_add_mod b k;rw[h] at this;rw[Nat.mul_comm] at this;exact this.symm
theorem zz1 (k b0 b1 b2 b3:Nat):decodeN k b0 b1 b2 b3=(65533,1)∨(b0<128∧decodeN k b0 b1 b2 b3=(b0,1)) ∨
  (2≤k∧∃c,decodeN k b0 b1 b2 b3=(c,2)∧128≤c∧c<2048∧192+c/64=b0∧128+c%64=b1) ∨
  (3≤k∧∃c,decodeN k b0 b1 b2 b3=(c,3)∧zcg c∧2048≤c∧c<65536∧224+c/4096=b0∧128+c/64%64=b1∧128+c%64=b2) ∨
  (4≤k∧∃c,decodeN k b0 b1 b2 b3=(c,4)∧65536≤c∧c≤1114111∧240+c/262144=b0∧128+c/4096%64=b1∧128+c/64%64=b2∧128+c%64=b3):=by
 unfold decodeN;by_cases h1:b0<128
 ·rw[if_pos h1];exact .inr (.inl ⟨h1,rfl⟩)
 rw[if_neg h1];by_cases h2:b0/32=6∧(1<k∧b1/64=2)
 ·rw[if_pos h2]
  have e0:=zgj _ _ _ h2.1;have e1:=zgj _ _ _ h2.2.2;have l0:b0%32<32:=Nat.mod_lt _ (by decide);have l1:b1%64<64:=Nat.mod_lt _ (by decide);have t:=zalc (b0%32) (b1%64) l1;generalize b0%32=x at *
  generalize b1%64=y at *
  by_cases c:x*64+y≥128
  ·rw[if_pos c]
   exact .inr (.inr (.inl ⟨h2.2.1,_,rfl,c,by omega,by rw[t.1,e0],by rw[t.2,e1]⟩))
  ·rw[if_neg c];exact .inl rfl
 rw[if_neg h2];by_cases h3:b0/16=14∧(1<k∧b1/64=2)∧(2<k∧b2/64=2)
 ·rw[if_pos h3]
  have e0:=zgj _ _ _ h3.1;have e1:=zgj _ _ _ h3.2.1.2;have e2:=zgj _ _ _ h3.2.2.2;have l0:b0%16<16:=Nat.mod_lt _ (by decide);have l1:b1%64<64:=Nat.mod_lt _ (by decide);have l2:b2%64<64:=Nat.mod_lt _ (by decide);have t:=zaig (b0%16) (b1%64) (b2%64) l0 l1 l2;generalize b0%16=x at *
  generalize b1%64=y at *
  generalize b2%64=z at *
  have hk:=h3.2.2.1;clear h1 h2 h3;by_cases c:x*4096+y*64+z≥2048∧(x*4096+y*64+z<55296∨(57344≤x*4096+y*64+z∧x*4096+y*64+z≤1114111))
  ·rw[if_pos c]
   exact .inr (.inr (.inr (.inl ⟨hk,_,rfl,by unfold zcg;omega,c.1,by omega,by rw[t.1,e0],by rw[t.2.1,e1],by rw[t.2.2,e2]⟩)))
  ·rw[if_neg c];exact .inl rfl
 rw[if_neg h3];by_cases h4:b0/8=30∧(1<k∧b1/64=2)∧(2<k∧b2/64=2)∧(3<k∧b3/64=2)
 ·rw[if_pos h4]
  have e0:=zgj _ _ _ h4.1;have e1:=zgj _ _ _ h4.2.1.2;have e2:=zgj _ _ _ h4.2.2.1.2;have e3:=zgj _ _ _ h4.2.2.2.2;have l0:b0%8<8:=Nat.mod_lt _ (by decide);have l1:b1%64<64:=Nat.mod_lt _ (by decide);have l2:b2%64<64:=Nat.mod_lt _ (by decide);have l3:b3%64<64:=Nat.mod_lt _ (by decide);have t:=zakd (b0%8) (b1%64) (b2%64) (b3%64) l0 l1 l2 l3;generalize b0%8=x at *
  generalize b1%64=y at *
  generalize b2%64=z at *
  generalize b3%64=u at *
  have hk:=h4.2.2.2.1;clear h1 h2 h3 h4;by_cases c:x*262144+y*4096+z*64+u≥65536∧(x*262144+y*4096+z*64+u<55296∨(57344≤x*262144+y*4096+z*64+u∧x*262144+y*4096+z*64+u≤1114111))
  ·rw[if_pos c]
   exact .inr (.inr (.inr (.inr ⟨hk,_,rfl,c.1,by omega,by rw[t.1,e0],by rw[t.2.1,e1],by rw[t.2.2.1,e2],by rw[t.2.2.2,e3]⟩)))
  ·rw[if_neg c];exact .inl rfl
 rw[if_neg h4];exact .inl rfl
theorem zagm (l:List UInt8) (hne:l≠[]) (hg:¬((decodeL l).1=65533∧(decodeL l).2=1)):zcg (decodeL l).1∧encL (decodeL l).1=l.take (decodeL l).2∧(decodeL l).2≤l.length:=by
  rw[decodeL_N] at hg ⊢
  match l,hne with
  | b0::t,_ =>
    simp only[List.getD_cons_zero,List.getD_cons_succ,List.length_cons] at hg ⊢;rcases zz1 (t.length+1) b0.toNat (t.getD 0 0).toNat (t.getD 1 0).toNat (t.getD 2 0).toNat with e|⟨h1,e⟩|⟨hk,c,e,h1,h2,e0,e1⟩|⟨hk,c,e,hr,h1,h2,e0,e1,e2⟩|⟨hk,c,e,h1,h2,e0,e1,e2,e3⟩
    · rw[e] at hg
      exact absurd ⟨rfl,rfl⟩ hg
    · rw[e]
      clear hg e;exact⟨.inl (by show b0.toNat<55296;omega),by show encL b0.toNat=_;rw[enc1 h1,zcs b0 _ rfl];rfl,by show 1≤_;omega⟩
    · rw[e]
      clear hg e
      match t with
      | []=>simp at hk
      | b1::t' =>
        simp only[List.getD_cons_zero,List.length_cons] at e1 ⊢;refine⟨.inl (by show c<55296;omega),?_,by show 2≤_;omega⟩;show encL c=[b0,b1]
        rw[enc2 h1 h2,zcs b0 _ e0,zcs b1 _ e1]
    · rw[e]
      clear hg e
      match t with
      | []=>simp at hk
      | [b1]=>simp at hk
      | b1::b2::t' =>
        simp only[List.getD_cons_zero,List.getD_cons_succ,List.length_cons] at e1 e2 ⊢;refine⟨hr,?_,by show 3≤_;omega⟩;show encL c=[b0,b1,b2]
        rw[enc3 hr h1 h2,zcs b0 _ e0,zcs b1 _ e1,zcs b2 _ e2]
    · rw[e]
      clear hg e
      match t with
      | []=>simp at hk
      | [b1]=>simp at hk
      | [b1,b2]=>simp at hk
      | b1::b2::b3::t' =>
        simp only[List.getD_cons_zero,List.getD_cons_succ,List.length_cons] at e1 e2 e3 ⊢;refine⟨.inr (by show 57343<c∧c≤1114111;omega),?_,by show 4≤_;omega⟩;show encL c=[b0,b1,b2,b3]
        rw[enc4 h1 h2,zcs b0 _ e0,zcs b1 _ e1,zcs b2 _ e2,zcs b3 _ e3]
end
section
open Go.Lib
def hexV (b:Nat):Option Nat:=if 48≤b∧b≤57 then some (b-48) else if 97≤b∧b≤102 then some (b-87) else if 65≤b∧b≤70 then some (b-55) else none
inductive Ins where
 | text (n lo hi:Nat)
 | back
 | hex (k v:Nat)
 | high (h k w:Nat)
 | bad (utf:Bool)
 deriving DecidableEq
def insT:Ins:= .text 0 0 0
def zc5 (k b:Nat):Bool:=match k with
  | 0=>b==92
  | 1=>b==117
  | 2=>b==100||b==68
  | 3=>match hexV b with
    | some d=>decide (12≤d)
    | none=>false
  | _=>(hexV b).isSome
def lowW (k w b:Nat):Nat:=if k<2 then 0 else w*16+(hexV b).getD 0
def zb1 (b:Nat):Option Nat:=if b=34∨b=92∨b=47 then some b else if b=98 then some 8 else if b=102 then some 12 else if b=110 then some 10 else if b=114 then some 13 else if b=116 then some 9 else none
def zhi (h w:Nat):Nat:=65536+(h-55296)*1024+w-56320
def zaq:Ins→UInt8→Ins×List UInt8
  | .bad u,_=>(.bad u,[])
  | .text n lo hi,b=>if b.toNat=34∨b.toNat<32 then(.bad false,[]) else if n=0∧b.toNat=92 then(.back,[]) else match zb7 (some (n,lo,hi)) b with
    | none=>(.bad true,[])
    | some (m,lo',hi')=>(.text m lo' hi',[b])
  | .back,b=>match zb1 b.toNat with
    | some c=>(insT,[UInt8.ofNat c])
    | none=>if b.toNat=117 then(.hex 0 0,[]) else(.bad (za0 b.toNat).isNone,[])
  | .hex k v,b=>match hexV b.toNat with
    | none=>(.bad (za0 b.toNat).isNone,[])
    | some d=>if k<3 then(.hex (k+1) (v*16+d),[]) else if 56320≤v*16+d∧v*16+d≤57343 then(.bad true,[]) else if 55296≤v*16+d∧v*16+d≤56319 then(.high (v*16+d) 0 0,[]) else(insT,encL (v*16+d))
  | .high h k w,b=>if zc5 k b.toNat=true then(if k<5 then(.high h (k+1) (lowW k w b.toNat),[]) else(insT,encL (zhi h (lowW k w b.toNat)))) else(.bad true,[])
def zhe:Ins→Bool
 | .text 0 _ _=>true
 | _=>false
theorem zu1 (b n lo hi:Nat) (h:za0 b=some (n,lo,hi)) (h0:n=0):lo=0∧hi=0:=by
 unfold za0 at h
 repeat' split at h
 all_goals first |(simp only[Option.some.injEq,Prod.mk.injEq] at h;omega)|(cases h)
def hexD (n:Nat):UInt8:=if n<10 then UInt8.ofNat (48+n) else UInt8.ofNat (87+n)
def escB (b:UInt8):List UInt8 :=
 if b.toNat=34∨b.toNat=92 then [92,b] else if b.toNat=8 then [92,98] else if b.toNat=12 then [92,102] else if b.toNat=10 then [92,110] else if b.toNat=13 then [92,114] else if b.toNat=9 then [92,116]
 else if b.toNat<32 then [92,117,48,48,hexD (b.toNat/16),hexD (b.toNat%16)] else [b]
def escW (l:List UInt8):List UInt8:=l.flatMap escB
theorem zib (a b:List UInt8):escW (a++b)=escW a++escW b:=by simp[escW]
theorem zi7 (b:UInt8) (t:List UInt8):escW (b::t)=escB b++escW t:=by simp[escW]
theorem zafd {b:UInt8} (h:128≤b.toNat):escB b=[b]:=by
 unfold escB;rw[if_neg (by omega),if_neg (by omega),if_neg (by omega),if_neg (by omega),if_neg (by omega),if_neg (by omega),if_neg (by omega)]
def zad1:Option (Nat×Nat×Nat)→Prop
 | some (0,lo,hi)=>lo=0∧hi=0
 | some (_+1,lo,hi)=>128≤lo∧hi≤191
 | none=>True
theorem zub (s:Option (Nat×Nat×Nat)) (b:UInt8) (h:zad1 s):zad1 (zb7 s b):=by
  match s with
  | none=>exact h
  | some (0,lo,hi) =>
    show zad1 (za0 b.toNat);cases ho:za0 b.toNat with
    | none=>trivial
    | some p =>
      obtain⟨n,lo',hi'⟩:=p;cases n with
      | zero=>exact zu1 _ _ _ _ ho rfl
      | succ n =>
        by_cases hb:128≤b.toNat
        · have:=zoh _ _ _ _ ho hb
          exact⟨this.2.1,this.2.2.2⟩
        · simp[za0,show b.toNat<128 by omega] at ho
  | some (n+1,lo,hi) =>
    simp only[zb7];split
    · trivial
    · split
      · exact⟨rfl,rfl⟩
      · cases n with
        | zero=>contradiction
        | succ n=>exact⟨Nat.le_refl _,Nat.le_refl _⟩
theorem zaj5 {b d:Nat} (h:hexV b=some d):zc5 3 b=decide (12≤d):=by simp[zc5,h]
theorem zlp {h k w:Nat} {b:UInt8} (hl:zc5 k b.toNat=true) (hk:k<5) {w':Nat} (hw:lowW k w b.toNat=w'):zaq (.high h k w) b=(.high h (k+1) w',[]):=by
 subst hw;simp only[zaq];rw[if_pos hl,if_pos hk]
theorem zq1 {h w:Nat} {b:UInt8} (hl:zc5 5 b.toNat=true) {w':Nat} (hw:lowW 5 w b.toNat=w'):zaq (.high h 5 w) b=(insT,encL (zhi h w')):=by
 subst hw;simp only[zaq];rw[if_pos hl,if_neg (Nat.lt_irrefl 5)]
theorem zvz {k w b d:Nat} (hk:2≤k) (h:hexV b=some d):lowW k w b=w*16+d:=by
 unfold lowW;rw[if_neg (by omega),h];rfl
theorem zacr (b:UInt8):(escB b).length≤6:=by
 unfold escB
 repeat' split
 all_goals simp
theorem zht (l:List UInt8):(escW l).length≤6*l.length:=by
  induction l with
  | nil=>simp[escW]
  | cons b t ih =>
    rw[zi7,List.length_append,List.length_cons];have:=zacr b;omega
end
section
open Go.Lib
inductive Dec
 | bad (f:Bool)
 | num (p:Nat) (m:Bool) (v:Nat)
def zaz:Dec→Nat→Dec×Bool
  | .bad f,_=>(.bad f,false)
  | .num p m v,b =>
    if b=45∧p=0 then(.num 1 true v,true)
    else if(48≤b∧b≤57)∧p≠2 then(if b=48∧p<2 then(.num 2 m v,true) else(.num 3 m (v*10+(b-48)),true))
    else if(48≤b∧b≤57)∨p<2 then(.bad false,false)
    else if b=46∨b=101∨b=69 then(.bad true,false)
    else(.num p m v,false)
def errD:Dec→Nat
 | .bad true=>6
 | .bad false=>2
 | .num _ _ _=>0
def WfD:Dec→Prop
 | .bad _=>True
 | .num p m v=>p≤3∧(p≤2→v=0)∧(p=3→1≤v)∧(p=0→m=false)∧(p=1→m=true)
theorem zaeh (s:Dec) (b:Nat) (h:WfD s):WfD (zaz s b).1:=by
  cases s with
  | bad f=>trivial
  | num p m v =>
    obtain⟨h1,h2,h3,h4,h5⟩:=h;simp only[zaz];split
    · exact⟨by omega,fun _=>h2 (by omega),by omega,by omega,fun _=>rfl⟩
    · split
      · split
        · exact⟨by omega,fun _=>h2 (by omega),by omega,by omega,by omega⟩
        · rename_i q1 q2 q3
          refine⟨by omega,by omega,fun _=> ?_,by omega,by omega⟩;by_cases h:p=3
          · have:=h3 h;omega
          · have:=h2 (by omega);omega
      · split
        · trivial
        · split
          · trivial
          · exact⟨h1,h2,h3,h4,h5⟩
def endD:Dec→(Bool×Nat)×Nat
  | .bad f=>((false,0),errD (.bad f))
  | .num p m v =>
    if p<2 then((false,0),2)
    else if m=true∧p≠2 then(if v≤18446744073709551616 then((true,v-1),0) else((false,0),7))
    else if v<18446744073709551616 then((false,v),0) else((false,0),7)
def zr0:Dec→List UInt8→(Bool×Nat)×Nat
  | s,[]=>endD s
  | s,b::t =>
    if errD (zaz s b.toNat).1=0 then(if(zaz s b.toNat).2 then zr0 (zaz s b.toNat).1 t else((false,0),2))
    else((false,0),errD (zaz s b.toNat).1)
def d0:Dec:= .num 0 false 0
def zq0 (p:Bool×Nat):List UInt8:=if p.1 then 45::decDigits (p.2+1) else decDigits p.2
theorem zahn {s s':Dec} {b:UInt8} {t:List UInt8} (h:zaz s b.toNat=(s',true)) (he:errD s'=0):zr0 s (b::t)=zr0 s' t:=by
 rw[zr0,h];simp[he]
inductive Runs:Dec→List UInt8→Dec→Prop
 | nil (s:Dec):Runs s [] s
 | cons {s s' r:Dec} {b:UInt8} {t:List UInt8} (h:zaz s b.toNat=(s',true)) (he:errD s'=0) (k:Runs s' t r):Runs s (b::t) r
theorem wf0:WfD d0:=⟨by omega,fun _=>rfl,by omega,fun _=>rfl,by omega⟩
end
section
open Go.Lib
structure Tk where
 k:Nat
 t:List UInt8
 n:Bool×Nat
deriving DecidableEq
inductive Lx
 | idle
 | str (s:Ins) (t:List UInt8)
 | num (d:Dec)
 | word (k:Nat) (r:List Nat)
 | bad (e:Nat)
def sgnT (k:Nat):Tk:=⟨k,[],(false,0)⟩
def zt3 (b:Nat):Bool:=b==123||b==125||b==91||b==93||b==58||b==44
def zjb (b:Nat):Bool:=b==32||b==9||b==10||b==13
def zar (b:Nat):Lx×List Tk :=
 if zjb b=true then(.idle,[]) else if zt3 b=true then(.idle,[sgnT b]) else if b=34 then(.str insT [],[])
 else if b=45∨48≤b∧b≤57 then(.num (zaz d0 b).1,[])
 else if b=116 then(.word 116 [114,117,101],[]) else if b=102 then(.word 102 [97,108,115,101],[]) else if b=110 then(.word 48 [117,108,108],[]) else(.bad 2,[])
def insE:Ins→Nat
 | .bad true=>9
 | .bad false=>2
 | _=>0
def zsa (pre_:List Tk):Lx×List Tk→Lx×List Tk
 |(.bad e,_)=>(.bad e,[])
 |(s,l)=>(s,pre_++l)
def zak:Lx→UInt8→Lx×List Tk
  | .bad e,_=>(.bad e,[])
  | .idle,b=>zar b.toNat
  | .str s t,b =>
    if b.toNat=34∧zhe s=true then(.idle,[⟨115,t,(false,0)⟩])
    else if insE (zaq s b).1≠0 then(.bad (insE (zaq s b).1),[])
    else if 200<(t++(zaq s b).2).length then(.bad 5,[]) else(.str (zaq s b).1 (t++(zaq s b).2),[])
  | .num d,b =>
    if errD (zaz d b.toNat).1≠0 then(.bad (errD (zaz d b.toNat).1),[])
    else if(zaz d b.toNat).2=true then(.num (zaz d b.toNat).1,[])
    else if(endD d).2≠0 then(.bad (endD d).2,[]) else zsa [⟨110,[],(endD d).1⟩] (zar b.toNat)
  | .word k r,b =>
    match r with
    | []=>(.bad 2,[])
    | x::q=>if b.toNat=x then(if q=[] then(.idle,[sgnT k]) else(.word k q,[])) else(.bad 2,[])
def endX:Lx→List Tk×Nat
 | .idle=>([],0)
 | .num d=>if(endD d).2≠0 then([],(endD d).2) else([⟨110,[],(endD d).1⟩],0)
 | .str _ _=>([],3)
 | .word _ _=>([],3)
 | .bad e=>([],e)
def zali:Lx→Nat
 | .str _ t=>t.length
 | _=>0
end
section
open Go.Lib
structure FrJ where
 map:Bool
 p:Nat
deriving DecidableEq
inductive Pj
 | bad (e:Nat)
 | at_ (st:List FrJ) (dn:Bool)
def zgp:List FrJ→Bool→Bool
 | [],dn=> !dn
 |⟨false,p⟩::_,_=>p==0||p==2
 |⟨true,p⟩::_,_=>p==2
def zml:List FrJ→List FrJ
 | []=>[]
 |⟨false,_⟩::r=>⟨false,1⟩::r
 |⟨true,_⟩::r=>⟨true,3⟩::r
def zgo:List FrJ→Bool
 | []=>true
 | _=>false
def valJ (st:List FrJ) (dn:Bool) (e:Ev):Pj×List Ev:=if zgp st dn=true then(.at_ (zml st) (zgo st),[e]) else(.bad 2,[])
def zer (D:Nat) (st:List FrJ) (dn:Bool) (m:Bool) (e:Ev):Pj×List Ev :=
 if zgp st dn=true then(if D≤st.length then(.bad 4,[]) else(.at_ (⟨m,0⟩::zml st) false,[e])) else(.bad 2,[])
def zdq (m:Bool):List FrJ→Pj×List Ev
 |⟨b,p⟩::r=>if b=m∧(p=0∨p=if m then 3 else 1) then(.at_ r (zgo r),[zbm]) else(.bad 2,[])
 | []=>(.bad 2,[])
def zek:List FrJ→Pj×List Ev
 |⟨false,1⟩::r=>(.at_ (⟨false,2⟩::r) false,[])
 |⟨true,3⟩::r=>(.at_ (⟨true,4⟩::r) false,[])
 | _=>(.bad 2,[])
def zd3:List FrJ→Pj×List Ev
 |⟨true,1⟩::r=>(.at_ (⟨true,2⟩::r) false,[])
 | _=>(.bad 2,[])
def zce (t:List UInt8):Ev:=⟨3,false,0,⟨t.toArray⟩,0⟩
def zju (w:Bool×Nat):Ev:=⟨2,w.1,w.2,⟨#[]⟩,0⟩
def zdh (b:Bool):Ev:=⟨1,b,0,⟨#[]⟩,0⟩
def zda (m:Bool):Ev:=⟨if m then 6 else 5,false,0,⟨#[]⟩, -1⟩
def strJ (st:List FrJ) (dn:Bool) (t:List UInt8):Pj×List Ev :=
 match st with
 |⟨true,0⟩::r=>(.at_ (⟨true,1⟩::r) false,[zce t])
 |⟨true,4⟩::r=>(.at_ (⟨true,1⟩::r) false,[zce t])
 | _=>valJ st dn (zce t)
def tokJ (D:Nat):Pj→Tk→Pj×List Ev
  | .bad e,_=>(.bad e,[])
  | .at_ st dn,t =>
    if t.k=44 then zek st else if t.k=58 then zd3 st else if t.k=93 then zdq false st else if t.k=125 then zdq true st
    else if t.k=91 then zer D st dn false (zda false) else if t.k=123 then zer D st dn true (zda true)
    else if t.k=115 then strJ st dn t.t else if t.k=110 then valJ st dn (zju t.n) else if t.k=116 then valJ st dn (zdh true) else if t.k=102 then valJ st dn (zdh false) else valJ st dn zcy
def zaw (D:Nat):Pj→List Tk→Pj×List Ev
 | p,[]=>(p,[])
 | p,t::r=>((zaw D (tokJ D p t).1 r).1,(tokJ D p t).2++(zaw D (tokJ D p t).1 r).2)
structure Js where
 lx:Lx
 p:Pj
def badX:Lx→Option Nat
 | .bad e=>some e
 | _=>none
def zel (D:Nat) (s:Js) (b:UInt8):Js×List Ev :=
  match s.p with
  | .bad _=>(s,[])
  | .at_ _ _=>match badX (zak s.lx b).1 with
    | some e=>(⟨.idle,.bad e⟩,[])
    | none=>(⟨(zak s.lx b).1,(zaw D s.p (zak s.lx b).2).1⟩,(zaw D s.p (zak s.lx b).2).2)
def endJ (D:Nat) (s:Js):List Ev×Nat :=
  match s.p with
  | .bad e=>([],e)
  | .at_ _ _=>if(endX s.lx).2≠0 then([],(endX s.lx).2) else match zaw D s.p (endX s.lx).1 with
    |(.bad e,l)=>(l,e)
    |(.at_ _ true,l)=>(l,0)
    |(.at_ _ false,l)=>(l,3)
theorem zab6 (D:Nat) (p:Pj) (t:Tk):zaw D p [t]=tokJ D p t:=by simp[zaw]
def outW (e:Ev):List UInt8 :=
 if e.k=0 then [110,117,108,108] else if e.k=1 then(if e.y=true then [116,114,117,101] else [102,97,108,115,101]) else if e.k=2 then zq0 (e.y,e.m)
 else if e.k=3 then 34::escW e.t.data.toList++[34] else if e.k=5 then [91] else [123]
def sepW:List Bx→List UInt8
 | []=>[]
 | b::_=>if b.have_=0 then [] else if b.map=true∧b.have_%2=1 then [58] else [44]
def zaki (f:FrJ) (b:Bx):Prop:=b.map=f.map∧b.c= -1∧(f.map=true→(f.p=0∨f.p=3∨f.p=4)∧b.have_%2=0∨(f.p=1∨f.p=2)∧b.have_%2=1)
def zafz:List FrJ→List Bx→Prop
 | [],[]=>True
 | f::r,b::s=>zaki f b∧zafz r s
 | _,_=>False
def InvJ (c:Ck) (st:List FrJ) (dn:Bool):Prop:=(∃s,c= .live s∧zafz st s∧dn=false)∨(c= .done∧st=[]∧dn=true)
def zalk (c:Ck):Prop:=(∃s,c= .live s)∨c= .done
theorem zacg (D e:Nat) (l:List Tk):zaw D (.bad e) l=(.bad e,[]):=by
 induction l with
 | nil=>rfl
 | cons t l ih=>simp only[zaw,tokJ,ih,List.append_nil]
theorem zm7 {b e:Nat} (h:badX (zar b).1=some e):e≠0:=by
 unfold zar at h
 repeat' split at h
 all_goals first |(simp[badX] at h;omega)|(cases h)
theorem zaef {lx:Lx} (hl:badX lx=none) (b:UInt8) {e:Nat} (h:badX (zak lx b).1=some e):e≠0:=by
  cases lx with
  | bad f=>cases hl
  | idle=>exact zm7 h
  | str s t =>
    simp only[zak] at h;split at h
    · cases h
    · split at h
      · rename_i hh
        simp only[badX,Option.some.injEq] at h;omega
      · split at h
        · simp only[badX,Option.some.injEq] at h
          omega
        · cases h
  | num d =>
    simp only[zak] at h;split at h
    · rename_i hh
      simp only[badX,Option.some.injEq] at h;omega
    · split at h
      · cases h
      · split at h
        · rename_i hh
          simp only[badX,Option.some.injEq] at h;omega
        · have hst:= @zm7 b.toNat e
          generalize zar b.toNat=r at h hst;obtain⟨s,l⟩:=r;cases s with
          | bad f=>exact hst h
          | idle=>cases h
          | str _ _=>cases h
          | num _=>cases h
          | word _ _=>cases h
  | word k r =>
    cases r with
    | nil=>simp only[zak,badX,Option.some.injEq] at h;omega
    | cons x q =>
      simp only[zak] at h;split at h
      · split at h <;>cases h
      · simp only[badX,Option.some.injEq] at h
        omega
end
end Go.Proofs.YtpaciekgbhoncaaGreat
