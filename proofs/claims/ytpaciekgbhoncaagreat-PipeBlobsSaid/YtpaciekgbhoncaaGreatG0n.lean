/-
  Parts: StgA, StgB, PipR, PipBd, FmtP.
-/
import Derived.Test.YtpaciekgbhoncaaGreatG0l
import Derived.Test.YtpaciekgbhoncaaGreatG0b
import Derived.Test.YtpaciekgbhoncaaGreatG0a
import Derived.Deep.QuietTactic
import Derived.Test.YtpaciekgbhoncaaGreatG0j
import Derived.Test.YtpaciekgbhoncaaGreatG0f
import Derived.Test.YtpaciekgbhoncaaGreatG0k
import Derived.Lib.Itoa
import Derived.Lib.ItoaMem
set_option maxRecDepth 100000
set_option maxHeartbeats 16000000
open Go.Lib (hid)
namespace Go.Proofs.YtpaciekgbhoncaaGreat
section
open Go.RowKit
open Go.Lib
def cnB (x:Cn):List Value:=[.bool x.m,.int .i64 x.c,.int .i64 (x.at_:Int),.int .i64 (x.n:Int)]
def cnL:List Cn→List Value
 | []=>[]
 | x::r=>cnL r++cnB x
theorem zdy:∀s:List Cn,(cnL s).length=s.length*4
 | []=>rfl
 | x::r=>by rw[cnL,List.length_append,zdy r];simp[cnB];omega
theorem zain:(Tryz.prog.info? 173).map (fun i=>(i.zero,i.size,i.bytes))=some (some (.agg #[.bool false,.int .i64 0,.int .i64 0,.int .i64 0]),4,32):=by kernel_rfl
theorem zqo {w:World} {v:Value} {x:Cn} {r:List Cn} (h:Win w 173 4 v (r.length+1) (cnL r++cnB x)) :
    ∃ g off cap,v= .slice (some ⟨g,off,none⟩) (r.length+1) cap ∧
      (w.cell? ⟨g,off+r.length*4,none⟩=some (.bool x.m)∧w.cell? ⟨g,off+r.length*4+1,none⟩=some (.int .i64 x.c)∧w.cell? ⟨g,off+r.length*4+2,none⟩=some (.int .i64 (x.at_:Int))∧w.cell? ⟨g,off+r.length*4+3,none⟩=some (.int .i64 (x.n:Int))) ∧
      w.frozen? ⟨g,off+r.length*4+3,none⟩=false:=by
  obtain⟨g,off,cap,rfl,h1,h2,_,_,h3⟩:=h.form (by simp);have hl:=zdy r;have hx:∀j u,(cnB x)[j]? = some u→w.cell? ⟨g,off+(r.length*4+j),none⟩=some u∧w.frozen? ⟨g,off+(r.length*4+j),none⟩=false:=fun j u hu=>by
    refine h3 _ u ?_;rw[← hl,List.getElem?_append_right (by omega),Nat.add_sub_cancel_left];exact hu
  have x0:=hx 0 _ rfl;have x1:=hx 1 _ rfl;have x2:=hx 2 _ rfl;have x3:=hx 3 _ rfl;simp only[← Nat.add_assoc,Nat.add_zero] at x0 x1 x2 x3;exact⟨g,off,cap,rfl,⟨x0.1,x1.1,x2.1,x3.1⟩,x3.2⟩
theorem Step.of_below (F:List Nat) {w w':World} (h:Below w.heap.size w w'):Step F F w w':=⟨h.os,h.tape,h.output,h.size,fun k hk _=>h.block k hk,fun _ h=> .inl h⟩
def Sgb (w:World) (b:Nat) (e lim:Nat) (vh:Value) (z:Nat) (vo:Value):Prop:=Blk w b #[.bool true,.int .i64 (e:Int),.int .i64 (lim:Int),vh,.int .i64 (z:Int),vo] 118
theorem zt2 {w:World} {b e lim z:Nat} {vh vo:Value} {x:Cn} {r:List Cn} (h:Sgb w b e lim vh z vo) (hW:Win w 173 4 vo (r.length+1) (cnL r++cnB x)) (hd:r.length≤100000) :
  Calls Tryz.prog 72 #[.pointer (some ⟨b,5,none⟩)] w fun q w'=>q= .returned (.agg #[.bool x.m,.int .i64 x.c,.int .i64 (x.at_:Int),.int .i64 (x.n:Int)]) ∧
   ∃vo',Sgb w' b e lim vh z vo'∧Win w' 173 4 vo' r.length (cnL r)∧Value.owner vo'=Value.owner vo∧Step [b] [b] w w':=by
 have hap:=hW.apart h (by decide);obtain⟨v',hsl,hw',ho'⟩:=hW.hi (P:=Tryz.prog) (t:=116) Tryz.underlying116 (fun w=>by kernel_rfl) r.length (by simp);rw[← zdy,List.take_left] at hw';obtain⟨a',c',rfl,_,_⟩:=hw'.slice_form;obtain⟨g,off,cap,rfl,⟨c0,c1,c2,c3⟩,f3⟩:=zqo hW;have hb:=h.lt;have h5:=h.cell 5;have f5:=h.froz 5;simp only[Value.owner,List.mem_singleton] at hap;have hgb:g≠b:=fun e=>hap e.symm
 have HH:=hid h;have HW:=hid hw';have HO:=hid ho';have hwn:wrap64 (r.length:Int)=(r.length:Int):=by unfold wrap64;omega
 have hwn2:IntKind.i64.wrap (r.length:Int)=(r.length:Int):=by simp only[IntKind.wrap_i64];omega
 have hg:g<w.heap.size:=hW.lt g (by simp[Value.owner]);obtain⟨m,c,at_,n⟩:=x;simp only at c0 c1 c2 c3 ⊢;clear h hW hw' ho' f3;generalize cnL r=XS at *
 generalize r.length=n' at *
 go_enter Tryz.func72,Tryz.ntmps72;go_wp2;simp[bodyPost,results,Tryz.results72,go_sem];refine⟨_,((HH.out.set 5 _).alloc _).alloc _,((HW.out.setCell_far (fun hk=>hgb ?_) _).alloc _).alloc _,HO.out,?_⟩
 ·have:=HO.out▸hk
  simpa [Value.owner,eq_comm] using this
 ·exact((zal [b] w _ _ (by simp)).trans (Step.of_below _ (zaa (zaa (Below.refl _ _) _) _)))
theorem zmo (x:Cn) (hn:x.n≤100000) (w:World) :
  Calls Tryz.prog 73 #[.agg #[.bool x.m,.int .i64 x.c,.int .i64 (x.at_:Int),.int .i64 (x.n:Int)]] w fun q w'=>q= .returned (.agg #[.bool x.m,.int .i64 (cntE x).c])∧Below w.heap.size w w':=by
 obtain⟨m,c,at_,n⟩:=x;simp only[cntE] at *
 have hq:IntKind.i64.wrap ((n:Int).tdiv 2)=((n/2:Nat):Int):=by
  rw[Int.tdiv_eq_ediv_of_nonneg (by omega)];simp only[IntKind.wrap_i64];omega
 by_cases hc:c= -1
 ·subst hc
  have e0:((-1:Int)≠ -1)=False:=by simp
  rw[if_neg (by simp)];cases m
  ·go_enter Tryz.func73,Tryz.ntmps73
   go_wp2;simp[bodyPost,results,Tryz.results73,go_sem];exact zaa (zaa (zaa (Below.refl _ _) _) _) _
  ·go_enter Tryz.func73,Tryz.ntmps73
   go_wp2;simp[bodyPost,results,Tryz.results73,go_sem];exact zaa (zaa (zaa (Below.refl _ _) _) _) _
 ·have h1:(c != -1)=true:=by simpa using hc
  rw[if_pos hc];go_enter Tryz.func73,Tryz.ntmps73;go_wp2;simp[bodyPost,results,Tryz.results73,go_sem];exact zaa (zaa (zaa (Below.refl _ _) _) _) _
theorem zaax {w:World} {x:Cn} {l:Nat} {r:List Cn} {g off cap n:Nat} (_:n=r.length+1) (h:Win w 173 4 (.slice (some ⟨g,off,none⟩) n cap) n (cnL r++cnB x)) :
  Win (w.setCell ⟨g,off+r.length*4+3,none⟩ (.int .i64 (l:Int))) 173 4 (.slice (some ⟨g,off,none⟩) n cap) n (cnL r++cnB ⟨x.m,x.c,x.at_,l⟩):=by
 have hw:=h.store (r.length*4+3) (by rw[List.length_append,zdy];simp[cnB]) (.int .i64 (l:Int));have hx:(cnL r++cnB x).set (r.length*4+3) (.int .i64 (l:Int))=cnL r++cnB ⟨x.m,x.c,x.at_,l⟩:=by
  rw[← zdy,List.set_append,if_neg (by omega),Nat.add_sub_cancel_left];rfl
 rw[hx,← Nat.add_assoc] at hw;exact hw
theorem zux {w:World} {v:Value} {s:List Cn} (h:Win w 173 4 v s.length (cnL s)) (hd:s.length≤100000) (hw:∀x∈s,x.n≤100000) :
    Calls Tryz.prog 69 #[v] w fun r w'=>r= .returned (.tuple #[])∧Win w' 173 4 v s.length (cnL (incN s))∧Step (Value.owner v) (Value.owner v) w w':=by
  cases s with
  | nil =>
    have HH:=hid h;obtain⟨a,cp,rfl,_,_⟩:=h.slice_form;clear h;go_enter Tryz.func69,Tryz.ntmps69;go_wp2
    go_end0
    exact⟨rfl,HH.out,Step.refl _ _⟩
  | cons x r =>
    obtain⟨g,off,cap,rfl,⟨c0,c1,c2,c3⟩,f3⟩:=zqo h;have hx:=hw x (by simp);obtain⟨m,c,at_,l⟩:=x;simp only[List.length_cons] at hd;simp only[List.length_cons,incN,cnL] at *
    have HS:=hid (zaax (l:=l+1) rfl h);rw[Int.natCast_add] at HS;clear h hw c0 c1 c2;generalize cnL r++cnB ⟨m,c,at_,l+1⟩=XS at *
    generalize r.length=n at *
    have hw3:IntKind.i64.wrap ((l:Int)+1)=(l:Int)+1:=by simp only[IntKind.wrap_i64];omega
    have hwn:wrap64 (n:Int)=(n:Int):=by unfold wrap64;omega
    have hwn2:IntKind.i64.wrap (n:Int)=(n:Int):=by simp only[IntKind.wrap_i64];omega
    have hz:((n:Int)≥0)=True:=by simp
    go_enter Tryz.func69,Tryz.ntmps69;go_wp2
    go_end0
    exact⟨rfl,HS.out,zal _ _ _ _ (by simp[Value.owner])⟩
theorem zsy {w W w3:World} {b e lim z n cp c3:Nat} {a a3:Option Addr} {vh:Value} {x:Cn} {r:List Cn} {ob:Obj} (h:Sgb w b e lim vh z (.slice a n cp)) (hV:Win w 173 4 (.slice a n cp) n (cnL r)) (k:Below w.heap.size w W)
    (hW:Win w3 173 4 (.slice a3 (n+1) c3) (n+1) (cnL r++cnB x)) (hG:(W.alloc ob).drew.grownBy w3 (Value.slice a n cp).ownBlock) (hO:(Value.slice a3 (n+1) c3).ownBlock=(Value.slice a n cp).ownBlock∨(Value.slice a3 (n+1) c3).ownBlock=some (W.alloc ob).drew.heap.size∧(W.alloc ob).drew.heap.size<w3.heap.size) :
    (w3.cell? ⟨b,5,none⟩=some (.slice a n cp)∧w3.frozen? ⟨b,5,none⟩=false)∧Sgb (w3.setCell ⟨b,5,none⟩ (.slice a3 (n+1) c3)) b e lim vh z (.slice a3 (n+1) c3)∧Win (w3.setCell ⟨b,5,none⟩ (.slice a3 (n+1) c3)) 173 4 (.slice a3 (n+1) c3) (n+1) (cnL (x::r)) ∧
      Step (b::Value.owner (.slice a n cp)) (b::Value.owner (.slice a3 (n+1) c3)) w (w3.setCell ⟨b,5,none⟩ (.slice a3 (n+1) c3)):=by
  have hb:=h.lt;have hbF:b∉Value.owner (.slice a n cp):=hV.apart h (by decide);have hsz:w.heap.size≤W.heap.size:=k.size;have hold:∀i,i<w.heap.size→i∉Value.owner (.slice a n cp)→w3.heap[i]? = w.heap[i]? := by
    intro i hi hiF;refine(hG.block i (by show i<(W.alloc ob).heap.size;simp;omega) (fun e=>hiF ((zad _ _).1 e.symm))).trans ?_;exact(Below.heap_alloc W ob i (by omega)).trans (k.block i hi)
  have hblk:=hold b hb hbF;have h3:Sgb w3 b e lim vh z (.slice a n cp):=hblk.trans h;have hap3:b∉Value.owner (.slice a3 (n+1) c3):=hW.apart h3 (by decide);refine⟨⟨h3.cell 5,h3.froz 5⟩,h3.set 5 _,hW.setCell_far hap3 _,?_⟩;have hstep:Step (b::Value.owner (.slice a n cp)) (b::Value.owner (.slice a3 (n+1) c3)) w w3:=by
    refine⟨hG.os.trans k.os,hG.tape.trans k.tape,hG.output.trans k.output,Nat.le_trans ?_ hG.size,fun i hi hiF=>hold i hi (fun e=>hiF (List.mem_cons_of_mem _ e)),fun i hi=> ?_⟩
    · show w.heap.size≤(W.alloc ob).heap.size
      simp;omega
    · rcases List.mem_cons.1 hi with rfl|hi
      · exact .inl (by simp)
      · rcases hO with e|⟨e,_⟩
        · exact .inl (List.mem_cons_of_mem _ ((zad _ _).1 (e▸(zad _ _).2 hi)))
        · right
          have h2:=(zad _ _).2 hi;rw[e] at h2;cases h2;show w.heap.size≤(W.alloc ob).heap.size;simp;omega
  exact hstep.trans (zal _ _ _ _ (by simp))
theorem zuz {w:World} {b e lim z:Nat} {vh vo:Value} {r:List Cn} (h:Sgb w b e lim vh z vo) (hW:Win w 173 4 vo r.length (cnL r)) (hd:r.length≤100000) (x:Cn) :
  Calls Tryz.prog 70 #[.pointer (some ⟨b,5,none⟩),.agg #[.bool x.m,.int .i64 x.c,.int .i64 (x.at_:Int),.int .i64 (x.n:Int)]] w fun q w'=>q= .returned (.tuple #[]) ∧
   ∃vo',Sgb w' b e lim vh z vo'∧Win w' 173 4 vo' (r.length+1) (cnL (x::r))∧Step (b::Value.owner vo) (b::Value.owner vo') w w':=by
 obtain⟨a,cp,rfl,_,_⟩:=hW.slice_form;obtain⟨n,hn⟩:∃n,r.length=n:=⟨_,rfl⟩
 obtain⟨m,c,at_,q⟩:=x;simp only;have hb:=h.lt;have hbel:Below w.heap.size w (w.alloc (.cells #[.bool m,.int .i64 c,.int .i64 (at_:Int),.int .i64 (q:Int)] 173)):=zaa (Below.refl _ _) _;have E2:Hid (Blk (w.alloc (.cells #[.bool m,.int .i64 c,.int .i64 (at_:Int),.int .i64 (q:Int)] 173)) w.heap.size #[.bool m,.int .i64 c,.int .i64 (at_:Int),.int .i64 (q:Int)] 173):=hid (zag w _ _);rw[hn] at h hW hd ⊢;have hA2:Sgb (w.alloc (.cells #[.bool m,.int .i64 c,.int .i64 (at_:Int),.int .i64 (q:Int)] 173)) b e lim vh z (.slice a n cp):=h.alloc _;have WD:∀y,Hid (Win ((w.alloc (.cells #[.bool m,.int .i64 c,.int .i64 (at_:Int),.int .i64 (q:Int)] 173)).alloc y).drew 173 4 (.slice a n cp) n (cnL r)):=fun y=>hid ((hW.alloc _).alloc y)
 have h5:=hA2.cell 5;have f5:∀y,((w.alloc (.cells #[.bool m,.int .i64 c,.int .i64 (at_:Int),.int .i64 (q:Int)] 173)).alloc y).cell? ⟨b,5,none⟩=some (.slice a n cp):=fun y=>(hA2.alloc y).cell 5
 have h0:=E2.out.cell 0;have h1:=E2.out.cell 1;have h2:=E2.out.cell 2;have h3:=E2.out.cell 3;have e0:∀y,((w.alloc (.cells #[.bool m,.int .i64 c,.int .i64 (at_:Int),.int .i64 (q:Int)] 173)).alloc y).cell? ⟨w.heap.size,0,none⟩=some (.bool m):=fun y=>(E2.out.alloc y).cell 0
 have e1:∀y,((w.alloc (.cells #[.bool m,.int .i64 c,.int .i64 (at_:Int),.int .i64 (q:Int)] 173)).alloc y).cell? ⟨w.heap.size,1,none⟩=some (.int .i64 c):=fun y=>(E2.out.alloc y).cell 1
 have e2:∀y,((w.alloc (.cells #[.bool m,.int .i64 c,.int .i64 (at_:Int),.int .i64 (q:Int)] 173)).alloc y).cell? ⟨w.heap.size,2,none⟩=some (.int .i64 (at_:Int)):=fun y=>(E2.out.alloc y).cell 2
 have e3:∀y,((w.alloc (.cells #[.bool m,.int .i64 c,.int .i64 (at_:Int),.int .i64 (q:Int)] 173)).alloc y).cell? ⟨w.heap.size,3,none⟩=some (.int .i64 (q:Int)):=fun y=>(E2.out.alloc y).cell 3
 have HE:=hid (fun(w3:World) (a3:Option Addr) (c3:Nat) ob hW' hG hO=>zsy (W:=w.alloc (.cells #[.bool m,.int .i64 c,.int .i64 (at_:Int),.int .i64 (q:Int)] 173)) (w3:=w3) (a3:=a3) (c3:=c3) (x:=⟨m,c,at_,q⟩) (ob:=ob) h hW hbel hW' hG hO);simp only[cnB] at HE;clear h hbel hA2 hb E2 hW hn;go_enter Tryz.func70,Tryz.ntmps70;go_wp2;generalize (w.alloc (.cells #[.bool m,.int .i64 c,.int .i64 (at_:Int),.int .i64 (q:Int)] 173))=W at *
 go_region_law (first
  |(refine zax rfl _ _ _ rfl Tryz.underlying116 zain rfl rfl (WD _).out _ rfl 1 _ (zcl _ Tryz.underlying116 4 1 [.bool m,.int .i64 c,.int .i64 (at_:Int),.int .i64 (q:Int)] 173 _ rfl (by simp[Value.oneCell']) (heap_alloc_new _ _)) (by unfold maxLen;omega) (by omega) ?_;intro v3 w3 hW3 hG3 hO3;obtain⟨a3,c3,rfl,_,_⟩:=Win.slice_form hW3.out;have HP:=hid (HE.out w3 a3 c3 _ hW3.out hG3.out hO3.out);have g0:=HP.out.1.1;have g1:=HP.out.1.2;clear hW3 hG3 hO3))
 all_goals
  go_wp2
  go_end0
  exact⟨rfl,_,HP.out.2⟩
end
section
open Go.RowKit
open Go.Lib
def StG (w:World) (b lim:Nat) (vh vo:Value):Gs→Prop
 | .bad=>Sgb w b 10 0 (.slice none 0 0) 0 (.slice none 0 0)∧vh= .slice none 0 0∧vo= .slice none 0 0
 | .live z H op=>Sgb w b 0 lim vh z vo∧Win w 20 1 vh H.length (H.map valE)∧Win w 173 4 vo op.length (cnL op)
def errG:Gs→Nat
 | .bad=>10
 | .live _ _ _=>0
def limG (lim:Nat):Gs→Nat
 | .bad=>0
 | .live _ _ _=>lim
theorem StG.sgb {w:World} {b lim:Nat} {vh vo:Value} {s:Gs} (h:StG w b lim vh vo s):Sgb w b (errG s) (limG lim s) vh (zale s) vo:=by
 cases s with
 | bad=>obtain⟨h,rfl,rfl⟩:=h;exact h
 | live z H op=>exact h.1
theorem StG.rows {w:World} {b lim:Nat} {vh vo:Value} {s:Gs} (h:StG w b lim vh vo s):∃n m xs ys,Win w 20 1 vh n xs∧Win w 173 4 vo m ys∧zafv s=(decide (errG s=0)&&decide (n=0)):=by
 cases s with
 | bad=>obtain⟨h,rfl,rfl⟩:=h;exact⟨0,0,[],[],Win.nil_ _ _ _,Win.nil_ _ _ _,rfl⟩
 | live z H op=>exact⟨_,_,_,_,h.2.1,h.2.2,by simp[zafv,errG]⟩
theorem zjg {w:World} {b e lim z:Nat} {vh vo:Value} (h:Sgb w b e lim vh z vo) :
  Calls Tryz.prog 61 #[.pointer (some ⟨b,0,none⟩)] w fun r w'=>r= .returned (.int .i64 (e:Int))∧w=w':=by
 have c0:=h.cell 0;have c1:=h.cell 1;clear h;go_enter Tryz.func61,Tryz.ntmps61;go_wp2;go_ret;exact⟨rfl,rfl⟩
theorem zabk (lim:Int) (w:World) :
  Calls Tryz.prog 42 #[.int .i64 lim] w fun r w'=>r= .returned (.pointer (some ⟨w.heap.size,0,none⟩))∧StG w' w.heap.size (min (max lim 0) 2000).toNat (.slice none 0 0) (.slice none 0 0) gs0∧Below w.heap.size w w':=by
 have hl:((min (max lim 0) 2000).toNat:Int)=min (max lim 0) 2000:=by omega
 have hF:∀W:World,Blk W w.heap.size #[.bool true,.int .i64 0,.int .i64 (min (max lim 0) 2000),.slice none 0 0,.int .i64 0,.slice none 0 0] 118→StG W w.heap.size (min (max lim 0) 2000).toNat (.slice none 0 0) (.slice none 0 0) gs0:=fun W hB=>by
  refine⟨?_,Win.nil_ _ _ _,Win.nil_ _ _ _⟩;unfold Sgb;rw[hl];exact hB
 have HF:=hid hF;clear hF hl;generalize (min (max lim 0) 2000).toNat=L at *
 go_enter Tryz.func42,Tryz.ntmps42;go_wp2;go_ret;exact⟨rfl,HF.out _ (zag _ _ _),zaa (Below.refl _ _) _⟩
theorem zae9 (v:Value) (X:Ev) (hX:X.t.size≤1000) (hP:∀w,Calls Tryz.prog 67 #[v] w fun r w'=>r= .returned (.tuple #[evV X,.bool true])∧Below w.heap.size w w') (w:World) :
  Calls Tryz.prog 62 #[v] w fun r w'=>r= .returned (.int .i64 (1+(X.t.size:Int)))∧Below w.heap.size w w':=by
 obtain⟨k,y,m,t,c⟩:=X;have hX:(t.size:Int)≤1000:=by exact Int.ofNat_le.2 hX
 have HP:=hid hP;clear hP;go_enter Tryz.func62,Tryz.ntmps62;(go_wp2_with fail);refine(HP.out _).mono ?_;rintro e w1 ⟨rfl,hb⟩;have h1:=hid hb;clear hb;simp only[evV];go_wp2;go_ret;exact⟨rfl,zaa h1.out _⟩
theorem zf4 (e:Ev) (he:mayE e) (ht:sizG e≤1000) (w:World) :
  Calls Tryz.prog 62 #[valE e] w fun r w'=>r= .returned (.int .i64 (sizG e:Int))∧Below w.heap.size w w':=by
 have:=zae9 (valE e) (zfi e) (by unfold sizG at ht;omega) (zgf e he) w;simpa [sizG] using this
theorem zfa {w:World} {b e lim z n:Nat} {vh:Value} {a:Option Addr} {cp:Nat} (h:Sgb w b e lim vh z (.slice a n cp)) (p:Ev) (hp:mayE p) :
  Calls Tryz.prog 63 #[.pointer (some ⟨b,0,none⟩),valE p] w fun r w'=>r= .returned (.bool (decide (n=0∧¬opnE p)))∧Below w.heap.size w w':=by
 have hA:=zdi p hp;have c5:=fun x=>(h.alloc (w:=w) x).cell 5
 obtain⟨k,y,m,t,c⟩:=p;simp only[opnE] at *
 generalize valE ⟨k,y,m,t,c⟩=V at *
 clear h hp;by_cases hk:k=5∨k=6
 ·rw[if_pos hk,decide_eq_true hk] at hA
  have e1:(c== -1)=decide (c= -1):=by rw[Bool.eq_iff_iff,beq_iff_eq,decide_eq_true_eq]
  have e2:((n:Int)==0)=decide (n=0):=by rw[Bool.eq_iff_iff,beq_iff_eq,decide_eq_true_eq];omega
  simp only[hk,true_and];rw[Bool.decide_and,decide_not];clear hk;generalize decide (k=6)=K at *
  generalize decide (c= -1)=D at *
  generalize decide (n=0)=N at *
  go_enter Tryz.func63,Tryz.ntmps63;cases N
  ·go_wp2
   go_ret;exact⟨by simp,zaa (Below.refl _ _) _⟩
  ·go_wp2
   go_ret;exact⟨by simp,zaa (Below.refl _ _) _⟩
 ·rw[if_neg hk,decide_eq_false hk] at hA
  have e2:((n:Int)==0)=decide (n=0):=by rw[Bool.eq_iff_iff,beq_iff_eq,decide_eq_true_eq];omega
  simp only[hk,false_and,not_false_eq_true,and_true];clear hk;generalize decide (k=6)=K at *
  generalize decide (n=0)=N at *
  go_enter Tryz.func63,Tryz.ntmps63;cases N
  ·go_wp2
   go_ret;exact⟨by simp,zaa (Below.refl _ _) _⟩
  ·go_wp2
   go_ret;exact⟨by simp,zaa (Below.refl _ _) _⟩
theorem zij {w:World} {b e lim z n:Nat} {vh:Value} {a:Option Addr} {cp:Nat} (h:Sgb w b e lim vh z (.slice a n cp)) (p:Ev) (hp:mayE p) :
  Calls Tryz.prog 64 #[.pointer (some ⟨b,0,none⟩),valE p] w fun r w'=>r= .returned (.bool (decide (p.k=7∧n=1)))∧Below w.heap.size w w':=by
 have hA:=zct p hp;have c5:=fun x=>(h.alloc (w:=w) x).cell 5
 obtain⟨k,y,m,t,c⟩:=p;simp only at *
 generalize valE ⟨k,y,m,t,c⟩=V at *
 have e2:((n:Int)==1)=decide (n=1):=by rw[Bool.eq_iff_iff,beq_iff_eq,decide_eq_true_eq];omega
 rw[Bool.decide_and];clear h hp;generalize decide (k=7)=K at *
 generalize decide (n=1)=N at *
 go_enter Tryz.func64,Tryz.ntmps64;cases K
 ·go_wp2
  go_ret;exact⟨by simp,zaa (Below.refl _ _) _⟩
 ·go_wp2
  go_ret;exact⟨by simp,zaa (Below.refl _ _) _⟩
end
section
open Go.RowKit
open Go.Lib
def suV (f t D S L:Int):Value:= .agg #[.int .i64 f,.int .i64 t,.int .i64 D,.int .i64 S,.int .i64 L]
def fmtP (f:Int):Prop:=f=1∨f=2∨f=3
instance (f:Int):Decidable (fmtP f):=by unfold fmtP;infer_instance
def inP3 (n a b:Int):Prop:=a≤n∧n≤b
instance (n a b:Int):Decidable (inP3 n a b):=by unfold inP3;infer_instance
def zbf (f t D S L:Int):Prop:=fmtP f∧fmtP t∧inP3 D 1 16∧inP3 S 0 2000∧inP3 L 0 255
instance (f t D S L:Int):Decidable (zbf f t D S L):=by unfold zbf;infer_instance
theorem zmu (n:Int) (w:World):Calls Tryz.prog 36 #[.int .i64 n] w fun r w'=>r= .returned (.bool (decide (fmtP n)))∧w=w':=by
 by_cases h1:n=1
 ·subst h1
  go_enter Tryz.func36,Tryz.ntmps36;go_wp2;go_ret;exact⟨rfl,rfl⟩
 ·by_cases h2:n=2
  ·subst h2
   go_enter Tryz.func36,Tryz.ntmps36;go_wp2;go_ret;exact⟨rfl,rfl⟩
  ·have e1:(n==1)=false:=by rw[beq_eq_false_iff_ne];exact h1
   have e2:(n==2)=false:=by rw[beq_eq_false_iff_ne];exact h2
   have e3:(n==3)=decide (fmtP n):=by rw[Bool.eq_iff_iff,beq_iff_eq,decide_eq_true_eq];unfold fmtP;omega
   generalize decide (fmtP n)=B at *
   clear h1 h2;go_enter Tryz.func36,Tryz.ntmps36;go_wp2;go_ret;exact⟨rfl,rfl⟩
theorem zlm (n a b:Int) (w:World):Calls Tryz.prog 37 #[.int .i64 n,.int .i64 a,.int .i64 b] w fun r w'=>r= .returned (.bool (decide (inP3 n a b)))∧w=w':=by
 by_cases h1:a≤n
 ·have e1:(a≤n)=True:=by simp[h1]
  by_cases h2:n≤b
  ·have e2:(n≤b)=True:=by simp[h2]
   rw[decide_eq_true (show inP3 n a b from⟨h1,h2⟩)];clear h1 h2;go_enter Tryz.func37,Tryz.ntmps37;go_wp2;go_ret;exact⟨rfl,rfl⟩
  ·have e2:(n≤b)=False:=by simp only[eq_iff_iff,iff_false];omega
   rw[decide_eq_false (fun h:inP3 n a b=>h2 h.2)];clear h1 h2;go_enter Tryz.func37,Tryz.ntmps37;go_wp2;go_ret;exact⟨rfl,rfl⟩
 ·have e1:(a≤n)=False:=by simp only[eq_iff_iff,iff_false];omega
  rw[decide_eq_false (fun h:inP3 n a b=>h1 h.1)];clear h1;go_enter Tryz.func37,Tryz.ntmps37;go_wp2;go_ret;exact⟨rfl,rfl⟩
theorem zee (f t D S L:Int) (w:World):Calls Tryz.prog 23 #[suV f t D S L] w fun r w'=>r= .returned (.bool (decide (zbf f t D S L)))∧Below w.heap.size w w':=by
  have HB:=hid (zaa (Below.refl w.heap.size w) (.cells #[.int .i64 f,.int .i64 t,.int .i64 D,.int .i64 S,.int .i64 L] 23));have H1:=hid (fun W=>zmu f W);have H2:=hid (fun W=>zmu t W);have H3:=hid (fun W=>zlm D 1 16 W);have H4:=hid (fun W=>zlm S 0 2000 W);have H5:=hid (fun W=>zlm L 0 255 W);have hR:decide (zbf f t D S L)=(decide (fmtP f)&&(decide (fmtP t)&&(decide (inP3 D 1 16)&&(decide (inP3 S 0 2000)&&decide (inP3 L 0 255))))):=by
    rw[Bool.eq_iff_iff];simp only[decide_eq_true_eq,Bool.and_eq_true];rfl
  rw[hR];clear hR;generalize decide (fmtP f)=B1 at *
  generalize decide (fmtP t)=B2 at *
  generalize decide (inP3 D 1 16)=B3 at *
  generalize decide (inP3 S 0 2000)=B4 at *
  generalize decide (inP3 L 0 255)=B5 at *
  unfold suV;cases B1 with
  | false =>
    go_enter Tryz.func23,Tryz.ntmps23;(go_wp2_with fail);refine(H1.out _).mono ?_;rintro r w1 ⟨rfl,rfl⟩;go_wp2;go_ret;exact⟨rfl,HB.out⟩
  | true =>
    cases B2 with
    | false =>
      go_enter Tryz.func23,Tryz.ntmps23;(go_wp2_with fail);refine(H1.out _).mono ?_;rintro r w1 ⟨rfl,rfl⟩;(go_wp2_with fail);refine(H2.out _).mono ?_;rintro r w1 ⟨rfl,rfl⟩;go_wp2;go_ret;exact⟨rfl,HB.out⟩
    | true =>
      cases B3 with
      | false =>
        go_enter Tryz.func23,Tryz.ntmps23;(go_wp2_with fail);refine(H1.out _).mono ?_;rintro r w1 ⟨rfl,rfl⟩;(go_wp2_with fail);refine(H2.out _).mono ?_;rintro r w1 ⟨rfl,rfl⟩;(go_wp2_with fail);refine(H3.out _).mono ?_;rintro r w1 ⟨rfl,rfl⟩;go_wp2;go_ret;exact⟨rfl,HB.out⟩
      | true =>
        cases B4 with
        | false =>
          go_enter Tryz.func23,Tryz.ntmps23;(go_wp2_with fail);refine(H1.out _).mono ?_;rintro r w1 ⟨rfl,rfl⟩;(go_wp2_with fail);refine(H2.out _).mono ?_;rintro r w1 ⟨rfl,rfl⟩;(go_wp2_with fail);refine(H3.out _).mono ?_;rintro r w1 ⟨rfl,rfl⟩;(go_wp2_with fail);refine(H4.out _).mono ?_;rintro r w1 ⟨rfl,rfl⟩;go_wp2;go_ret;exact⟨rfl,HB.out⟩
        | true =>
          go_enter Tryz.func23,Tryz.ntmps23;(go_wp2_with fail);refine(H1.out _).mono ?_;rintro r w1 ⟨rfl,rfl⟩;(go_wp2_with fail);refine(H2.out _).mono ?_;rintro r w1 ⟨rfl,rfl⟩;(go_wp2_with fail);refine(H3.out _).mono ?_;rintro r w1 ⟨rfl,rfl⟩;(go_wp2_with fail);refine(H4.out _).mono ?_;rintro r w1 ⟨rfl,rfl⟩;(go_wp2_with fail);refine(H5.out _).mono ?_;rintro r w1 ⟨rfl,rfl⟩;go_wp2;go_ret;exact⟨rfl,HB.out⟩
structure SuI (w W:World) (f t D S L:Int):Prop where
 bel:Below w.heap.size w W
 blk:Blk W w.heap.size #[.int .i64 f,.int .i64 t,.int .i64 D,.int .i64 S,.int .i64 L] 23
theorem SuI.go {w W W2:World} {f t D S L:Int} (h:SuI w W f t D S L) (k:Below W.heap.size W W2):SuI w W2 f t D S L:=⟨zab h.bel k,h.blk.go k⟩
theorem SuI.drew {w W:World} {f t D S L:Int} (h:SuI w W f t D S L):SuI w W.drew f t D S L:=⟨zbj h.bel,h.blk.drew⟩
theorem SuI.cells {w W:World} {f t D S L:Int} (h:SuI w W f t D S L):W.cell? ⟨w.heap.size,0,none⟩=some (.int .i64 f)∧W.cell? ⟨w.heap.size,1,none⟩=some (.int .i64 t)∧W.cell? ⟨w.heap.size,2,none⟩=some (.int .i64 D)∧W.cell? ⟨w.heap.size,3,none⟩=some (.int .i64 S)∧W.cell? ⟨w.heap.size,4,none⟩=some (.int .i64 L) :=
 ⟨h.blk.cell 0,h.blk.cell 1,h.blk.cell 2,h.blk.cell 3,h.blk.cell 4⟩
end
section
open Go.RowKit
open Go.Lib
def BdAt (w:World) (B b:Nat) (G:List Nat) (l:List UInt8):Prop :=
 ∃p v,(p= .pointer none∨p= .pointer (some ⟨b,0,none⟩))∧Blk w b #[p,v] 59∧B≤b∧w.ownsRowF B 5 1 v l.length (Lib.byteCells l)∧Win w 5 1 v l.length (Lib.byteCells l)∧v.ownBlock≠some b∧G=Value.owner v
theorem BdAt.isB {w:World} {B b:Nat} {G:List Nat} {l:List UInt8} (h:BdAt w B b G l):IsB B b l w:=by
 obtain⟨p,v,hp,hb,hB,ho,_,hn,_⟩:=h;have:Lib.BuilderAtF 59 5 B b p (Lib.byteCells l) w:=⟨hB,v,hb,by rw[Lib.byteCells_length];exact ho,hn⟩
 rcases hp with rfl|rfl
 ·exact .inl this
 ·exact .inr this
theorem BdAt.lt {w:World} {B b:Nat} {G:List Nat} {l:List UInt8} (h:BdAt w B b G l):b<w.heap.size∧(∀k∈G,k<w.heap.size∧B≤k∧k≠b):=by
 obtain⟨p,v,hp,hb,hB,ho,hwn,hn,rfl⟩:=h;refine⟨hb.lt,fun k hk=> ?_⟩;have hk':=(zad v k).2 hk;obtain⟨h1,h2⟩:=ho.lt k hk';exact⟨h2,h1,fun e=>hn (e▸hk')⟩
theorem BdAt.keep {w w':World} {B b:Nat} {G:List Nat} {l:List UInt8} (h:BdAt w B b G l) (hk:∀k,k=b∨k∈G→w'.heap[k]? = w.heap[k]?):BdAt w' B b G l:=by
 obtain⟨p,v,hp,hb,hB,ho,hwn,hn,rfl⟩:=h;refine⟨p,v,hp,(hk b (.inl rfl)).trans hb,hB,⟨ho.1,?_⟩,hwn.keep fun k hk'=>hk k (.inr hk'),hn,rfl⟩;rcases ho.2 with h0|⟨g,cap,cur,fz,hv,h1,h2,r⟩
 ·exact .inl h0
 ·exact .inr ⟨g,cap,cur,fz,hv,h1,(hk g (.inr (by rw[hv];simp[Value.owner]))).trans h2,r⟩
theorem zaj0 (w:World):BdAt (w.alloc (.cells #[.pointer none,.slice none 0 0] 59)) w.heap.size w.heap.size [] [] :=
 ⟨_,_,.inl rfl,zag _ _ _,Nat.le_refl _,World.ownsRowF_nil _ _ _ _,Win.nil_ _ _ _,by simp[Value.ownBlock],rfl⟩
theorem zaeb {w:World} {b:Nat} {p v:Value} (hp:p= .pointer none∨p= .pointer (some ⟨b,0,none⟩)) (hb:Blk w b #[p,v] 59) :
  Calls Tryz.prog 45 #[.pointer (some ⟨b,0,none⟩)] w fun e w'=>e= .returned (.tuple #[])∧Blk w' b #[.pointer (some ⟨b,0,none⟩),v] 59∧Step [b] [b] w w'∧(∀k,k≠b→w'.heap[k]? = w.heap[k]?)∧w'.heap.size=w.heap.size:=by
 rcases hp with rfl|rfl
 ·refine(Go.Proofs.Any.Builder_copyCheck_fresh {zpm with} builder_Extra166.toX72 b w (hb.cell 0) (by unfold Blk at hb;simp[World.shape?,hb];rfl) (hb.froz 0)).mono ?_
  rintro e w' ⟨rfl,rfl⟩;exact⟨rfl,by have:=hb.set 0 (.pointer (some ⟨b,0,none⟩));simpa using this,zal _ _ _ _ (by simp),fun k hk=>Below.heap_setCell w _ _ k hk,by simp⟩
 ·refine(Go.Proofs.Any.Builder_copyCheck_used {zpm with} builder_Extra166.toX72 b w (hb.cell 0)).mono ?_
  rintro e w' ⟨rfl,rfl⟩;exact⟨rfl,hb,Step.refl _ _,fun _ _=>rfl,rfl⟩
theorem zhk {P:Program} {w:World} {e t:TypeId} {v:Value} {n:Nat} {xs:List Value} {B:Nat} {ops:Array Oper} {rest:List Oper} {o:Oper} {a:Act} {Q:Exit→Act→World→Prop} (hgd:o.guard=none) (sl x:Operand) (tx:TypeId)
  (ho:o.op= .call {callee:= .builtin .append,args:=#[sl,x],argTypes:=#[t,tx]}) (i:TypeInfo)
  (ht:P.underlying t=some (.slice e)) (hu:P.underlying tx=some .string) (hi:P.info? e=some i) (hz:i.zero=some (.int .u8 0)) (hsize:i.size=1) (hby:i.bytes=1)
  (hs:a.eval sl=v) (h:Win w e 1 v n xs) (hown:w.ownsRowF B e 1 v n xs) (s:ByteArray) (hx:a.eval x= .string s) (h63:n+s.size≤maxLen) (hbytes:n+s.size≤140737488355328) (hbase:B≤w.heap.size)
  (hk:∀v' w',Hid (Win w' e 1 v' (n+s.size) (xs++Lib.strCells s))→Hid (w'.ownsRowF B e 1 v' (n+s.size) (xs++Lib.strCells s))→Hid (w.grownBy w' v.ownBlock)→Hid (v'.ownBlock=v.ownBlock∨v'.ownBlock=some w.heap.size∧w.heap.size<w'.heap.size)→wpList P ops Q rest (a.put o.dst v') w'):wpList P ops Q (o::rest) a w:=by
 refine wpList_plain hgd fun K hK=> ?_
 obtain⟨v',w',hr,h2,h3,h4⟩:=h.append (ty:=o.type) ht hi hz hsize rfl (by rfl) (.string s) s.size (Lib.strCells s) (by have:=Src.ofString (P:=P) (w:=w) hu s;exact this) h63 (by rw[hby];omega);obtain⟨v2,w2,hr2,g2,_,_⟩:=run_append_own_stringF (P:=P) w B t tx o.type e i ht hu hi hz hsize hby v n xs hown s h63 hbytes hbase;have e:=hr.symm.trans hr2
 injection e with e1 e2
 subst e1 e2;unfold Oper.wp execOp;simp only[ho,resolve,invoke,builtin,Sem.run_bind,Sem.run_pure,Result.andThen_ok,List.map_toArray,List.map_cons,List.map_nil,hs,hx,hr];exact hK _ _ (hk v' w' h2 g2 h3 h4)
theorem zafe {w:World} {B b:Nat} {G:List Nat} {l:List UInt8} (h:BdAt w B b G l) (s:ByteArray) (hlen:l.length+s.size≤140737488355328) (hBw:B≤w.heap.size) :
    Calls Tryz.prog 28 #[.pointer (some ⟨b,0,none⟩),.string s] w fun e w'=>e= .returned (.tuple #[.int .i64 s.size,.nilIface])∧∃G',BdAt w' B b G' (l++s.data.toList)∧Step (b::G) (b::G') w w'∧Below B w w':=by
  obtain⟨p,v,hp,hb,hB,ho,hwn,hn,rfl⟩:=h;obtain⟨i0,hi,hz0,hz1,hz2⟩:=info_parts builder_Extra166.infoByte;have HC:=hid (zaeb hp hb);have HL:=hid hb.lt;have HO:Hid (∀w1:World,(∀k:Nat,k≠b→w1.heap[k]? = w.heap[k]?)→w1.ownsRowF B 5 1 v l.length (Lib.byteCells l)∧Win w1 5 1 v l.length (Lib.byteCells l)):=hid (fun w1 hk=>⟨⟨ho.1,ho.2.imp id (fun⟨g,cap,cur,fz,hv,h1,h2,r⟩=>⟨g,cap,cur,fz,hv,h1,(hk g (fun e=>hn (by rw[hv,e];rfl))).trans h2,r⟩)⟩,hwn.keep fun k hk'=>hk k (fun e=>hn (by rw[← e];exact(zad v k).2 hk'))⟩);have HN:=hid (And.intro hn hB);have HLO:=hid (fun k hk=>ho.lt k hk);clear hp hb ho hn hwn;go_enter Tryz.func28,Tryz.ntmps28;(go_wp2_with fail);refine HC.out.mono ?_;rintro e w1 ⟨rfl,b1,s1,k1,z1⟩;have c0:=b1.cell 0;have c1:=b1.cell 1;have f1:=b1.froz 1;have HB1:=hid b1;have HS1:=hid (And.intro s1 (And.intro k1 z1));clear b1 s1 k1 z1 HC
  go_wp2_with (at_builtin;refine zhk rfl _ _ 9 rfl i0 Tryz.underlying30 Tryz.underlying9 hi hz0 hz1 hz2 rfl (HO.out _ HS1.out.2.1).2 (HO.out _ HS1.out.2.1).1 s rfl ?c3 ?c4 ?c5 ?_)
  case c3=>unfold maxLen;omega
  case c4=>omega
  case c5=>have:=HS1.out.2.2;omega
  intro v' w2 hwin hown hgrow hobl;have hn:=HN.out.1;have hlt1:b<w1.heap.size:=by have:=HL.out;have:=HS1.out.2.2;omega
  have hb2:Blk w2 b #[.pointer (some ⟨b,0,none⟩),v] 59:=(hgrow.out.block b hlt1 (fun e=>hn e.symm)).trans HB1.out;have d0:=hb2.cell 0;have d1:=hb2.cell 1;have g1:=hb2.froz 1;obtain⟨a',cap,rfl,_,_⟩:=hwin.out.slice_form;have hne:(Value.slice a' (l.length+s.size) cap).ownBlock≠some b:=fun e=>hobl.out.elim (fun h=>hn (h.symm.trans e)) (fun h=>by
    have:=h.1.symm.trans e;simp only[Option.some.injEq] at this;omega)
  have hfb:∀k,k≠b→(w2.setCell ⟨b,1,none⟩ (.slice a' (l.length+s.size) cap)).heap[k]? = w2.heap[k]? := fun k hk=>Below.heap_setCell w2 _ _ k hk
  have hbc:Lib.byteCells (l++s.data.toList)=Lib.byteCells l++Lib.strCells s:=by rw[Lib.byteCells_append];rfl
  have hln:(l++s.data.toList).length=l.length+s.size:=by simp
  have hGv:∀k∈Value.owner v,B≤k∧k<w.heap.size:=fun k hk=>HLO.out k ((zad v k).2 hk)
  have hst:Step (b::Value.owner v) (b::Value.owner (.slice a' (l.length+s.size) cap)) w (w2.setCell ⟨b,1,none⟩ (.slice a' (l.length+s.size) cap)):=by
    refine⟨hgrow.out.os.trans HS1.out.1.os,hgrow.out.tape.trans HS1.out.1.tape,hgrow.out.output.trans HS1.out.1.output,by have:=hgrow.out.size;have:=HS1.out.2.2;simp only[World.setCell,Array.size_modify];omega,fun k hk hkn=> ?_,fun k hk=> ?_⟩
    · have hkb:k≠b:=fun e=>hkn (by simp[e])
      have hkv:some k≠v.ownBlock:=fun e=>hkn (by simp[(zad v k).1 e.symm])
      rw[hfb k hkb,hgrow.out.block k (by have:=HS1.out.2.2;omega) hkv,HS1.out.2.1 k hkb]
    · rcases List.mem_cons.1 hk with rfl|hk
      · exact .inl (by simp)
      · have hk':=(zad _ k).2 hk
        rcases hobl.out with h|h
        · rw[hk'] at h
          exact .inl (by simp[(zad v k).1 h.symm])
        · have:=h.1.symm.trans hk'
          simp only[Option.some.injEq] at this;exact .inr (by have:=HS1.out.2.2;omega)
  have hbd:BdAt (w2.setCell ⟨b,1,none⟩ (.slice a' (l.length+s.size) cap)) B b (Value.owner (.slice a' (l.length+s.size) cap)) (l++s.data.toList):=by
    refine⟨_,_,.inr rfl,by have:=hb2.set 1 (.slice a' (l.length+s.size) cap);simpa using this,HN.out.2,?_,?_,hne,rfl⟩
    · rw[hbc,hln]
      exact⟨hown.out.1,hown.out.2.imp id (fun⟨g,c2,cur,fz,hv,h1,h2,r⟩=>⟨g,c2,cur,fz,hv,h1,(hfb g (fun e=>hne (by rw[hv,e];rfl))).trans h2,r⟩)⟩
    · rw[hbc,hln]
      exact hwin.out.keep fun k hk=>hfb k (fun e=>hne (by rw[← e];exact(zad _ k).2 hk))
  have HF:Hid (BdAt (w2.setCell ⟨b,1,none⟩ (.slice a' (l.length+s.size) cap)) B b (Value.owner (.slice a' (l.length+s.size) cap)) (l++s.data.toList)∧Step (b::Value.owner v) (b::Value.owner (.slice a' (l.length+s.size) cap)) w (w2.setCell ⟨b,1,none⟩ (.slice a' (l.length+s.size) cap))∧Below B w (w2.setCell ⟨b,1,none⟩ (.slice a' (l.length+s.size) cap))):=hid ⟨hbd,hst,hst.below (fun k hk=>(List.mem_cons.1 hk).elim (fun e=>e▸HN.out.2) (fun hk=>(hGv k hk).1)) hBw⟩;clear hwin hown hgrow hobl hb2 hn hne hfb hbc hln hGv hst hbd hlt1;go_wp2;go_ret2;exact⟨rfl,_,HF.out⟩
end
section
open Go.Lib
def dgX (n u t:Nat):UInt8:=if t=0∧n%2=1 then UInt8.ofNat (48+u/10^(n-1)) else dg u (n-1-t)
def fmtL (n u:Nat):List UInt8:=(List.range n).map (dgX n u)
theorem zlq (n u:Nat):(fmtL n u).length=n:=by simp[fmtL]
structure FmtY (n u nd v:Nat) (d:Array UInt8):Prop where
 size:d.size=n
 le:nd≤n
 par:nd%2=n%2
 rest:v=u/10^(n-nd)
 small:v<10^(nd+1)
 done:∀t,nd≤t→t<n→d[t]! = dgX n u t
theorem FmtY.start (d:Array UInt8) (u:Nat) (h:u<10^(d.size+1)):FmtY d.size u d.size u d :=
 ⟨rfl,Nat.le_refl _,rfl,by simp,h,fun t h1 h2=>by omega⟩
theorem FmtY.two {n u k v:Nat} {d:Array UInt8} (h:FmtY n u (k+2) v d):FmtY n u k (v/100) ((d.setIfInBounds (k+1) (sm (v%100*2+1))).setIfInBounds k (sm (v%100*2))):=by
  have hle:=h.le;have hp:v%100<100:=Nat.mod_lt _ (by decide);refine⟨by simp[h.size],by omega,by have:=h.par;omega,?_,?_,fun t h1 h3=> ?_⟩
  · rw[h.rest,Nat.div_div_eq_div_mul,show n-k=n-(k+2)+2 by omega,Nat.pow_add]
  · have hs:=h.small
    rw[show k+2+1=(k+1)+2 by omega,Nat.pow_add] at hs;exact Nat.div_lt_of_lt_mul (by rw[Nat.mul_comm];exact hs)
  · have hx:¬(t=0∧n%2=1)∨k+2≤t:=by
      have:=h.par;omega
    by_cases e2:t=k
    · rw[e2,get_set_same _ _ _ (by simp[h.size];omega),sm_hi _ hp]
      unfold dgX dg;rw[if_neg (by have:=h.par;omega),show n-1-k=n-(k+2)+1 by omega,Nat.pow_succ,← Nat.div_div_eq_div_mul,← h.rest];congr 2;omega
    · rw[get_set_other _ _ _ _ e2]
      by_cases e1:t=k+1
      · rw[e1,get_set_same _ _ _ (by rw[h.size];omega),sm_lo _ hp]
        unfold dgX dg;rw[if_neg (by omega),show n-1-(k+1)=n-(k+2) by omega,← h.rest];congr 2;omega
      · rw[get_set_other _ _ _ _ e1]
        exact h.done t (by omega) h3
theorem FmtY.last {n u v:Nat} {d:Array UInt8} (h:FmtY n u 1 v d):∀t,t<n→(d.setIfInBounds 0 (UInt8.ofNat (48+v)))[t]! = dgX n u t:=fun t h3=>by
 have hle:=h.le;by_cases e0:t=0
 ·rw[e0,get_set_same _ _ _ (by rw[h.size];omega)]
  unfold dgX;rw[if_pos ⟨rfl,by have:=h.par;omega⟩,← h.rest]
 ·rw[get_set_other _ _ _ _ e0]
  exact h.done t (by omega) h3
theorem FmtY.lt7 {n u nd v:Nat} {d:Array UInt8} (h:FmtY n u nd v d) (h8:nd<8):v<100000000 :=
 Nat.lt_of_lt_of_le h.small (by have:=Nat.pow_le_pow_right (n:=10) (by decide) (show nd+1≤8 by omega);simpa using this)
end
end Go.Proofs.YtpaciekgbhoncaaGreat
