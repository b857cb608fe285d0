/-
  Parts: StgC.
-/
import Derived.Test.YtpaciekgbhoncaaGreatG0n
import Derived.Deep.RegionWith
import Derived.StillTail
set_option maxRecDepth 100000
set_option maxHeartbeats 16000000
open Go.Lib (hid)
namespace Go.Proofs.YtpaciekgbhoncaaGreat
section
open Go.RowKit
open Go.Lib
theorem zu6 (m:Bool) (c:Int):valE ⟨if m=true then 6 else 5,false,0,⟨#[]⟩,c⟩= .iface 166 (.agg #[.bool m,.int .i64 c]):=by cases m <;>rfl
theorem zaex (x:Cn):valE (cntE x)= .iface 166 (.agg #[.bool x.m,.int .i64 (cntE x).c]):=by
 have:=zu6 x.m (cntE x).c;rw[← this];rfl
theorem Step.mono_ {F F':List Nat} {w w':World} (h:Step F F' w w') (G:List Nat) (hG:∀k∈F,k∈G):Step G G w w' :=
 ⟨h.os,h.tape,h.output,h.size,fun k hk hn=>h.block k hk (fun e=>hn (hG k e)),fun _ h=> .inl h⟩
theorem zzn {w:World} {b e lim z:Nat} {vh vo:Value} {H:List Ev} {x:Cn} {r:List Cn} (h:Sgb w b e lim vh z vo) (hH:Win w 20 1 vh H.length (H.map valE)) (hO:Win w 173 4 vo (r.length+1) (cnL (x::r)))
  (hd:r.length≤100000) (hx:x.at_<H.length∧x.n≤100000) (hl:H.length≤100000) :
  Calls Tryz.prog 68 #[.pointer (some ⟨b,0,none⟩)] w fun q w'=>q= .returned (.tuple #[]) ∧
   ∃vo',Sgb w' b e lim vh z vo'∧Win w' 20 1 vh H.length ((H.set x.at_ (cntE x)).map valE)∧Win w' 173 4 vo' r.length (cnL r)∧Value.owner vo'=Value.owner vo∧Step (b::Value.owner vh) (b::Value.owner vh) w w':=by
 have HL:=hid (zt2 h hO hd);have HC:=hid (fun W=>zmo x hx.2 W);have HHw:=hid hH;have hbv:=hH.apart h (by decide);have HAP:=hid (hH.apart2 hO (by decide));have HVE:=hid (zaex x);obtain⟨m,c,at_,n⟩:=x;simp only at *
 obtain⟨g,off,cap,rfl,_,_,hg,hgo,_⟩:=hH.form (by omega);have hgb:g≠b:=fun e=>hbv (by rw[hgo,e];simp)
 generalize (cntE ⟨m,c,at_,n⟩)=X at *
 obtain⟨hx1,hx2⟩:=hx;obtain⟨N,hN⟩:∃N,H.length=N:=⟨_,rfl⟩
 have HN:=hid hN;rw[hN] at HL HHw HAP hx1 hl ⊢;clear h hH hO hbv hgo hN;go_enter Tryz.func68,Tryz.ntmps68;(go_wp2_with fail);refine HL.out.mono ?_;rintro q w1 ⟨rfl,vo',hS1,hW1,ho1,hst1⟩;have hH1:Win w1 20 1 (.slice (some ⟨g,off,none⟩) N cap) N (H.map valE):=HHw.out.keep fun k hk=>hst1.block k (HHw.out.lt k hk) (by simp[Value.owner] at hk ⊢;omega)
 have hsz:=hst1.size;have hF:∀w2:World,Below w1.heap.size w1 w2→(w2.cell? ⟨b,3,none⟩=some (.slice (some ⟨g,off,none⟩) N cap)∧(∃u,w2.cell? ⟨g,off+at_,none⟩=some u)∧w2.frozen? ⟨g,off+at_,none⟩=false) ∧
   ∃vo',Sgb (w2.setCell ⟨g,off+at_,none⟩ (valE X)) b e lim (.slice (some ⟨g,off,none⟩) N cap) z vo'∧Win (w2.setCell ⟨g,off+at_,none⟩ (valE X)) 20 1 (.slice (some ⟨g,off,none⟩) N cap) N ((H.set at_ X).map valE)∧Win (w2.setCell ⟨g,off+at_,none⟩ (valE X)) 173 4 vo' r.length (cnL r)∧Value.owner vo'=Value.owner vo∧Step (b::Value.owner (.slice (some ⟨g,off,none⟩) N cap)) (b::Value.owner (.slice (some ⟨g,off,none⟩) N cap)) w (w2.setCell ⟨g,off+at_,none⟩ (valE X)):=fun w2 hb2=>by
  have hS2:Sgb w2 b e lim (.slice (some ⟨g,off,none⟩) N cap) z vo':=hS1.go hb2;have hH2:Win w2 20 1 (.slice (some ⟨g,off,none⟩) N cap) N (H.map valE):=hH1.keep fun k hk=>hb2.block k (hH1.lt k hk)
  have hW2:Win w2 173 4 vo' r.length (cnL r):=hW1.keep fun k hk=>hb2.block k (hW1.lt k hk)
  obtain⟨g',off',cap',hv,_,_,_,_,hc⟩:=hH2.form (by omega);simp only[Value.slice.injEq,Option.some.injEq,Addr.mk.injEq] at hv;obtain⟨⟨rfl,rfl,_⟩,_,rfl⟩:=hv;have hca:=hc at_ (valE (H[at_]'(HN.out▸hx1))) (by rw[List.getElem?_map,List.getElem?_eq_getElem (HN.out▸hx1)];rfl);refine⟨⟨hS2.cell 3,⟨_,hca.1⟩,hca.2⟩,vo',hS2.far (fun e=>hgb e.symm) _,?_,hW2.setCell_far ?_ _,ho1,?_⟩
  ·have:=hH2.store at_ (by rw[List.length_map,HN.out];exact hx1) (valE X)
   rwa [← List.map_set] at this
  ·intro hk
   exact HAP.out _ (ho1▸hk) (by simp[Value.owner])
  ·have s1:=(hst1.trans (Step.of_below [b] hb2)).mono_ (b::Value.owner (.slice (some ⟨g,off,none⟩) N cap)) (by simp)
   exact s1.trans (zal _ _ _ _ (by simp[Value.owner]))
 have HF:=hid hF;have h3:=(hF w1 (Below.refl _ _)).1.1;rw[HVE.out] at HF;have hx3:(at_:Int)<(N:Int):=by omega
 have hx4:(0:Int)≤(at_:Int):=by omega
 have hbl:=zag w1 #[.bool m,.int .i64 c,.int .i64 (at_:Int),.int .i64 (n:Int)] 173;have hup:=zaa (Below.refl w1.heap.size w1) (.cells #[.bool m,.int .i64 c,.int .i64 (at_:Int),.int .i64 (n:Int)] 173);have h3':=(hF _ hup).1.1;clear hF hst1 hsz hH1 hS1 hW1 ho1 HL HAP HHw HVE hx2 hd;(go_wp2_with fail);have HF2:∀w2:World,Below (w1.alloc (.cells #[.bool m,.int .i64 c,.int .i64 (at_:Int),.int .i64 (n:Int)] 173)).heap.size (w1.alloc (.cells #[.bool m,.int .i64 c,.int .i64 (at_:Int),.int .i64 (n:Int)] 173)) w2→Hid (Below w1.heap.size w1 w2):=fun w2 hb=>hid (zab hup hb)
 have hz:=w1.heap.size;generalize hbb:w1.heap.size=bb at *
 generalize (w1.alloc (.cells #[.bool m,.int .i64 c,.int .i64 (at_:Int),.int .i64 (n:Int)] 173))=W at *
 have c0:=hbl.cell 0;have c1:=hbl.cell 1;have c2:=hbl.cell 2;have c3:=hbl.cell 3;have HBL:=hid hbl;clear hbl hup hbb
 go_region_with (go_at_call 73;refine(HC.out _).mono ?_;rintro r w2 ⟨rfl,hb⟩;have hb':Below W.heap.size W w2:=⟨hb.os,hb.tape,hb.output,hb.size,hb.block⟩;have HG:=hid (HF.out w2 (HF2 w2 hb').out);have g0:=HG.out.1.1;obtain⟨u,g1⟩:=HG.out.1.2.1;have g2:=HG.out.1.2.2;have k2:=(HBL.out.go hb').cell 2;have k0:=(HBL.out.go hb').cell 0;have k1:=(HBL.out.go hb').cell 1;have k3:=(HBL.out.go hb').cell 3;clear hb hb')
 all_goals
  go_wp2
  go_end0
  exact⟨rfl,HG.out.2⟩
end
end Go.Proofs.YtpaciekgbhoncaaGreat
