/-
  Parts: StgF.
-/
import Derived.Test.YtpaciekgbhoncaaGreatG1f
set_option maxRecDepth 100000
set_option maxHeartbeats 16000000
open Go.Lib (hid)
namespace Go.Proofs.YtpaciekgbhoncaaGreat
section
open Go.RowKit
open Go.Lib
theorem SgP.pre {w w0 w1:World} {b lim z:Nat} {vh vo vh' vo':Value} {H:List Ev} {op:List Cn} (h:SgP w0 w1 b lim z vh vo vh' vo' H op) (k:Below w.heap.size w w0):SgP w w1 b lim z vh vo vh' vo' H op:=⟨h.sg,(Step.of_below _ k).trans h.step⟩
theorem SgP.seq {w w0 w1:World} {b lim z:Nat} {vh vo vh0 vo0 vh' vo':Value} {H0 H:List Ev} {op0 op:List Cn} (h0:SgP w w0 b lim z vh vo vh0 vo0 H0 op0) (h:SgP w0 w1 b lim z vh0 vo0 vh' vo' H op):SgP w w1 b lim z vh vo vh' vo' H op:=⟨h.sg,h0.step.trans h.step⟩
structure HoldK (w w1:World) (b lim z q:Nat) (vh vo:Value) (V:Value) (N:Nat) (xs:List Value) (a1:Option Addr) (cp1:Nat) (G:World→Prop):Prop where
 c3:∀w2,Below w1.heap.size w1 w2→w2.cell? ⟨b,3,none⟩=some (.slice a1 N cp1)∧w2.cell? ⟨b,4,none⟩=some (.int .i64 (z:Int))
 win:∀w2,Below w1.heap.size w1 w2→Win w2 20 1 (.slice a1 N cp1) N xs
 fin:∀w2 w3 a3 c3,Below w1.heap.size w1 w2→Win w3 20 1 (.slice a3 (N+1) c3) (N+1) (xs++[V])→w2.grownBy w3 (Value.slice a1 N cp1).ownBlock→((Value.slice a3 (N+1) c3).ownBlock=(Value.slice a1 N cp1).ownBlock∨(Value.slice a3 (N+1) c3).ownBlock=some w2.heap.size∧w2.heap.size<w3.heap.size) →
  ((∃u,w3.cell? ⟨b,3,none⟩=some u)∧w3.frozen? ⟨b,3,none⟩=false∧w3.cell? ⟨b,4,none⟩=some (.int .i64 (z:Int))∧w3.frozen? ⟨b,4,none⟩=false)∧G ((w3.setCell ⟨b,3,none⟩ (.slice a3 (N+1) c3)).setCell ⟨b,4,none⟩ (.int .i64 ((z+q:Nat):Int)))
theorem SgP.holdK {w w1:World} {b lim z q:Nat} {vh vo vh1 vo1:Value} {H:List Ev} {op:List Cn} {e:Ev} (hP:SgP w w1 b lim z vh vo vh1 vo1 H op) :
  ∃a1 cp1,vh1= .slice a1 H.length cp1∧HoldK w w1 b lim z q vh vo (valE e) H.length (H.map valE) a1 cp1 (fun W=>∃vh' vo',SgP w W b lim (z+q) vh vo vh' vo' (H++[e]) op):=by
 obtain⟨a1,cp1,rfl,_,_⟩:=hP.sg.wh.slice_form;exact⟨a1,cp1,rfl,fun w2 k=>⟨(hP.sg.go k).blk.cell 3,(hP.sg.go k).blk.cell 4⟩,fun w2 k=>(hP.sg.go k).wh,fun w2 w3 a3 c3 k hW hG hO=>zala hP k hW hG hO⟩
theorem zaac {w:World} {b lim z:Nat} {vh vo:Value} {H:List Ev} {x:Cn} {r:List Cn} (h:SgR w b lim z vh vo H (x::r)) (hd:r.length≤80000) (hx:x.at_<H.length∧x.n≤100000) (hl:H.length≤80000) (e:Ev) (he:mayE e) (hk:e.k=7) (q:Nat) (hz:z+q≤100000) :
  Calls Tryz.prog 66 #[.pointer (some ⟨b,0,none⟩),valE e,.int .i64 (q:Int)] w fun r' w'=>r'= .returned (.tuple #[])∧∃vh' vo',SgP w w' b lim (z+q) vh vo vh' vo' (H.set x.at_ (cntE x)++[e]) r:=by
 have hC:=zct e he;have hB:=zdi e he;rw[decide_eq_true hk] at hC;rw[decide_eq_false (p:=e.k=5∨e.k=6) (by omega),decide_eq_false (p:=e.k=6) (by omega),if_neg (by omega)] at hB;have HE:=hid (fun W (hR:SgR W b lim z vh vo H (x::r))=>zaje hR (by omega) hx (by omega));have hform:=zd2 e;have HR:=hid h;have HKK:=hid (fun w1 vo1 (hP:SgP w w1 b lim z vh vo vh vo1 (H.set x.at_ (cntE x)) r)=>hP.holdK (q:=q) (e:=e));simp only[List.length_set] at HKK;have hwz:IntKind.i64.wrap ((z:Int)+(q:Int))=(z:Int)+(q:Int):=by simp only[IntKind.wrap_i64];omega
 generalize List.map valE (H.set x.at_ (cntE x))=XS at *
 generalize valE e=V at *
 generalize H.length=N at *
 clear h hx hd hk he;go_enter Tryz.func66,Tryz.ntmps66;(go_wp2_with fail);refine(HE.out _ (HR.out.go (zaa (Below.refl _ _) _))).mono ?_;rintro r' w1 ⟨rfl,vo',hP⟩;obtain⟨a1,cp1,rfl,hK⟩:=HKK.out w1 vo' (hP.pre (zaa (Below.refl _ _) _));have HK:=hid hK;have h3:=fun y=>(hK.c3 _ (zaa (Below.refl w1.heap.size w1) y)).1
 clear HE HR HKK hP hK;rcases hform with rfl|⟨d,zz,rfl⟩
 all_goals
  go_wp2_with (at_builtin;refine zaj rfl _ _ _ rfl Tryz.underlying85 zed rfl rfl (HK.out.win _ (zaa (zaa (Below.refl _ _) _) _)) _ rfl 1 [_] (zfp _ Tryz.underlying85 _ _ _ rfl (by simp)) (by unfold maxLen;omega) (by omega) ?_)
  intro v3 w3 hW3 hG3 hO3;obtain⟨a3,c3,rfl,_,_⟩:=hW3.out.slice_form;have HP:=hid (HK.out.fin _ w3 a3 c3 (zaa (zaa (Below.refl _ _) _) _) hW3.out hG3.out (by simpa using hO3.out));obtain⟨⟨⟨u3,x3⟩,y3,x4,y4⟩,_⟩:=HP.out;clear hW3 hG3 hO3;rw[Int.natCast_add] at HP;go_wp2
  go_end0
  exact⟨rfl,HP.out.2⟩
theorem zya {w:World} {b lim z:Nat} {vh vo:Value} {H:List Ev} {op:List Cn} (h:SgR w b lim z vh vo H op) (hd:op.length≤80000) (hn:∀x∈op,x.n≤100000) (hl:H.length≤80000) (e:Ev) (he:mayE e) (hk:e.k≠7) (hk2:¬(e.k=5∨e.k=6)) (q:Nat) (hz:z+q≤100000) :
  Calls Tryz.prog 66 #[.pointer (some ⟨b,0,none⟩),valE e,.int .i64 (q:Int)] w fun r' w'=>r'= .returned (.tuple #[])∧∃vh' vo',SgP w w' b lim (z+q) vh vo vh' vo' (H++[e]) (incN op):=by
 have hC:=zct e he;have hB:=zdi e he;rw[decide_eq_false hk] at hC;rw[decide_eq_false hk2,if_neg hk2] at hB;have HE:=hid (fun W (hR:SgR W b lim z vh vo H op)=>zng hR (by omega) hn);have hform:=zd2 e;have HR:=hid h;have h5:=fun y=>(h.blk.alloc (w:=w) y).cell 5
 have HKK:=hid (fun w1 (hP:SgP w w1 b lim z vh vo vh vo H (incN op))=>hP.holdK (q:=q) (e:=e));have hwz:IntKind.i64.wrap ((z:Int)+(q:Int))=(z:Int)+(q:Int):=by simp only[IntKind.wrap_i64];omega
 generalize List.map valE H=XS at *
 generalize valE e=V at *
 generalize H.length=N at *
 generalize decide (e.k=6)=D6 at *
 clear h hn hd hk he hk2;go_enter Tryz.func66,Tryz.ntmps66;(go_wp2_with fail);refine(HE.out _ (HR.out.go (zaa (Below.refl _ _) _))).mono ?_;rintro r' w1 ⟨rfl,hP⟩;obtain⟨a1,cp1,rfl,hK⟩:=HKK.out w1 (hP.pre (zaa (Below.refl _ _) _));have HK:=hid hK;have h3:=fun y=>(hK.c3 _ (zaa (Below.refl w1.heap.size w1) y)).1
 clear HE HR HKK hP hK;rcases hform with rfl|⟨d,zz,rfl⟩
 all_goals
  go_wp2_with (at_builtin;refine zaj rfl _ _ _ rfl Tryz.underlying85 zed rfl rfl (HK.out.win _ (zaa (zaa (Below.refl _ _) _) _)) _ rfl 1 [_] (zfp _ Tryz.underlying85 _ _ _ rfl (by simp)) (by unfold maxLen;omega) (by omega) ?_)
  intro v3 w3 hW3 hG3 hO3;obtain⟨a3,c3,rfl,_,_⟩:=hW3.out.slice_form;have HP:=hid (HK.out.fin _ w3 a3 c3 (zaa (zaa (Below.refl _ _) _) _) hW3.out hG3.out (by simpa using hO3.out));obtain⟨⟨⟨u3,x3⟩,y3,x4,y4⟩,_⟩:=HP.out;clear hW3 hG3 hO3;rw[Int.natCast_add] at HP;go_wp2
  go_end0
  exact⟨rfl,HP.out.2⟩
theorem zvv {w:World} {b lim z:Nat} {vh vo:Value} {H:List Ev} {op:List Cn} (h:SgR w b lim z vh vo H op) (hd:op.length≤80000) (hn:∀x∈op,x.n≤100000) (hl:H.length≤80000) (e:Ev) (he:mayE e) (hk:e.k≠7) (hk2:e.k=5∨e.k=6) (q:Nat) (hz:z+q≤100000) :
  Calls Tryz.prog 66 #[.pointer (some ⟨b,0,none⟩),valE e,.int .i64 (q:Int)] w fun r' w'=>r'= .returned (.tuple #[])∧∃vh' vo',SgP w w' b lim (z+q) vh vo vh' vo' (H++[e]) (⟨decide (e.k=6),e.c,H.length,0⟩::incN op):=by
 have hC:=zct e he;have hB:=zdi e he;rw[decide_eq_false hk] at hC;rw[decide_eq_true hk2,if_pos hk2] at hB;have HE:=hid (fun W (hR:SgR W b lim z vh vo H op)=>zng hR (by omega) hn);have hform:=zd2 e;have HR:=hid h;have h5:=fun y=>(h.blk.alloc (w:=w) y).cell 5
 have HN:=hid (fun W (hR:SgR W b lim z vh vo H (incN op))=>zaeq hR (by rw[zd9];omega) ⟨decide (e.k=6),e.c,H.length,0⟩);have HKK:=hid (fun w1 vo1 (hP:SgP w w1 b lim z vh vo vh vo1 H (⟨decide (e.k=6),e.c,H.length,0⟩::incN op))=>hP.holdK (q:=q) (e:=e));have hwz:IntKind.i64.wrap ((z:Int)+(q:Int))=(z:Int)+(q:Int):=by simp only[IntKind.wrap_i64];omega
 obtain⟨a0,cp0,rfl,_,_⟩:=h.wh.slice_form;generalize List.map valE H=XS at *
 generalize valE e=V at *
 generalize H.length=N at *
 generalize decide (e.k=6)=D6 at *
 generalize e.c=C at *
 simp only at HN;rw[show((0:Nat):Int)=0 from rfl] at HN;clear h hn hd hk he hk2;go_enter Tryz.func66,Tryz.ntmps66;(go_wp2_with fail);refine(HE.out _ (HR.out.go (zaa (Below.refl _ _) _))).mono ?_;rintro r' w1 ⟨rfl,hP⟩;have HP1:=hid (hP.pre (zaa (Below.refl w.heap.size w) _));have hup:=zaa (Below.refl w1.heap.size w1) (.cells #[.bool D6,.int .i64 C] 166);have HPW:=hid (HP1.out.go hup);have g3:=HPW.out.sg.blk.cell 3;have hbl:=zag w1 #[.bool D6,.int .i64 C] 166;have c0:=hbl.cell 0;have c1:=hbl.cell 1;clear HE HR hP hbl HP1;(go_wp2_with fail);generalize (w1.alloc (.cells #[.bool D6,.int .i64 C] 166))=W at *
 have hdr:Below W.heap.size W W.drew:=⟨rfl,rfl,rfl,Nat.le_refl _,fun _ _=>rfl⟩
 have hNN:=HN.out W.drew (HPW.out.sg.go hdr)
 go_region_with (go_at_call 70;refine hNN.mono ?_;rintro r' w3 ⟨rfl,vo3,hP3⟩)
 all_goals
  obtain⟨a1,cp1,he1,hK⟩:=HKK.out w3 vo3 ((HPW.out.go hdr).seq hP3);cases he1;have HK:=hid hK;have h3:=(hK.c3 _ (Below.refl _ _)).1;clear HPW HKK hP3 hK HN hdr hup;rcases hform with rfl|⟨d,zz,rfl⟩
  all_goals
   go_wp2_with (at_builtin;refine zaj rfl _ _ _ rfl Tryz.underlying85 zed rfl rfl (HK.out.win _ (zaa (Below.refl _ _) _)) _ rfl 1 [_] (zfp _ Tryz.underlying85 _ _ _ rfl (by simp)) (by unfold maxLen;omega) (by omega) ?_)
   intro v3 w4 hW3 hG3 hO3;obtain⟨a3,c3,rfl,_,_⟩:=hW3.out.slice_form;have HP:=hid (HK.out.fin _ w4 a3 c3 (zaa (Below.refl _ _) _) hW3.out hG3.out (by simpa using hO3.out));obtain⟨⟨⟨u3,x3⟩,y3,x4,y4⟩,_⟩:=HP.out;clear hW3 hG3 hO3;rw[Int.natCast_add] at HP;go_wp2
   go_end0
   exact⟨rfl,HP.out.2⟩
end
end Go.Proofs.YtpaciekgbhoncaaGreat
