/-
  Parts: PinPg, PinPc, PinPh, CinNest, CinNestB, CinNestC.
-/
import Derived.Test.YtpaciekgbhoncaaGreatG0h
import Derived.StillTailTactics
import Derived.Test.YtpaciekgbhoncaaGreatG0g
set_option maxRecDepth 100000
set_option maxHeartbeats 16000000
open Go.Lib (hid)
namespace Go.Proofs.YtpaciekgbhoncaaGreat
section
open Go.RowKit
open Go.Lib
def ctP (m:Bool):Nat:=if m=true then 10 else 9
theorem zvy {w0 w w1 w3:World} {b o D pl kd nm fm:Nat} {h:Hd} {vt vs v':Value} {s:List Bx} {m:Bool} {c:Int} (hC:PP w1 b o D pl kd nm fm h 0 0 vt [] st0 vs s.length (inP s)) (hl:Low w0 w1 b vs) (hB:Below w.heap.size w w1) (hb:b<w.heap.size) (hc:c≠0)
  (hN:NsP w3 b (o+19) v' (s.length+1) (inP (⟨m,c,0⟩::incB s))) (ho:∀k∈Value.owner v',k∈Value.owner vs∨w1.heap.size≤k) (hS:Subg (Value.owner vs) b (o+19) 1 w1 w3) (g:Nat) (hg:g=w3.heap.size) :
  (w3.cell? ⟨b,o+2,none⟩=some (.int .i64 pl)∧w3.frozen? ⟨b,o+2,none⟩=false) ∧
  GoM w0 w ((w3.setCell ⟨b,o+2,none⟩ (.int .i64 (0:Nat))).alloc (.cells #[valE (zb9 m c)] 20)) b o D vt vs (za1 (zca s m c)) (.slice (some ⟨g,0,none⟩) 1 1):=by
 subst hg;rw[zhr s m hc];have h3:PP w3 b o D pl kd nm fm h 0 0 vt [] st0 v' (s.length+1) (inP (⟨m,c,0⟩::incB s)):=hC.setOp hS (fun x hx h=>hC.apart x h hx) hN;have h4:=h3.setPl 0;have hz:(w3.setCell ⟨b,o+2,none⟩ (.int .i64 (0:Nat))).heap.size=w3.heap.size:=by simp[World.setCell]
 have hup:Below (w3.setCell ⟨b,o+2,none⟩ (.int .i64 (0:Nat))).heap.size (w3.setCell ⟨b,o+2,none⟩ (.int .i64 (0:Nat))) ((w3.setCell ⟨b,o+2,none⟩ (.int .i64 (0:Nat))).alloc (.cells #[valE (zb9 m c)] 20)):=(Below.refl _ _).alloc (Nat.le_refl _) _;have hz3:w0.heap.size≤w3.heap.size:=Nat.le_trans hl.size hS.size;refine⟨h3.cells.1.2.2,⟨⟨?_,fun k hk=> ?_⟩,⟨vt,v',?_,fun k hk=> ?_⟩,?_⟩⟩
 ·have:=zfv (w3.setCell ⟨b,o+2,none⟩ (.int .i64 (0:Nat))) (valE (zb9 m c)) 20 w3.heap.size hz.symm
  exact this
 ·simp only[Value.owner,List.mem_singleton] at hk
  omega
 ·refine⟨kd,nm,fm,h,?_⟩
  have:=h4.go hup;simpa [zbh] using this
 ·rcases List.mem_append.1 hk with hk|hk
  ·exact .inl (List.mem_append.2 (.inl hk))
  ·exact(ho k hk).imp (fun h=>List.mem_append.2 (.inr h)) (fun h=>Nat.le_trans hB.size h)
 ·have e1:=zae hB hb (Value.owner vt++Value.owner vs) o 20
  have e2:=hS.widen (g':=Value.owner vt++Value.owner vs) (o':=o) (n':=20) (fun x hx=>List.mem_append.2 (.inr hx)) (by omega) (by omega);have e3:Subg (Value.owner vt++Value.owner vs) b o 20 w3 (w3.setCell ⟨b,o+2,none⟩ (.int .i64 (0:Nat))):=(zac w3 (o+2) _ (by omega)).subg _;exact((e1.tr e2).tr e3).tr (zae hup h4.lt _ _ _)
theorem zabp {w0 w:World} {b o D pl kd nm fm:Nat} {h:Hd} {vt:Value} {vs:Value} {s:List Bx} (c:PP w b o D pl kd nm fm h 0 0 vt [] st0 vs s.length (inP s)) (m:Bool) {v fm':Nat} (hv:1000000<v) :
  Calls Tryz.prog 207 #[.pointer (some ⟨b,o,none⟩),.agg #[.int .i64 (ctP m:Nat),.int .u64 (v:Nat),.int .u8 (fm':Nat)]] w fun r w' =>
   ∃x,r= .returned (.tuple #[x,.int .i64 (7:Nat)])∧GoM w0 w w' b o D vt vs (.c (.bad 7),[]) x:=by
 have hB:Below w.heap.size w (w.alloc (.cells #[.int .i64 (ctP m:Nat),.int .u64 (v:Nat),.int .u8 (fm':Nat)] 150)):=zaa (Below.refl _ _) _;have hc:=c.go hB;have HG:Hid (GoM w0 w (w.alloc (.cells #[.int .i64 (ctP m:Nat),.int .u64 (v:Nat),.int .u8 (fm':Nat)] 150)) b o D vt vs (.c (.bad 7),[]) (.slice none 0 0)):=hid ⟨Vls.nil_ _ _,⟨vt,vs,⟨by decide,hc.room,hc.cells.1.2.1.1⟩,fun k hk=> .inl hk⟩,zae hB c.lt _ _ _⟩;have zv:(1000000<(v:Int))=True:=by simp;omega
 clear c hB hc hv;go_enter Tryz.func207,Tryz.ntmps207;go_wp2;go_ret2;exact⟨_,rfl,HG.out⟩
theorem zun {w0 w:World} {b o D pl kd nm fm:Nat} {h:Hd} {vt:Value} {vs:Value} {s:List Bx} (c:PP w b o D pl kd nm fm h 0 0 vt [] st0 vs s.length (inP s)) (hl:Low w0 w b vs) (hd:s.length<16) (m:Bool) {v fm':Nat} (hv:v≤1000000) (hv0:0<v) :
  Calls Tryz.prog 207 #[.pointer (some ⟨b,o,none⟩),.agg #[.int .i64 (ctP m:Nat),.int .u64 (v:Nat),.int .u8 (fm':Nat)]] w fun r w' =>
   ∃x,r= .returned (.tuple #[x,.int .i64 (0:Nat)])∧GoM w0 w w' b o D vt vs (za1 (zca s m (v:Int))) x:=by
 have hM:((ctP m:Int)==10)=m:=by cases m <;>decide
 have hW1:Below w.heap.size w ((w.alloc (.cells #[.int .i64 (ctP m:Nat),.int .u64 (v:Nat),.int .u8 (fm':Nat)] 150)).alloc (.cells #[.bool m,.int .i64 (v:Int)] 166)):=zaa (zaa (Below.refl _ _) _) _;have zv:(1000000<(v:Int))=False:=by simp;omega
 have zc:((v:Int)==0)=false:=by rw[beq_eq_false_iff_ne];omega
 have HV0:Hid (¬v=0):=hid (by omega);have hwv:IntKind.i64.wrap (v:Int)=(v:Int):=by simp only[IntKind.wrap_i64];omega
 have H:=hid (And.intro (c.go hW1) (And.intro (hl.up hW1) (And.intro c.lt hW1)));have HL0:=hid hl.size;have HE:=hid (zym (w:=(((w.alloc (.cells #[.int .i64 (ctP m:Nat),.int .u64 (v:Nat),.int .u8 (fm':Nat)] 150)).alloc (.cells #[.bool m,.int .i64 (v:Int)] 166)).drew)) (H.out.1.op.drewN 1) hd m (v:Int) (by omega));have HBK:=hid (zag (w.alloc (.cells #[.int .i64 (ctP m:Nat),.int .u64 (v:Nat),.int .u8 (fm':Nat)] 150)) #[.bool m,.int .i64 (v:Int)] 166);clear c hl hd hv hv0 hW1;go_enter Tryz.func207,Tryz.ntmps207;(go_wp2_with fail);generalize hWg:((w.alloc (.cells #[.int .i64 (ctP m:Nat),.int .u64 (v:Nat),.int .u8 (fm':Nat)] 150)).alloc (.cells #[.bool m,.int .i64 (v:Int)] 166))=W at *
 have hsz:W.heap.size=w.heap.size+2:=by rw[← hWg];simp
 have hbk:Blk W (w.heap.size+1) #[.bool m,.int .i64 (v:Int)] 166:=by have:=HBK.out;simpa using this
 have HC:=hid H.out.1;have HLW:=hid H.out.2;have HZ:=hid hsz;have HBW:=hid hbk;have d0:W.drew.cell? ⟨w.heap.size+1,0,none⟩=some (.bool m):=hbk.cell 0;have d1:W.drew.cell? ⟨w.heap.size+1,1,none⟩=some (.int .i64 (v:Int)):=hbk.cell 1;clear H HBK hWg hsz hbk;refine za4 4 (by kernel_rfl) (by kernel_rfl) ?_;simp only[List.take_succ_cons,List.take_zero,List.drop_succ_cons,List.drop_zero]
 repeat still_step
 refine wpStill_nil ?_;(go_wp2_with fail);refine HE.out.mono ?_;rintro r w3 ⟨rfl,v',hN,ho,hS⟩;have hblk3:Blk w3 (w.heap.size+1) #[.bool m,.int .i64 (v:Int)] 166:=(hS.block _ (by show w.heap.size+1<W.heap.size;have:=HZ.out;omega) (by have:=HLW.out.2.1;omega) (fun h=>by
  have h1:=HLW.out.1.vs _ h;have h2:=HL0.out;omega)).trans HBW.out
 have e0:=hblk3.cell 0;have e1:=hblk3.cell 1;obtain⟨⟨p2,q2⟩,hG⟩:=zvy (w0:=w0) (w:=w) (HC.out.drewN 1) (HLW.out.1.of (Nat.le_refl _) rfl) (zbj HLW.out.2.2) HLW.out.2.1 (by simpa using HV0.out) hN ho hS _ rfl;have HG:=hid hG;rw[zfs] at HG;have HB2:b<w.heap.size+1:=by have:=HLW.out.2.1;omega
 have k0:(w3.setCell ⟨b,o+2,none⟩ (.int .i64 0)).cell? ⟨w.heap.size+1,0,none⟩=some (.bool m):=(World.cell?_of_block (w:=w3) (Below.heap_setCell w3 _ _ _ (by simp;omega))).trans e0;have k1:(w3.setCell ⟨b,o+2,none⟩ (.int .i64 0)).cell? ⟨w.heap.size+1,1,none⟩=some (.int .i64 (v:Int)):=(World.cell?_of_block (w:=w3) (Below.heap_setCell w3 _ _ _ (by simp;omega))).trans e1;clear hN ho hS hblk3 hG HB2;go_wp2;go_ret2;exact⟨_,rfl,HG.out⟩
theorem zz4 {w0 w:World} {b o D pl kd nm fm:Nat} {h:Hd} {vt:Value} {vs:Value} {s:List Bx} (c:PP w b o D pl kd nm fm h 0 0 vt [] st0 vs s.length (inP s)) (hl:Low w0 w b vs) (hk:OkP s) (hvt:∀k∈Value.owner vt,k<w0.heap.size) (m:Bool) {fm':Nat} :
  Calls Tryz.prog 207 #[.pointer (some ⟨b,o,none⟩),.agg #[.int .i64 (ctP m:Nat),.int .u64 (0:Nat),.int .u8 (fm':Nat)]] w fun r w' =>
   ∃x,r= .returned (.tuple #[x,.int .i64 (0:Nat)])∧GoM w0 w w' b o D vt vs (za1 (zca s m 0)) x:=by
 have hM:((ctP m:Int)==10)=m:=by cases m <;>decide
 have hW1:Below w.heap.size w ((w.alloc (.cells #[.int .i64 (ctP m:Nat),.int .u64 (0:Nat),.int .u8 (fm':Nat)] 150)).alloc (.cells #[.bool m,.int .i64 0] 166)):=zaa (zaa (Below.refl _ _) _) _;have hW2:Below w.heap.size w (((w.alloc (.cells #[.int .i64 (ctP m:Nat),.int .u64 (0:Nat),.int .u8 (fm':Nat)] 150)).alloc (.cells #[.bool m,.int .i64 0] 166)).alloc (.cells #[.iface 166 (.agg #[.bool m,.int .i64 0]),.iface 169 (.agg #[])] 20)):=zaa hW1 _;have hc2:PP (((w.alloc (.cells #[.int .i64 (ctP m:Nat),.int .u64 (0:Nat),.int .u8 (fm':Nat)] 150)).alloc (.cells #[.bool m,.int .i64 0] 166)).alloc (.cells #[.iface 166 (.agg #[.bool m,.int .i64 0]),.iface 169 (.agg #[])] 20)) b o D pl kd nm fm h 0 0 vt [] st0 vs (incB s).length (outP (incB s)):=by
  rw[zbh,zl6];exact c.go hW2
 have hg:w.heap.size+2=((w.alloc (.cells #[.int .i64 (ctP m:Nat),.int .u64 (0:Nat),.int .u8 (fm':Nat)] 150)).alloc (.cells #[.bool m,.int .i64 0] 166)).heap.size:=by simp
 have hV:Vls w0 (((w.alloc (.cells #[.int .i64 (ctP m:Nat),.int .u64 (0:Nat),.int .u8 (fm':Nat)] 150)).alloc (.cells #[.bool m,.int .i64 0] 166)).alloc (.cells #[.iface 166 (.agg #[.bool m,.int .i64 0]),.iface 169 (.agg #[])] 20)) (.slice (some ⟨w.heap.size+2,0,none⟩) 2 2) [zb9 m 0,zbm] :=
  ⟨by
   have:=zz2 ((w.alloc (.cells #[.int .i64 (ctP m:Nat),.int .u64 (0:Nat),.int .u8 (fm':Nat)] 150)).alloc (.cells #[.bool m,.int .i64 0] 166)) (valE (zb9 m 0)) (valE zbm) 20 _ hg;rw[zfs,zmg] at this;simpa [zfs,zmg] using this,fun k hk=>by
   simp only[Value.owner,List.mem_singleton] at hk;have:=hl.size;omega⟩
 have HE:=hid (zl0 (w0:=w0) hc2 hV (by simp) (Nat.le_trans hl.size hW2.size) hl.b hvt hl.vs hk.inc);have HF:=hid (And.intro hW2 c.lt);clear c hl hk hvt hW1 hW2 hc2 hV hg;go_enter Tryz.func207,Tryz.ntmps207;(go_wp2_with fail);refine HE.out.mono ?_;rintro r w' ⟨x,rfl,hR⟩;have HR:=hid hR;clear hR HE;go_wp2;go_ret2;refine⟨x,rfl,?_⟩;rw[ze3];exact zlf HR.out (.inr rfl) rfl (fun k hk=>by
  simp only[Value.owner,List.mem_singleton] at hk;omega) (zae HF.out.1 HF.out.2 _ _ _)
theorem zra {w0 w:World} {b o D pl kd nm fm:Nat} {h:Hd} {vt:Value} {vs:Value} {s:List Bx} (c:PP w b o D pl kd nm fm h 0 0 vt [] st0 vs s.length (inP s)) (hl:Low w0 w b vs) (hk:OkP s) (hvt:∀k∈Value.owner vt,k<w0.heap.size) (hd:s.length<16) (m:Bool) (v fm':Nat) :
  Calls Tryz.prog 207 #[.pointer (some ⟨b,o,none⟩),.agg #[.int .i64 (ctP m:Nat),.int .u64 (v:Nat),.int .u8 (fm':Nat)]] w fun r w' =>
   ∃x,r= .returned (.tuple #[x,.int .i64 (zcw (za1 (cntP s m v)).1:Nat)])∧GoM w0 w w' b o D vt vs (za1 (cntP s m v)) x:=by
 unfold cntP;by_cases hbig:1000000<v
 ·rw[if_pos hbig]
  exact zabp c m hbig
 ·rw[if_neg hbig,show zcw (za1 (zca s m v)).1=0 from zjc s m v]
  by_cases h0:v=0
  ·subst h0
   exact zz4 c hl hk hvt m
  ·exact zun c hl hd m (by omega) (by omega)
end
section
open Go.RowKit
open Go.Lib
theorem zl7 (m:Nat) (hm:m<9223372036854775808):bits BinOp.xor IntKind.i64 (-1) (-1-(m:Int))=(m:Int):=by
 have e1:BitVec.ofInt 64 (-1)=BitVec.allOnes 64:=by decide
 have e2:(BitVec.ofInt 64 (-1-(m:Int))).toNat=18446744073709551615-m:=by rw[BitVec.toNat_ofInt];omega
 show IntKind.i64.wrap ((BitVec.ofInt 64 (-1) ^^^ BitVec.ofInt 64 (-1-(m:Int))).toNat:Nat)=_;rw[e1,BitVec.allOnes_xor,BitVec.toNat_not,e2,IntKind.wrap_i64];omega
def sgY (w v:Nat):Bool:=decide (256^w≤2*v)
def sgM (w v:Nat):Nat:=if 256^w≤2*v then 256^w-1-v else v
theorem zz5 (w v:Nat):sgnP w v=za5 (sgY w v) (sgM w v):=by
 unfold sgnP sgY sgM;split
 ·rename_i h;simp[h]
 ·rename_i h;simp[h]
theorem zw9 (v:Nat) (hv:v<256) (w:World):Calls Tryz.prog 215 #[.int .u64 (v:Nat),.int .i64 8] w fun r w'=>r= .returned (.agg #[.bool (sgY 1 v),.int .u64 (sgM 1 v:Nat)])∧Below w.heap.size w w':=by
 by_cases h:256≤2*v
 ·obtain⟨m,hm⟩:∃m,256-1-v=m:=⟨_,rfl⟩
  have hY:sgY 1 v=true:=by unfold sgY;rw[decide_eq_true_eq];exact h
  have hM:sgM 1 v=m:=by unfold sgM;rw[if_pos (by exact h)];exact hm
  rw[hY,hM];have hx:wrap64 ((v:Int)*72057594037927936)/72057594037927936= -1-(m:Int):=by unfold wrap64;omega
  have hn:(-1-(m:Int)<0)=True:=by simp;omega
  have hxo:=zl7 m (by omega);have hwu:IntKind.u64.wrap (m:Int)=(m:Int):=zam _ (by omega) (by omega);have hwv:IntKind.u64.wrap ((v:Int)*72057594037927936)=(v:Int)*72057594037927936:=zam _ (by omega) (by omega);clear h hm hY hM;go_enter Tryz.func215,Tryz.ntmps215;go_wp2;simp[bodyPost,results,Tryz.results215,go_sem];exact zaa (Below.refl _ _) _
 ·have hY:sgY 1 v=false:=by unfold sgY;rw[decide_eq_false_iff_not];exact h
  have hM:sgM 1 v=v:=by unfold sgM;rw[if_neg (by exact h)]
  rw[hY,hM];have hx:wrap64 ((v:Int)*72057594037927936)/72057594037927936=(v:Int):=by unfold wrap64;omega
  have hn:((v:Int)<0)=False:=by simp
  have hwu:IntKind.u64.wrap (v:Int)=(v:Int):=zam _ (by omega) (by omega);have hwv:IntKind.u64.wrap ((v:Int)*72057594037927936)=(v:Int)*72057594037927936:=zam _ (by omega) (by omega);clear h hY hM;go_enter Tryz.func215,Tryz.ntmps215;go_wp2;simp[bodyPost,results,Tryz.results215,go_sem];exact zaa (Below.refl _ _) _
theorem zaa6 (v:Nat) (hv:v<65536) (w:World):Calls Tryz.prog 215 #[.int .u64 (v:Nat),.int .i64 16] w fun r w'=>r= .returned (.agg #[.bool (sgY 2 v),.int .u64 (sgM 2 v:Nat)])∧Below w.heap.size w w':=by
 by_cases h:65536≤2*v
 ·obtain⟨m,hm⟩:∃m,65536-1-v=m:=⟨_,rfl⟩
  have hY:sgY 2 v=true:=by unfold sgY;rw[decide_eq_true_eq];exact h
  have hM:sgM 2 v=m:=by unfold sgM;rw[if_pos (by exact h)];exact hm
  rw[hY,hM];have hx:wrap64 ((v:Int)*281474976710656)/281474976710656= -1-(m:Int):=by unfold wrap64;omega
  have hn:(-1-(m:Int)<0)=True:=by simp;omega
  have hxo:=zl7 m (by omega);have hwu:IntKind.u64.wrap (m:Int)=(m:Int):=zam _ (by omega) (by omega);have hwv:IntKind.u64.wrap ((v:Int)*281474976710656)=(v:Int)*281474976710656:=zam _ (by omega) (by omega);clear h hm hY hM;go_enter Tryz.func215,Tryz.ntmps215;go_wp2;simp[bodyPost,results,Tryz.results215,go_sem];exact zaa (Below.refl _ _) _
 ·have hY:sgY 2 v=false:=by unfold sgY;rw[decide_eq_false_iff_not];exact h
  have hM:sgM 2 v=v:=by unfold sgM;rw[if_neg (by exact h)]
  rw[hY,hM];have hx:wrap64 ((v:Int)*281474976710656)/281474976710656=(v:Int):=by unfold wrap64;omega
  have hn:((v:Int)<0)=False:=by simp
  have hwu:IntKind.u64.wrap (v:Int)=(v:Int):=zam _ (by omega) (by omega);have hwv:IntKind.u64.wrap ((v:Int)*281474976710656)=(v:Int)*281474976710656:=zam _ (by omega) (by omega);clear h hY hM;go_enter Tryz.func215,Tryz.ntmps215;go_wp2;simp[bodyPost,results,Tryz.results215,go_sem];exact zaa (Below.refl _ _) _
theorem zxe (v:Nat) (hv:v<4294967296) (w:World):Calls Tryz.prog 215 #[.int .u64 (v:Nat),.int .i64 32] w fun r w'=>r= .returned (.agg #[.bool (sgY 4 v),.int .u64 (sgM 4 v:Nat)])∧Below w.heap.size w w':=by
 by_cases h:4294967296≤2*v
 ·obtain⟨m,hm⟩:∃m,4294967296-1-v=m:=⟨_,rfl⟩
  have hY:sgY 4 v=true:=by unfold sgY;rw[decide_eq_true_eq];exact h
  have hM:sgM 4 v=m:=by unfold sgM;rw[if_pos (by exact h)];exact hm
  rw[hY,hM];have hx:wrap64 ((v:Int)*4294967296)/4294967296= -1-(m:Int):=by unfold wrap64;omega
  have hn:(-1-(m:Int)<0)=True:=by simp;omega
  have hxo:=zl7 m (by omega);have hwu:IntKind.u64.wrap (m:Int)=(m:Int):=zam _ (by omega) (by omega);have hwv:IntKind.u64.wrap ((v:Int)*4294967296)=(v:Int)*4294967296:=zam _ (by omega) (by omega);clear h hm hY hM;go_enter Tryz.func215,Tryz.ntmps215;go_wp2;simp[bodyPost,results,Tryz.results215,go_sem];exact zaa (Below.refl _ _) _
 ·have hY:sgY 4 v=false:=by unfold sgY;rw[decide_eq_false_iff_not];exact h
  have hM:sgM 4 v=v:=by unfold sgM;rw[if_neg (by exact h)]
  rw[hY,hM];have hx:wrap64 ((v:Int)*4294967296)/4294967296=(v:Int):=by unfold wrap64;omega
  have hn:((v:Int)<0)=False:=by simp
  have hwu:IntKind.u64.wrap (v:Int)=(v:Int):=zam _ (by omega) (by omega);have hwv:IntKind.u64.wrap ((v:Int)*4294967296)=(v:Int)*4294967296:=zam _ (by omega) (by omega);clear h hY hM;go_enter Tryz.func215,Tryz.ntmps215;go_wp2;simp[bodyPost,results,Tryz.results215,go_sem];exact zaa (Below.refl _ _) _
theorem zz7 (v:Nat) (hv:v<18446744073709551616) (w:World):Calls Tryz.prog 215 #[.int .u64 (v:Nat),.int .i64 64] w fun r w'=>r= .returned (.agg #[.bool (sgY 8 v),.int .u64 (sgM 8 v:Nat)])∧Below w.heap.size w w':=by
 by_cases h:18446744073709551616≤2*v
 ·obtain⟨m,hm⟩:∃m,18446744073709551616-1-v=m:=⟨_,rfl⟩
  have hY:sgY 8 v=true:=by unfold sgY;rw[decide_eq_true_eq];exact h
  have hM:sgM 8 v=m:=by unfold sgM;rw[if_pos (by exact h)];exact hm
  rw[hY,hM];have hx:wrap64 (v:Int)= -1-(m:Int):=by unfold wrap64;omega
  have hn:(-1-(m:Int)<0)=True:=by simp;omega
  have hxo:=zl7 m (by omega);have hwu:IntKind.u64.wrap (m:Int)=(m:Int):=zam _ (by omega) (by omega);have hwv:IntKind.u64.wrap ((v:Int))=(v:Int):=zam _ (by omega) (by omega);clear h hm hY hM;go_enter Tryz.func215,Tryz.ntmps215;go_wp2;simp[bodyPost,results,Tryz.results215,go_sem];exact zaa (Below.refl _ _) _
 ·have hY:sgY 8 v=false:=by unfold sgY;rw[decide_eq_false_iff_not];exact h
  have hM:sgM 8 v=v:=by unfold sgM;rw[if_neg (by exact h)]
  rw[hY,hM];have hx:wrap64 (v:Int)=(v:Int):=by unfold wrap64;omega
  have hn:((v:Int)<0)=False:=by simp
  have hwu:IntKind.u64.wrap (v:Int)=(v:Int):=zam _ (by omega) (by omega);have hwv:IntKind.u64.wrap ((v:Int))=(v:Int):=zam _ (by omega) (by omega);clear h hY hM;go_enter Tryz.func215,Tryz.ntmps215;go_wp2;simp[bodyPost,results,Tryz.results215,go_sem];exact zaa (Below.refl _ _) _
def zfr (kd nm fm:Nat):Ev:=if kd=2 then za5 true nm else if kd=3 then sgnP (2^(fm-24)) nm else if kd=1 then za5 false nm else if nm=192 then zcy else zbt (decide (nm=195))
theorem zacu (nm fm:Nat) (w:World):Calls Tryz.prog 209 #[.agg #[.int .i64 2,.int .u64 (nm:Nat),.int .u8 (fm:Nat)]] w fun r w'=>r= .returned (valE (za5 true nm))∧Below w.heap.size w w':=by
 rw[show valE (za5 true nm)= .iface 93 (.agg #[.bool true,.int .u64 (nm:Nat)]) from rfl];go_enter Tryz.func209,Tryz.ntmps209;go_wp2;go_ret;exact⟨rfl,zaa (Below.refl _ _) _⟩
theorem zus (nm fm:Nat) (w:World):Calls Tryz.prog 209 #[.agg #[.int .i64 1,.int .u64 (nm:Nat),.int .u8 (fm:Nat)]] w fun r w'=>r= .returned (valE (za5 false nm))∧Below w.heap.size w w':=by
 rw[show valE (za5 false nm)= .iface 93 (.agg #[.bool false,.int .u64 (nm:Nat)]) from rfl];go_enter Tryz.func209,Tryz.ntmps209;go_wp2;go_ret;exact⟨rfl,zaa (Below.refl _ _) _⟩
theorem zwp (nm:Nat) (hn:nm<256) (w:World):Calls Tryz.prog 209 #[.agg #[.int .i64 3,.int .u64 (nm:Nat),.int .u8 24]] w fun r w'=>r= .returned (valE (za5 (sgY 1 nm) (sgM 1 nm)))∧Below w.heap.size w w':=by
 have HW:=hid (fun W=>zw9 nm hn W);clear hn;rw[show valE (za5 (sgY 1 nm) (sgM 1 nm))= .iface 93 (.agg #[.bool (sgY 1 nm),.int .u64 (sgM 1 nm:Nat)]) from rfl];go_enter Tryz.func209,Tryz.ntmps209;generalize sgY 1 nm=y at *
 generalize sgM 1 nm=g at *
 (go_wp2_with fail);refine(HW.out _).mono ?_;rintro r w1 ⟨rfl,b1⟩;have B1:=hid (zab (zaa (Below.refl _ _) _) b1);clear b1;go_wp2;go_ret;exact⟨rfl,B1.out⟩
theorem zwk (nm:Nat) (hn:nm<65536) (w:World):Calls Tryz.prog 209 #[.agg #[.int .i64 3,.int .u64 (nm:Nat),.int .u8 25]] w fun r w'=>r= .returned (valE (za5 (sgY 2 nm) (sgM 2 nm)))∧Below w.heap.size w w':=by
 have HW:=hid (fun W=>zaa6 nm hn W);clear hn;rw[show valE (za5 (sgY 2 nm) (sgM 2 nm))= .iface 93 (.agg #[.bool (sgY 2 nm),.int .u64 (sgM 2 nm:Nat)]) from rfl];go_enter Tryz.func209,Tryz.ntmps209;generalize sgY 2 nm=y at *
 generalize sgM 2 nm=g at *
 (go_wp2_with fail);refine(HW.out _).mono ?_;rintro r w1 ⟨rfl,b1⟩;have B1:=hid (zab (zaa (Below.refl _ _) _) b1);clear b1;go_wp2;go_ret;exact⟨rfl,B1.out⟩
theorem zxh (nm:Nat) (hn:nm<4294967296) (w:World):Calls Tryz.prog 209 #[.agg #[.int .i64 3,.int .u64 (nm:Nat),.int .u8 26]] w fun r w'=>r= .returned (valE (za5 (sgY 4 nm) (sgM 4 nm)))∧Below w.heap.size w w':=by
 have HW:=hid (fun W=>zxe nm hn W);clear hn;rw[show valE (za5 (sgY 4 nm) (sgM 4 nm))= .iface 93 (.agg #[.bool (sgY 4 nm),.int .u64 (sgM 4 nm:Nat)]) from rfl];go_enter Tryz.func209,Tryz.ntmps209;generalize sgY 4 nm=y at *
 generalize sgM 4 nm=g at *
 (go_wp2_with fail);refine(HW.out _).mono ?_;rintro r w1 ⟨rfl,b1⟩;have B1:=hid (zab (zaa (Below.refl _ _) _) b1);clear b1;go_wp2;go_ret;exact⟨rfl,B1.out⟩
theorem zv1 (nm:Nat) (hn:nm<18446744073709551616) (w:World):Calls Tryz.prog 209 #[.agg #[.int .i64 3,.int .u64 (nm:Nat),.int .u8 27]] w fun r w'=>r= .returned (valE (za5 (sgY 8 nm) (sgM 8 nm)))∧Below w.heap.size w w':=by
 have HW:=hid (fun W=>zz7 nm hn W);clear hn;rw[show valE (za5 (sgY 8 nm) (sgM 8 nm))= .iface 93 (.agg #[.bool (sgY 8 nm),.int .u64 (sgM 8 nm:Nat)]) from rfl];go_enter Tryz.func209,Tryz.ntmps209;generalize sgY 8 nm=y at *
 generalize sgM 8 nm=g at *
 (go_wp2_with fail);refine(HW.out _).mono ?_;rintro r w1 ⟨rfl,b1⟩;have B1:=hid (zab (zaa (Below.refl _ _) _) b1);clear b1;go_wp2;go_ret;exact⟨rfl,B1.out⟩
theorem zzg (fm:Nat) (w:World):Calls Tryz.prog 209 #[.agg #[.int .i64 4,.int .u64 192,.int .u8 (fm:Nat)]] w fun r w'=>r= .returned (valE zcy)∧Below w.heap.size w w':=by
 rw[show valE zcy= .nilIface from rfl];go_enter Tryz.func209,Tryz.ntmps209;go_wp2;go_ret;exact⟨rfl,zaa (Below.refl _ _) _⟩
theorem zvs (nm fm:Nat) (hn:nm≠192) (w:World):Calls Tryz.prog 209 #[.agg #[.int .i64 4,.int .u64 (nm:Nat),.int .u8 (fm:Nat)]] w fun r w'=>r= .returned (valE (zbt (decide (nm=195))))∧Below w.heap.size w w':=by
 have z1:((nm:Int)==192)=false:=by rw[beq_eq_false_iff_ne];omega
 have z2:((nm:Int)==195)=decide (nm=195):=by rw[Bool.eq_iff_iff,beq_iff_eq,decide_eq_true_eq];omega
 generalize decide (nm=195)=B at *
 rw[show valE (zbt B)= .iface 4 (.bool B) from rfl];clear hn;go_enter Tryz.func209,Tryz.ntmps209;go_wp2;go_ret;exact⟨rfl,zaa (Below.refl _ _) _⟩
theorem zh4 (kd nm fm:Nat) (hk:kd=1∨kd=2∨kd=3∨kd=4) (hf:kd=3→24≤fm∧fm≤27∧nm<256^(2^(fm-24))) (w:World) :
  Calls Tryz.prog 209 #[.agg #[.int .i64 (kd:Nat),.int .u64 (nm:Nat),.int .u8 (fm:Nat)]] w fun r w'=>r= .returned (valE (zfr kd nm fm))∧Below w.heap.size w w':=by
 rcases hk with rfl|rfl|rfl|rfl
 ·exact zus nm fm w
 ·exact zacu nm fm w
 ·obtain⟨h1,h2,h3⟩:=hf rfl
  have hc:fm=24∨fm=25∨fm=26∨fm=27:=by omega
  rw[show zfr 3 nm fm=sgnP (2^(fm-24)) nm from rfl,zz5];rcases hc with rfl|rfl|rfl|rfl
  ·exact zwp nm h3 w
  ·exact zwk nm h3 w
  ·exact zxh nm h3 w
  ·exact zv1 nm h3 w
 ·by_cases h:nm=192
  ·subst h
   exact zzg fm w
  ·rw[show zfr 4 nm fm=if nm=192 then zcy else zbt (decide (nm=195)) from rfl,if_neg h]
   exact zvs nm fm h w
end
section
open Go.RowKit
open Go.Lib
theorem zll {w0 w w1:World} {b o D pl kd nm fm:Nat} {h:Hd} {vt vs:Value} {s:List Bx} (c:PP w b o D pl kd nm fm h 0 0 vt [] st0 vs s.length (inP s)) (hl:Low w0 w b vs) (hvt:∀k∈Value.owner vt,k<w0.heap.size) (hk:OkP s) (hB:Below w.heap.size w w1) (e:Ev) (g:Nat) (hg:g=w1.heap.size) :
  Calls Tryz.prog 208 #[.pointer (some ⟨b,o,none⟩),.slice (some ⟨g,0,none⟩) 1 1] (w1.alloc (.cells #[valE e] 20)) fun r w'=>∃x,r= .returned x∧GoM w0 w w' b o D vt vs (za1 (putC s e)) x:=by
 subst hg;have h2:Below w.heap.size w (w1.alloc (.cells #[valE e] 20)):=zaa hB _;have hc2:PP (w1.alloc (.cells #[valE e] 20)) b o D pl kd nm fm h 0 0 vt [] st0 vs (incB s).length (outP (incB s)):=by
  rw[zbh,zl6];exact c.go h2
 have hv:Vls w0 (w1.alloc (.cells #[valE e] 20)) (.slice (some ⟨w1.heap.size,0,none⟩) 1 1) [e]:=⟨zfv w1 _ _ _ rfl,fun k hk=>by
  simp only[Value.owner,List.mem_singleton] at hk;have:=hl.size;have:=hB.size;omega⟩
 refine(zl0 (w0:=w0) hc2 hv (by simp) (Nat.le_trans hl.size h2.size) hl.b hvt hl.vs hk.inc).mono ?_;rintro r w' ⟨x,rfl,hR⟩;exact⟨x,rfl,zlf hR (.inr rfl) rfl (fun k hk=>by
  simp only[Value.owner,List.mem_singleton] at hk;have:=hB.size;omega) (zae h2 c.lt _ _ _)⟩
def begP (s:List Bx) (kd nm fm:Nat):Pm×List Ev :=
 if kd=7 then za1 (lenP s false nm) else if kd=8 then za1 (lenP s true nm) else if kd=9 then za1 (cntP s false nm) else if kd=10 then za1 (cntP s true nm) else za1 (putC s (zfr kd nm fm))
theorem zlj (kd nm fm:Nat):∃T y,valE (zfr kd nm fm)= .iface T y∨valE (zfr kd nm fm)= .nilIface:=by
 unfold zfr;split
 ·exact⟨_,_,.inl rfl⟩
 split
 ·rw[zz5]
  exact⟨_,_,.inl rfl⟩
 split
 ·exact⟨_,_,.inl rfl⟩
 split
 ·exact⟨0,.bool true,.inr rfl⟩
 ·exact⟨_,_,.inl rfl⟩
theorem zxt {w0 w:World} {b o D pl kd nm fm:Nat} {h:Hd} {vt:Value} {vs:Value} {s:List Bx} (c:PP w b o D pl kd nm fm h 0 0 vt [] st0 vs s.length (inP s)) (hl:Low w0 w b vs) (hvt:∀k∈Value.owner vt,k<w0.heap.size) (hk:OkP s) (v f:Nat) (hf:1=3→24≤f∧f≤27∧v<256^(2^(f-24))) :
  Calls Tryz.prog 201 #[.pointer (some ⟨b,o,none⟩),.agg #[.int .i64 1,.int .u64 (v:Nat),.int .u8 (f:Nat)]] w fun r w' =>
   ∃x,r= .returned (.tuple #[x,.int .i64 0])∧GoM w0 w w' b o D vt vs (za1 (putC s (zfr 1 v f))) x:=by
 have HP:=hid (fun W=>zh4 1 v f (by omega) hf W);have hB:Below w.heap.size w (w.alloc (.cells #[.int .i64 1,.int .u64 (v:Nat),.int .u8 (f:Nat)] 150)):=zaa (Below.refl _ _) _;have HE:=hid (fun w1 (k:Below w.heap.size w w1)=>zll (w0:=w0) c hl hvt hk k (zfr 1 v f) _ rfl);have HB:=hid hB;obtain⟨T,y,hT⟩:=zlj 1 v f;clear c hl hvt hk hf hB;rcases hT with hT|hT
 ·go_enter Tryz.func201,Tryz.ntmps201
  (go_wp2_with fail);refine(HP.out _).mono ?_;rintro r w1 ⟨rfl,b1⟩;have HE1:=hid (HE.out _ (zab HB.out b1));rw[hT] at HE1 ⊢;clear b1 HE HP;(go_wp2_with fail);refine HE1.out.mono ?_;rintro r w' ⟨x,rfl,hR⟩;have HR:=hid hR;clear hR;go_wp2;go_ret2;exact⟨x,rfl,HR.out⟩
 ·go_enter Tryz.func201,Tryz.ntmps201
  (go_wp2_with fail);refine(HP.out _).mono ?_;rintro r w1 ⟨rfl,b1⟩;have HE1:=hid (HE.out _ (zab HB.out b1));rw[hT] at HE1 ⊢;clear b1 HE HP;(go_wp2_with fail);refine HE1.out.mono ?_;rintro r w' ⟨x,rfl,hR⟩;have HR:=hid hR;clear hR;go_wp2;go_ret2;exact⟨x,rfl,HR.out⟩
theorem zzo {w0 w:World} {b o D pl kd nm fm:Nat} {h:Hd} {vt:Value} {vs:Value} {s:List Bx} (c:PP w b o D pl kd nm fm h 0 0 vt [] st0 vs s.length (inP s)) (hl:Low w0 w b vs) (hvt:∀k∈Value.owner vt,k<w0.heap.size) (hk:OkP s) (v f:Nat) (hf:2=3→24≤f∧f≤27∧v<256^(2^(f-24))) :
  Calls Tryz.prog 201 #[.pointer (some ⟨b,o,none⟩),.agg #[.int .i64 2,.int .u64 (v:Nat),.int .u8 (f:Nat)]] w fun r w' =>
   ∃x,r= .returned (.tuple #[x,.int .i64 0])∧GoM w0 w w' b o D vt vs (za1 (putC s (zfr 2 v f))) x:=by
 have HP:=hid (fun W=>zh4 2 v f (by omega) hf W);have hB:Below w.heap.size w (w.alloc (.cells #[.int .i64 2,.int .u64 (v:Nat),.int .u8 (f:Nat)] 150)):=zaa (Below.refl _ _) _;have HE:=hid (fun w1 (k:Below w.heap.size w w1)=>zll (w0:=w0) c hl hvt hk k (zfr 2 v f) _ rfl);have HB:=hid hB;obtain⟨T,y,hT⟩:=zlj 2 v f;clear c hl hvt hk hf hB;rcases hT with hT|hT
 ·go_enter Tryz.func201,Tryz.ntmps201
  (go_wp2_with fail);refine(HP.out _).mono ?_;rintro r w1 ⟨rfl,b1⟩;have HE1:=hid (HE.out _ (zab HB.out b1));rw[hT] at HE1 ⊢;clear b1 HE HP;(go_wp2_with fail);refine HE1.out.mono ?_;rintro r w' ⟨x,rfl,hR⟩;have HR:=hid hR;clear hR;go_wp2;go_ret2;exact⟨x,rfl,HR.out⟩
 ·go_enter Tryz.func201,Tryz.ntmps201
  (go_wp2_with fail);refine(HP.out _).mono ?_;rintro r w1 ⟨rfl,b1⟩;have HE1:=hid (HE.out _ (zab HB.out b1));rw[hT] at HE1 ⊢;clear b1 HE HP;(go_wp2_with fail);refine HE1.out.mono ?_;rintro r w' ⟨x,rfl,hR⟩;have HR:=hid hR;clear hR;go_wp2;go_ret2;exact⟨x,rfl,HR.out⟩
theorem zaa0 {w0 w:World} {b o D pl kd nm fm:Nat} {h:Hd} {vt:Value} {vs:Value} {s:List Bx} (c:PP w b o D pl kd nm fm h 0 0 vt [] st0 vs s.length (inP s)) (hl:Low w0 w b vs) (hvt:∀k∈Value.owner vt,k<w0.heap.size) (hk:OkP s) (v f:Nat) (hf:3=3→24≤f∧f≤27∧v<256^(2^(f-24))) :
  Calls Tryz.prog 201 #[.pointer (some ⟨b,o,none⟩),.agg #[.int .i64 3,.int .u64 (v:Nat),.int .u8 (f:Nat)]] w fun r w' =>
   ∃x,r= .returned (.tuple #[x,.int .i64 0])∧GoM w0 w w' b o D vt vs (za1 (putC s (zfr 3 v f))) x:=by
 have HP:=hid (fun W=>zh4 3 v f (by omega) hf W);have hB:Below w.heap.size w (w.alloc (.cells #[.int .i64 3,.int .u64 (v:Nat),.int .u8 (f:Nat)] 150)):=zaa (Below.refl _ _) _;have HE:=hid (fun w1 (k:Below w.heap.size w w1)=>zll (w0:=w0) c hl hvt hk k (zfr 3 v f) _ rfl);have HB:=hid hB;obtain⟨T,y,hT⟩:=zlj 3 v f;clear c hl hvt hk hf hB;rcases hT with hT|hT
 ·go_enter Tryz.func201,Tryz.ntmps201
  (go_wp2_with fail);refine(HP.out _).mono ?_;rintro r w1 ⟨rfl,b1⟩;have HE1:=hid (HE.out _ (zab HB.out b1));rw[hT] at HE1 ⊢;clear b1 HE HP;(go_wp2_with fail);refine HE1.out.mono ?_;rintro r w' ⟨x,rfl,hR⟩;have HR:=hid hR;clear hR;go_wp2;go_ret2;exact⟨x,rfl,HR.out⟩
 ·go_enter Tryz.func201,Tryz.ntmps201
  (go_wp2_with fail);refine(HP.out _).mono ?_;rintro r w1 ⟨rfl,b1⟩;have HE1:=hid (HE.out _ (zab HB.out b1));rw[hT] at HE1 ⊢;clear b1 HE HP;(go_wp2_with fail);refine HE1.out.mono ?_;rintro r w' ⟨x,rfl,hR⟩;have HR:=hid hR;clear hR;go_wp2;go_ret2;exact⟨x,rfl,HR.out⟩
theorem zzc {w0 w:World} {b o D pl kd nm fm:Nat} {h:Hd} {vt:Value} {vs:Value} {s:List Bx} (c:PP w b o D pl kd nm fm h 0 0 vt [] st0 vs s.length (inP s)) (hl:Low w0 w b vs) (hvt:∀k∈Value.owner vt,k<w0.heap.size) (hk:OkP s) (v f:Nat) (hf:4=3→24≤f∧f≤27∧v<256^(2^(f-24))) :
  Calls Tryz.prog 201 #[.pointer (some ⟨b,o,none⟩),.agg #[.int .i64 4,.int .u64 (v:Nat),.int .u8 (f:Nat)]] w fun r w' =>
   ∃x,r= .returned (.tuple #[x,.int .i64 0])∧GoM w0 w w' b o D vt vs (za1 (putC s (zfr 4 v f))) x:=by
 have HP:=hid (fun W=>zh4 4 v f (by omega) hf W);have hB:Below w.heap.size w (w.alloc (.cells #[.int .i64 4,.int .u64 (v:Nat),.int .u8 (f:Nat)] 150)):=zaa (Below.refl _ _) _;have HE:=hid (fun w1 (k:Below w.heap.size w w1)=>zll (w0:=w0) c hl hvt hk k (zfr 4 v f) _ rfl);have HB:=hid hB;obtain⟨T,y,hT⟩:=zlj 4 v f;clear c hl hvt hk hf hB;rcases hT with hT|hT
 ·go_enter Tryz.func201,Tryz.ntmps201
  (go_wp2_with fail);refine(HP.out _).mono ?_;rintro r w1 ⟨rfl,b1⟩;have HE1:=hid (HE.out _ (zab HB.out b1));rw[hT] at HE1 ⊢;clear b1 HE HP;(go_wp2_with fail);refine HE1.out.mono ?_;rintro r w' ⟨x,rfl,hR⟩;have HR:=hid hR;clear hR;go_wp2;go_ret2;exact⟨x,rfl,HR.out⟩
 ·go_enter Tryz.func201,Tryz.ntmps201
  (go_wp2_with fail);refine(HP.out _).mono ?_;rintro r w1 ⟨rfl,b1⟩;have HE1:=hid (HE.out _ (zab HB.out b1));rw[hT] at HE1 ⊢;clear b1 HE HP;(go_wp2_with fail);refine HE1.out.mono ?_;rintro r w' ⟨x,rfl,hR⟩;have HR:=hid hR;clear hR;go_wp2;go_ret2;exact⟨x,rfl,HR.out⟩
theorem zaaf {w0 w:World} {b o D pl kd nm fm:Nat} {h:Hd} {vt:Value} {vs:Value} {s:List Bx} (c:PP w b o D pl kd nm fm h 0 0 vt [] st0 vs s.length (inP s)) (hl:Low w0 w b vs) (_:∀k∈Value.owner vt,k<w0.heap.size) (hk:OkP s) (v f:Nat) :
  Calls Tryz.prog 201 #[.pointer (some ⟨b,o,none⟩),.agg #[.int .i64 7,.int .u64 (v:Nat),.int .u8 (f:Nat)]] w fun r w' =>
   ∃x,r= .returned (.tuple #[x,.int .i64 (zcw (za1 (lenP s false v)).1:Nat)])∧GoM w0 w w' b o D vt vs (za1 (lenP s false v)) x:=by
 have hB:Below w.heap.size w (w.alloc (.cells #[.int .i64 7,.int .u64 (v:Nat),.int .u8 (f:Nat)] 150)):=zaa (Below.refl _ _) _;have HE:=hid (zga (c.go hB) (hl.up hB) hk false v f);have HF:=hid (And.intro hB c.lt);clear c hB hl hk;go_enter Tryz.func201,Tryz.ntmps201;(go_wp2_with fail);refine HE.out.mono ?_;rintro r w' ⟨x,rfl,hR⟩;have HR:=hid hR;clear hR;go_wp2;go_ret2;exact⟨x,rfl,HR.out.up HF.out.1 HF.out.2⟩
theorem zwx {w0 w:World} {b o D pl kd nm fm:Nat} {h:Hd} {vt:Value} {vs:Value} {s:List Bx} (c:PP w b o D pl kd nm fm h 0 0 vt [] st0 vs s.length (inP s)) (hl:Low w0 w b vs) (_:∀k∈Value.owner vt,k<w0.heap.size) (hk:OkP s) (v f:Nat) :
  Calls Tryz.prog 201 #[.pointer (some ⟨b,o,none⟩),.agg #[.int .i64 8,.int .u64 (v:Nat),.int .u8 (f:Nat)]] w fun r w' =>
   ∃x,r= .returned (.tuple #[x,.int .i64 (zcw (za1 (lenP s true v)).1:Nat)])∧GoM w0 w w' b o D vt vs (za1 (lenP s true v)) x:=by
 have hB:Below w.heap.size w (w.alloc (.cells #[.int .i64 8,.int .u64 (v:Nat),.int .u8 (f:Nat)] 150)):=zaa (Below.refl _ _) _;have HE:=hid (zga (c.go hB) (hl.up hB) hk true v f);have HF:=hid (And.intro hB c.lt);clear c hB hl hk;go_enter Tryz.func201,Tryz.ntmps201;(go_wp2_with fail);refine HE.out.mono ?_;rintro r w' ⟨x,rfl,hR⟩;have HR:=hid hR;clear hR;go_wp2;go_ret2;exact⟨x,rfl,HR.out.up HF.out.1 HF.out.2⟩
theorem zx5 {w0 w:World} {b o D pl kd nm fm:Nat} {h:Hd} {vt:Value} {vs:Value} {s:List Bx} (c:PP w b o D pl kd nm fm h 0 0 vt [] st0 vs s.length (inP s)) (hl:Low w0 w b vs) (hvt:∀k∈Value.owner vt,k<w0.heap.size) (hk:OkP s) (hd:s.length<16) (v f:Nat) :
  Calls Tryz.prog 201 #[.pointer (some ⟨b,o,none⟩),.agg #[.int .i64 9,.int .u64 (v:Nat),.int .u8 (f:Nat)]] w fun r w' =>
   ∃x,r= .returned (.tuple #[x,.int .i64 (zcw (za1 (cntP s false v)).1:Nat)])∧GoM w0 w w' b o D vt vs (za1 (cntP s false v)) x:=by
 have hB:Below w.heap.size w (w.alloc (.cells #[.int .i64 9,.int .u64 (v:Nat),.int .u8 (f:Nat)] 150)):=zaa (Below.refl _ _) _;have HE:=hid (zra (c.go hB) (hl.up hB) hk hvt hd false v f);have HF:=hid (And.intro hB c.lt);clear c hB hl hk hvt hd;go_enter Tryz.func201,Tryz.ntmps201;(go_wp2_with fail);refine HE.out.mono ?_;rintro r w' ⟨x,rfl,hR⟩;have HR:=hid hR;clear hR;go_wp2;go_ret2;exact⟨x,rfl,HR.out.up HF.out.1 HF.out.2⟩
theorem zs1 {w0 w:World} {b o D pl kd nm fm:Nat} {h:Hd} {vt:Value} {vs:Value} {s:List Bx} (c:PP w b o D pl kd nm fm h 0 0 vt [] st0 vs s.length (inP s)) (hl:Low w0 w b vs) (hvt:∀k∈Value.owner vt,k<w0.heap.size) (hk:OkP s) (hd:s.length<16) (v f:Nat) :
  Calls Tryz.prog 201 #[.pointer (some ⟨b,o,none⟩),.agg #[.int .i64 10,.int .u64 (v:Nat),.int .u8 (f:Nat)]] w fun r w' =>
   ∃x,r= .returned (.tuple #[x,.int .i64 (zcw (za1 (cntP s true v)).1:Nat)])∧GoM w0 w w' b o D vt vs (za1 (cntP s true v)) x:=by
 have hB:Below w.heap.size w (w.alloc (.cells #[.int .i64 10,.int .u64 (v:Nat),.int .u8 (f:Nat)] 150)):=zaa (Below.refl _ _) _;have HE:=hid (zra (c.go hB) (hl.up hB) hk hvt hd true v f);have HF:=hid (And.intro hB c.lt);clear c hB hl hk hvt hd;go_enter Tryz.func201,Tryz.ntmps201;(go_wp2_with fail);refine HE.out.mono ?_;rintro r w' ⟨x,rfl,hR⟩;have HR:=hid hR;clear hR;go_wp2;go_ret2;exact⟨x,rfl,HR.out.up HF.out.1 HF.out.2⟩
theorem zkc {w0 w:World} {b o D pl kd nm fm:Nat} {h:Hd} {vt:Value} {vs:Value} {s:List Bx} (c:PP w b o D pl kd nm fm h 0 0 vt [] st0 vs s.length (inP s)) (hl:Low w0 w b vs) (hvt:∀k∈Value.owner vt,k<w0.heap.size) (hk:OkP s)
  (K v f:Nat) (hK:1≤K∧K≤10∧K≠5∧K≠6) (hf:K=3→24≤f∧f≤27∧v<256^(2^(f-24))) (hd:9≤K→s.length<16) :
  Calls Tryz.prog 201 #[.pointer (some ⟨b,o,none⟩),.agg #[.int .i64 (K:Nat),.int .u64 (v:Nat),.int .u8 (f:Nat)]] w fun r w' =>
   ∃x,r= .returned (.tuple #[x,.int .i64 (zcw (begP s K v f).1:Nat)])∧GoM w0 w w' b o D vt vs (begP s K v f) x:=by
 have hc:K=1∨K=2∨K=3∨K=4∨K=7∨K=8∨K=9∨K=10:=by omega
 rcases hc with rfl|rfl|rfl|rfl|rfl|rfl|rfl|rfl
 ·exact zxt c hl hvt hk v f hf
 ·exact zzo c hl hvt hk v f hf
 ·exact zaa0 c hl hvt hk v f hf
 ·exact zzc c hl hvt hk v f hf
 ·exact zaaf c hl hvt hk v f
 ·exact zwx c hl hvt hk v f
 ·exact zx5 c hl hvt hk (hd (by omega)) v f
 ·exact zs1 c hl hvt hk (hd (by omega)) v f
end
section
open Go.RowKit
open Go.Lib
def ccB (b:Bx) (k:Nat):List Value:=[.bool b.map,.int .i64 (cntB b),.int .i64 (k:Int)]
def outL:List Bx→List Value
 | []=>[]
 | b::r=>outL r++ccB b (b.have_-1)
def inL:List Bx→List Value
 | []=>[]
 | b::r=>outL r++ccB b b.have_
theorem zdf:∀s:List Bx,(outL s).length=s.length*3
 | []=>rfl
 | b::r=>by rw[outL,List.length_append,zdf r];simp[ccB];omega
theorem zlt:∀s:List Bx,outL (incB s)=inL s
 | []=>rfl
 | _::_=>rfl
structure OkS (s:List Bx):Prop where
 deep:s.length≤16
 c:∀x∈s, -1≤x.c∧x.c≤1000000
 some_:∀x∈s.tail,1≤x.have_
 most:∀x∈s,x.have_≤2000000000
theorem zji:(Tryz.prog.info? 250).map (fun i=>(i.zero,i.size,i.bytes))=some (some (.agg #[.bool false,.int .i64 0,.int .i64 0]),3,24):=by kernel_rfl
theorem zmt (m:Bool) (c:Int) (h:Nat) (w:World) :
    Calls Tryz.prog 190 #[.agg #[.bool m,.int .i64 c,.int .i64 (h:Int)]] w fun r w'=>r= .returned (.bool (m&&decide (h%2=1)))∧Below w.heap.size w w':=by
  have hz:((h:Int)%2 !=0)=decide (h%2=1):=by
    rw[Bool.eq_iff_iff,bne_iff_ne,decide_eq_true_eq];omega
  go_enter Tryz.func190,Tryz.ntmps190;cases m with
  | false =>
    go_wp2;go_ret;exact⟨rfl,zaa (Below.refl _ _) _⟩
  | true =>
    go_wp2;go_ret;exact⟨rfl,zaa (Below.refl _ _) _⟩
theorem zla {w:World} {v:Value} {b:Bx} {r:List Bx} {k:Nat} (h:Win w 250 3 v (r.length+1) (outL r++ccB b k)) :
    ∃ g off cap,v= .slice (some ⟨g,off,none⟩) (r.length+1) cap ∧
      (w.cell? ⟨g,off+r.length*3,none⟩=some (.bool b.map)∧w.cell? ⟨g,off+r.length*3+1,none⟩=some (.int .i64 (cntB b))∧w.cell? ⟨g,off+r.length*3+2,none⟩=some (.int .i64 (k:Int))) ∧
      (w.frozen? ⟨g,off+r.length*3,none⟩=false∧w.frozen? ⟨g,off+r.length*3+1,none⟩=false∧w.frozen? ⟨g,off+r.length*3+2,none⟩=false):=by
  obtain⟨g,off,cap,rfl,h1,h2,_,_,h3⟩:=h.form (by simp);have hl:=zdf r;have hx:∀j u,(ccB b k)[j]? = some u→w.cell? ⟨g,off+(r.length*3+j),none⟩=some u∧w.frozen? ⟨g,off+(r.length*3+j),none⟩=false:=fun j u hu=>by
    refine h3 _ u ?_;rw[← hl,List.getElem?_append_right (by omega),Nat.add_sub_cancel_left];exact hu
  have x0:=hx 0 _ rfl;have x1:=hx 1 _ rfl;have x2:=hx 2 _ rfl;simp only[← Nat.add_assoc,Nat.add_zero] at x0 x1 x2;exact⟨g,off,cap,rfl,⟨x0.1,x1.1,x2.1⟩,⟨x0.2,x1.2,x2.2⟩⟩
theorem zoj {w:World} {b:Bx} {r:List Bx} {k k' g off cap n:Nat} (_:n=r.length+1) (h:Win w 250 3 (.slice (some ⟨g,off,none⟩) n cap) n (outL r++ccB b k)) :
  Win (w.setCell ⟨g,off+r.length*3+2,none⟩ (.int .i64 (k':Int))) 250 3 (.slice (some ⟨g,off,none⟩) n cap) n (outL r++ccB b k'):=by
 have hw:=h.store (r.length*3+2) (by rw[List.length_append,zdf];simp[ccB]) (.int .i64 (k':Int));have hx:(outL r++ccB b k).set (r.length*3+2) (.int .i64 (k':Int))=outL r++ccB b k':=by
  rw[← zdf,List.set_append,if_neg (by omega),Nat.add_sub_cancel_left];rfl
 rw[hx,← Nat.add_assoc] at hw;exact hw
theorem zug (_:Nat) (w:World):∀v,Win w 250 3 v 0 []→Calls Tryz.prog 191 #[v] w fun r w'=>r= .returned (.bool false)∧w=w':=by
 intro v h;obtain⟨a,cap,rfl,_,_⟩:=h.slice_form;clear h;go_enter Tryz.func191,Tryz.ntmps191;go_wp2;go_ret;exact⟨rfl,rfl⟩
theorem zvg {w:World} {b:Bx} {r:List Bx} {k n:Nat} {v:Value} (hn:n=r.length+1) (hd:n≤16) (h:Win w 250 3 v n (outL r++ccB b k)) (hk:k≤2000000000) :
  Calls Tryz.prog 191 #[v] w fun e w'=>e= .returned (.bool (((k+1:Nat):Int)==cntB b))∧∃g off cap q,v= .slice (some ⟨g,off,none⟩) n cap∧w'=(w.setCell ⟨g,off+r.length*3+2,none⟩ (.int .i64 ((k+1:Nat):Int))).drewN q:=by
 subst hn;obtain⟨g,off,cap,rfl,⟨c0,c1,c2⟩,⟨f0,f1,f2⟩⟩:=zla h;clear h;generalize r.length=m at *
 have hw:IntKind.i64.wrap ((k:Int)+1)=(k:Int)+1:=by simp only[IntKind.wrap_i64];omega
 have hz:((m:Int)+1==0)=false:=by rw[beq_eq_false_iff_ne];omega
 have hwm:wrap64 (m:Int)=(m:Int):=by unfold wrap64;omega
 generalize cntB b=C at *
 go_enter Tryz.func191,Tryz.ntmps191;go_wp2
 go_quiet (fail)
 go_wp2;go_ret;exact⟨rfl,g,off,cap,_,rfl,rfl⟩
end
section
open Go.RowKit
open Go.Lib
structure Nst (w:World) (b o:Nat) (v:Value) (n:Nat) (xs:List Value):Prop where
 ptr:At w b o [v]
 win:Win w 250 3 v n xs
 far:b∉Value.owner v
theorem Nst.subg {g:List Nat} {w w':World} {b o o' m n:Nat} {v:Value} {xs:List Value} (h:Nst w b o v n xs) (k:Subg g b o' m w w') (hd:o+1≤o'∨o'+m≤o) (hg:∀x∈Value.owner v,x∉g):Nst w' b o v n xs :=
 ⟨h.ptr.subg k hd,h.win.subg k h.far hg,h.far⟩
theorem Nst.keep {w w':World} {b o n:Nat} {v:Value} {xs:List Value} (h:Nst w b o v n xs) (hk:Below w.heap.size w w'):Nst w' b o v n xs :=
 ⟨h.ptr.keep (hk.block b (h.ptr.lt (by simp))),h.win.keep fun k hx=>hk.block k (h.win.lt k hx),h.far⟩
theorem Nst.drewN {w:World} {b o n:Nat} {v:Value} {xs:List Value} (h:Nst w b o v n xs) (q:Nat):Nst (w.drewN q) b o v n xs:=⟨h.ptr,h.win,h.far⟩
theorem zqz {w:World} {b o:Nat} {v:Value} {x:Bx} {r:List Bx} {k n:Nat} (hn:n=r.length+1) (hd:n≤16) (h:Nst w b o v n (outL r++ccB x k)) :
  Calls Tryz.prog 178 #[.pointer (some ⟨b,o,none⟩)] w fun e w'=>e= .returned (.tuple #[])∧∃v',Nst w' b o v' r.length (outL r)∧Value.owner v'=Value.owner v∧Sub b o 1 w w':=by
 subst hn;obtain⟨a,cp,rfl,_,_⟩:=h.win.slice_form;have c1:=(h.ptr 0 _ rfl).1;have f1:=(h.ptr 0 _ rfl).2;simp only[Nat.add_zero] at c1 f1;obtain⟨v',hsl,hw',ho'⟩:=h.win.hi (P:=Tryz.prog) (t:=146) Tryz.underlying146 (fun w=>by kernel_rfl) r.length (by omega);rw[← zdf,List.take_left] at hw';obtain⟨a',c',rfl,_,_⟩:=hw'.slice_form;have hl:IntKind.i64.wrap (r.length:Int)=(r.length:Int):=by simp only[IntKind.wrap_i64];omega
 have hfin:Hid (Nst (w.setCell ⟨b,o,none⟩ (.slice a' r.length c')) b o (.slice a' r.length c') r.length (outL r)):=hid ⟨h.ptr.set 0 (by simp) _,hw'.setCell_far (by rw[ho'];exact h.far) _,by rw[ho'];exact h.far⟩;have HO:=hid ho';generalize r.length=m at *
 clear h hw' ho' hd;go_enter Tryz.func178,Tryz.ntmps178;(go_wp2_with fail);refine za4 11 (by kernel_rfl) (by kernel_rfl) ?_;simp only[List.take_succ_cons,List.take_zero,List.drop_succ_cons,List.drop_zero]
 repeat still_step
 refine wpStill_nil ?_;go_wp2
 go_end0
 exact⟨rfl,_,hfin.out.drewN 1,HO.out,(zac w o _ (by omega)).drewN 1⟩
theorem zup {w:World} {b o:Nat} {v:Value} {s:List Bx} (h:Nst w b o v s.length (outL s)) (hk:∀x∈s,1≤x.have_∧x.have_≤2000000000) (hd:s.length≤16) :
    Calls Tryz.prog 188 #[.pointer (some ⟨b,o,none⟩)] w fun r w'=>r= .returned (.int .i64 (numC s:Nat))∧∃v',Nst w' b o v' (zap s).length (inL (zap s))∧Value.owner v'=Value.owner v∧Subg (Value.owner v) b o 1 w w':=by
  have H:=hid (And.intro h hk);obtain⟨N,hN⟩:∃N,s.length=N:=⟨_,rfl⟩
  have HN:=hid hN;rw[hN] at hd;clear h hk hN;go_enter Tryz.func188,Tryz.ntmps188;go_wp2
  go_loopw [3] (fun i wr=>∃(j:Nat),i= .int .i64 j∧j≤N∧Hid (∃(q:List Bx) (v':Value),q.length+j=N∧zap s=zap q∧numC s=numC q+j∧Nst wr b o v' q.length (outL q)∧(∀x∈q,1≤x.have_∧x.have_≤2000000000)∧Value.owner v'=Value.owner v∧Subg (Value.owner v) b o 1 w wr)) (fun i _=>N-(RowKit.intOf i).toNat)
  case atStart=>exact⟨0,rfl,by omega,hid ⟨s,v,by rw[HN.out];rfl,rfl,rfl,H.out.1,H.out.2,rfl,Subg.refl _ _ _ _ _⟩⟩
  case round =>
    obtain⟨j,rfl,hj,HI⟩:=hrel;obtain⟨q,v',h1,h2,h3,h4,h5,h6,h7⟩:=HI.out;have hwj:wrap64 ((j:Int)+1)=(j:Int)+1:=by unfold wrap64;omega
    have hwj2:IntKind.i64.wrap ((j:Int)+1)=(j:Int)+1:=by simp only[IntKind.wrap_i64];omega
    cases q with
    | nil =>
      have c1:=(h4.ptr 0 _ rfl).1;have f1:=(h4.ptr 0 _ rfl).2;simp only[Nat.add_zero] at c1 f1;have HC:=hid (zug 0 wr v' h4.win);have HR:=hid (And.intro h2 (And.intro h3 (And.intro h4 (And.intro h6 h7))));clear HI h1 h2 h3 h4 h5 h6 h7 H;(go_wp2_with fail);refine HC.out.mono ?_;rintro r w1 ⟨rfl,rfl⟩;go_wp2;go_ret;obtain⟨h2,h3,h4,h6,h7⟩:=HR.out;refine⟨by rw[h3];simp[numC],v',?_,h6,h7⟩;rw[h2];exact h4
    | cons x r =>
      have c1:=(h4.ptr 0 _ rfl).1;have f1:=(h4.ptr 0 _ rfl).2;simp only[Nat.add_zero] at c1 f1;have hx:=h5 x (by simp);have hkk:x.have_-1+1=x.have_:=by omega
      have HC:=zvg (k:=x.have_-1) rfl (by simp only[List.length_cons] at h1;omega) h4.win (by omega);rw[hkk,← zhx] at HC;have HC:=hid HC;have HR:=hid (And.intro h1 (And.intro h2 (And.intro h3 (And.intro h4 (And.intro h5 (And.intro h6 h7))))));have HK:=hid hkk;clear HI h1 h2 h3 h4 h5 h6 h7 hx hkk;by_cases hf:zfk x=true
      · rw[hf] at HC
        have HF:=hid hf;clear hf;(go_wp2_with fail);refine HC.out.mono ?_;rintro e w1 ⟨rfl,g,off,cap,q,rfl,hw1⟩;have HW1:=hid hw1;have hN1:Hid (Nst w1 b o (.slice (some ⟨g,off,none⟩) (r.length+1) cap) (r.length+1) (outL r++ccB x x.have_)∧Subg (Value.owner (.slice (some ⟨g,off,none⟩) (r.length+1) cap)) b o 1 wr w1):=hid (by
          obtain⟨h1,h2,h3,h4,h5,h6,h7⟩:=HR.out;have hne:g≠b:=fun e=>h4.far (by simp[Value.owner,e])
          have hs:=zoj (k':=x.have_) rfl h4.win;rw[hw1];have hS:Subg (Value.owner (.slice (some ⟨g,off,none⟩) (r.length+1) cap)) b o 1 wr (wr.setCell ⟨g,off+r.length*3+2,none⟩ (.int .i64 (x.have_:Int))):=zmi wr (by simp[Value.owner]) hne _;exact⟨⟨h4.ptr.keep (Below.heap_setCell wr _ _ b (fun e=>hne e.symm)),hs,h4.far⟩,hS.drewN q⟩)
        clear hw1 HW1;(go_wp2_with fail);refine(zqz (k:=x.have_) rfl (by have:=HR.out.1;simp only[List.length_cons] at this;omega) hN1.out.1).mono ?_;rintro e w2 ⟨rfl,v2,hN2,ho2,hS2⟩;have H2:=hid (And.intro hN2 (And.intro ho2 hS2));clear hN2 ho2 hS2;go_wp2
        go_roundw
        case rel =>
          obtain⟨h1,h2,h3,h4,h5,h6,h7⟩:=HR.out;simp only[List.length_cons] at h1;refine⟨j+1,rfl,by omega,hid ⟨r,v2,by omega,?_,?_,H2.out.1,fun y hy=>h5 y (List.mem_cons_of_mem _ hy),H2.out.2.1.trans h6,?_⟩⟩
          · rw[h2,zap,if_pos HF.out]
          · rw[h3,numC,if_pos HF.out];omega
          · rw[← h6]
            exact(h6▸h7).tr (hN1.out.2.tr (H2.out.2.2.subg _))
        case measure =>
          have:=HR.out.1;simp only[List.length_cons] at this;simp[RowKit.intOf];omega
      · rw[show zfk x=false by simpa using hf] at HC
        have HF:=hid hf;clear hf;(go_wp2_with fail);refine HC.out.mono ?_;rintro e w1 ⟨rfl,g,off,cap,q,rfl,hw1⟩;have HW1:=hid hw1;clear hw1;go_wp2;go_ret;obtain⟨h1,h2,h3,h4,h5,h6,h7⟩:=HR.out;have hne:g≠b:=fun e=>h4.far (by simp[Value.owner,e])
        have hs:=zoj (k':=x.have_) rfl h4.win;have hw1:=HW1.out;rw[hw1];have hS:Subg (Value.owner (.slice (some ⟨g,off,none⟩) (r.length+1) cap)) b o 1 wr (wr.setCell ⟨g,off+r.length*3+2,none⟩ (.int .i64 (x.have_:Int))):=zmi wr (by simp[Value.owner]) hne _;have hq:zap (x::r)=x::r:=by rw[zap,if_neg HF.out]
        have hq2:numC (x::r)=0:=by rw[numC,if_neg HF.out]
        refine⟨by rw[h3,hq2];simp,_,?_,h6,?_⟩
        · rw[h2,hq]
          exact Nst.drewN ⟨h4.ptr.keep (Below.heap_setCell wr _ _ b (fun e=>hne e.symm)),hs,h4.far⟩ q
        · rw[← h6]
          exact(h6▸h7).tr (hS.drewN q)
end
section
open Go.RowKit
open Go.Lib
theorem zago {w:World} {v:Value} {s:List Bx} (h:Win w 250 3 v s.length (inL s)) (hd:s.length≤16) :
    Calls Tryz.prog 186 #[v] w fun r w'=>r= .returned (.bool (keyB s))∧Below w.heap.size w w':=by
  cases s with
  | nil =>
    obtain⟨a,cp,rfl,_,_⟩:=h.slice_form;clear h;go_enter Tryz.func186,Tryz.ntmps186;go_wp2;go_ret;exact⟨rfl,Below.refl _ _⟩
  | cons x r =>
    obtain⟨g,off,cap,rfl,⟨c0,c1,c2⟩,⟨f0,f1,f2⟩⟩:=zla h;rw[zaf7];obtain⟨m,c,k⟩:=x;simp only[List.length_cons] at *
    have HL:=hid (fun(W:World)=>zmt m (cntB ⟨m,c,k⟩) k W);generalize cntB ⟨m,c,k⟩=C at *
    clear h;generalize r.length=n at *
    have hwn:wrap64 (n:Int)=(n:Int):=by unfold wrap64;omega
    have hwn2:IntKind.i64.wrap (n:Int)=(n:Int):=by simp only[IntKind.wrap_i64];omega
    have hz:((n:Int)≥0)=True:=by simp
    generalize decide (k%2=1)=K at *
    cases m with
    | false =>
      go_enter Tryz.func186,Tryz.ntmps186;go_wp2;go_ret;exact⟨rfl,Below.refl _ _⟩
    | true =>
      go_enter Tryz.func186,Tryz.ntmps186;(go_wp2_with fail);refine(HL.out _).mono ?_;rintro r w1 ⟨rfl,b1⟩;have B1:=hid b1;clear b1;go_wp2;go_ret;exact⟨by simp,B1.out⟩
def mayB:List Bx→Bool
 | []=>false
 | x::_=>decide (x.c<0)&& !(x.map&&decide (x.have_%2=1))
theorem zaja (x:Bx):(cntB x== -1)=decide (x.c<0):=by
 unfold cntB;rw[Bool.eq_iff_iff,beq_iff_eq,decide_eq_true_eq];split
 ·simp_all
 ·split <;>omega
theorem zmw {w:World} {v:Value} {s:List Bx} (h:Win w 250 3 v s.length (inL s)) (hd:s.length≤16) :
    Calls Tryz.prog 184 #[v] w fun r w'=>r= .returned (.bool (mayB s))∧Below w.heap.size w w':=by
  cases s with
  | nil =>
    obtain⟨a,cp,rfl,_,_⟩:=h.slice_form;clear h;go_enter Tryz.func184,Tryz.ntmps184;go_wp2;go_ret;exact⟨rfl,Below.refl _ _⟩
  | cons x r =>
    obtain⟨g,off,cap,rfl,⟨c0,c1,c2⟩,⟨f0,f1,f2⟩⟩:=zla h;have hN:=zaja x;obtain⟨m,c,k⟩:=x;simp only[List.length_cons,mayB] at *
    have HL:=hid (fun(W:World)=>zmt m (cntB ⟨m,c,k⟩) k W);generalize cntB ⟨m,c,k⟩=C at *
    clear h;generalize r.length=n at *
    have hwn:wrap64 (n:Int)=(n:Int):=by unfold wrap64;omega
    have hwn2:IntKind.i64.wrap (n:Int)=(n:Int):=by simp only[IntKind.wrap_i64];omega
    have hz:((n:Int)≥0)=True:=by simp
    generalize (m&&decide (k%2=1))=K at *
    cases hq:decide (c<0) with
    | false =>
      rw[hq] at hN;clear hq;go_enter Tryz.func184,Tryz.ntmps184;go_wp2;go_ret;exact⟨rfl,Below.refl _ _⟩
    | true =>
      rw[hq] at hN;clear hq;go_enter Tryz.func184,Tryz.ntmps184;(go_wp2_with fail);refine(HL.out _).mono ?_;rintro r w1 ⟨rfl,b1⟩;have B1:=hid b1;clear b1;go_wp2;go_ret;exact⟨by simp,B1.out⟩
end
end Go.Proofs.YtpaciekgbhoncaaGreat
