/-
  Parts: LexE, LexF, LexG, LexH, LexI, LexJ, EvEq, JinA, JinB, JinC, JinD.
-/
import Derived.Test.YtpaciekgbhoncaaGreatG0d
import Derived.Test.YtpaciekgbhoncaaGreatG0c
import Derived.Deep.QuietTactic
import Derived.Deep.RegionWith
import Derived.Deep.RegionLaw
import Derived.OwnWalk
import Derived.Test.YtpaciekgbhoncaaGreatG0a
import Derived.Defers
import Derived.Recover
import Derived.Test.YtpaciekgbhoncaaGreatG0b
set_option maxRecDepth 100000
set_option maxHeartbeats 16000000
open Go.Lib (hid)
namespace Go.Proofs.YtpaciekgbhoncaaGreat
section
open Go.RowKit
open Go.Lib
theorem zaaw {w:World} {b o:Nat} {v:Value} (h:At w b o [v]):w.cell? ⟨b,o,none⟩=some v∧w.frozen? ⟨b,o,none⟩=false:=h 0 v rfl
theorem u8eq (x:UInt8) (y:Nat) (h:x.toNat≠y):((x.toNat:Int)==(y:Int))=false:=by rw[beq_eq_false_iff_ne];omega
def zhc (w:World) (b o:Nat) (p:Lx×List Tk) (v:Value) (w':World):Prop:=LPost w b o p.1 w'∧(errX p.1=0→Tks w w' v p.2)
theorem zxf {w:World} {b o:Nat} {s:Ins} {t:List UInt8} (h:LAt w b o (.str s t)) (hw:zhe s=true) :
  Calls Tryz.prog 115 #[.pointer (some ⟨b,o,none⟩),.int .u8 34] w fun r w'=>∃v,r= .returned (.tuple #[v,.int .i64 0])∧zhc w b o (.idle,[⟨115,t,(false,0)⟩]) v w':=by
 have HW:=hid (zog h.2.2.1);rw[hw] at HW;obtain⟨c10,f10⟩:=zaaw h.2.2.2.1;have HX:Hid (Calls Tryz.prog 114 #[.pointer (some ⟨b,o,none⟩),.agg #[.int .u8 115,.string ⟨t.toArray⟩,.bool false,.int .u64 0]] w fun r w'=>∃v,r= .returned v∧Tks w w' v [⟨115,t,(false,0)⟩]∧At w' b o (lxZ 0)∧Sub b o 18 w w'):=hid (zls h.room ⟨115,t,(false,0)⟩);obtain⟨X,hX⟩:∃X:ByteArray,(⟨t.toArray⟩:ByteArray)=X:=⟨_,rfl⟩
 rw[hX] at c10 HX;clear h hw hX;go_enter Tryz.func115,Tryz.ntmps115;(go_wp2_with fail);refine HW.out.mono ?_;rintro r w1 ⟨rfl,rfl⟩;(go_wp2_with fail);refine HX.out.mono ?_;rintro r w1 ⟨v,rfl,hT,hA,hs⟩;have HT:Hid (zhc w b o (.idle,[⟨115,t,(false,0)⟩]) v w1):=hid ⟨LPost.idle hA hs,fun _=>hT⟩;clear hT hA hs;go_wp2;go_ret2;exact⟨v,rfl,HT.out⟩
theorem zae4 {w:World} {b o:Nat} {s:Ins} {t:List UInt8} (h:LAt w b o (.str s t)) (x:UInt8) (hx:¬(x.toNat=34∧zhe s=true)) :
    Calls Tryz.prog 115 #[.pointer (some ⟨b,o,none⟩),.int .u8 x.toNat] w fun r w'=>r= .returned (.tuple #[.slice none 0 0,.int .i64 (errX (zak (.str s t) x).1)])∧zhc w b o (zak (.str s t) x) (.slice none 0 0) w':=by
  obtain⟨⟨he,ht⟩,h0,hE,h10,hR⟩:=h;have hS:=zabj hE x;have hlen:=zadi (hE.wf he) x;simp only[zak,zahi];rw[if_neg hx];generalize (zaq s x).1=s1 at *
  generalize (zaq s x).2=l at *
  have hq:x.toNat=34→zhe s=false:=fun h=>by simpa using fun h2=>hx ⟨h,h2⟩
  have HW:=hid (zog hE);obtain⟨c10,f10⟩:=zaaw h10;have hl1:(⟨t.toArray⟩:ByteArray).size=t.length:=zbd t;have hl2:(⟨l.toArray⟩:ByteArray).size=l.length:=zbd l;have hcat:(⟨t.toArray⟩:ByteArray)++⟨l.toArray⟩=⟨(t++l).toArray⟩:=zc8 t l;have HF:Hid (∀w1,EAt w1 b (o+2) s1→Sub b (o+2) 8 w w1→(w1.cell? ⟨b,o+10,none⟩=some (.string ⟨t.toArray⟩)∧w1.frozen? ⟨b,o+10,none⟩=false) ∧
      (errI s1≠0→LPost w b o (.bad (errI s1)) w1)∧LPost w b o (.bad 5) w1∧(errI s1=0→(t++l).length≤200→LPost w b o (.str s1 (t++l)) (w1.setCell ⟨b,o+10,none⟩ (.string ⟨(t++l).toArray⟩)))):=hid (by
    intro w1 hE1 hs1;have hs2:=hs1.widen (o':=o) (n':=18) (by omega) (by omega);have a10:=h10.sub hs1 (by simp only[List.length_cons,List.length_nil];omega);refine⟨zaaw a10,fun h=>⟨hs2,fun e=>absurd e h⟩,⟨hs2,fun e=>absurd e (by decide)⟩,fun e1 e2=> ?_⟩;have hs3:=zac (b:=b) (o:=o+10) (n:=1) w1 (o+10) (.string ⟨(t++l).toArray⟩) (by omega);exact⟨hs2.trans (hs3.widen (by omega) (by omega)),fun _=>⟨⟨e1,e2⟩,(h0.sub hs1 (by simp only[List.length_cons,List.length_nil];omega)).sub hs3 (by simp only[List.length_cons,List.length_nil];omega),hE1.sub hs3 (by omega),a10.set 0 (by simp) _,(hR.sub hs1).sub hs3⟩⟩)
  have hlt:(t++l).length=t.length+l.length:=List.length_append;obtain⟨X,hX⟩:∃X:ByteArray,(⟨t.toArray⟩:ByteArray)=X:=⟨_,rfl⟩
  obtain⟨Y,hY⟩:∃Y:ByteArray,(⟨l.toArray⟩:ByteArray)=Y:=⟨_,rfl⟩
  obtain⟨Z,hZ⟩:∃Z:ByteArray,(⟨(t++l).toArray⟩:ByteArray)=Z:=⟨_,rfl⟩
  obtain⟨E,hEE⟩:∃E:Nat,errI s1=E:=⟨_,rfl⟩
  simp only[hX,hY,hZ,hEE] at hS c10 hl1 hl2 hcat HF ⊢;have HS:=hid hS;have key:Calls Tryz.prog 115 #[.pointer (some ⟨b,o,none⟩),.int .u8 x.toNat] w fun r w'=>(E≠0→r= .returned (.tuple #[.slice none 0 0,.int .i64 E])∧LPost w b o (.bad E) w') ∧
      (E=0→200<(t++l).length→r= .returned (.tuple #[.slice none 0 0,.int .i64 5])∧LPost w b o (.bad 5) w')∧(E=0→(t++l).length≤200→r= .returned (.tuple #[.slice none 0 0,.int .i64 0])∧LPost w b o (.str s1 (t++l)) w'):=by
    rw[hlt];generalize t.length=n1 at *
    generalize l.length=n2 at *
    have HLT:=hid hlt;clear hS hE h0 h10 hR hx hX hY hZ hlt;by_cases h34:x.toNat=34
    · have hw:zhe s=false:=hq h34
      rw[hw] at HW;rw[h34];rw[h34] at HS;clear hq hw h34;by_cases hE0:E=0
      · subst hE0
        by_cases hbig:200<n1+n2
        · have hb:((200:Int)<(n1:Int)+(n2:Int))=True:=by simp only[eq_iff_iff,iff_true];omega
          go_enter Tryz.func115,Tryz.ntmps115;(go_wp2_with fail);refine HW.out.mono ?_;rintro r w1 ⟨rfl,rfl⟩;(go_wp2_with fail);refine HS.out.mono ?_;rintro r w1 ⟨rfl,hE1,hs1⟩;obtain⟨⟨k10,g10⟩,hh⟩:=HF.out w1 hE1 hs1;have HH:=hid hh;clear hE1 hs1 hh;go_wp2;go_ret2;exact⟨fun h=>absurd rfl h,fun _ _=>⟨rfl,HH.out.2.1⟩,fun _ h=>absurd hbig (by omega)⟩
        · have hb:((200:Int)<(n1:Int)+(n2:Int))=False:=by simp only[eq_iff_iff,iff_false];omega
          go_enter Tryz.func115,Tryz.ntmps115;(go_wp2_with fail);refine HW.out.mono ?_;rintro r w1 ⟨rfl,rfl⟩;(go_wp2_with fail);refine HS.out.mono ?_;rintro r w1 ⟨rfl,hE1,hs1⟩;obtain⟨⟨k10,g10⟩,hh⟩:=HF.out w1 hE1 hs1;have HH:=hid hh;clear hE1 hs1 hh;go_wp2;go_ret2;exact⟨fun h=>absurd rfl h,fun _ h=>absurd h hbig,fun _ h=>⟨rfl,HH.out.2.2 (by trivial) (by rw[HLT.out];exact h)⟩⟩
      · have hz:((E:Int) !=0)=true:=by simp;omega
        go_enter Tryz.func115,Tryz.ntmps115;(go_wp2_with fail);refine HW.out.mono ?_;rintro r w1 ⟨rfl,rfl⟩;(go_wp2_with fail);refine HS.out.mono ?_;rintro r w1 ⟨rfl,hE1,hs1⟩;obtain⟨⟨k10,g10⟩,hh⟩:=HF.out w1 hE1 hs1;have HH:=hid hh;clear hE1 hs1 hh;go_wp2;go_ret2;exact⟨fun h=>⟨rfl,HH.out.1 h⟩,fun h=>absurd h hE0,fun h=>absurd h hE0⟩
    · have h34':((x.toNat:Int)==34)=false:=u8eq x 34 h34
      clear hq HW h34;generalize x.toNat=X34 at *
      by_cases hE0:E=0
      · subst hE0
        by_cases hbig:200<n1+n2
        · have hb:((200:Int)<(n1:Int)+(n2:Int))=True:=by simp only[eq_iff_iff,iff_true];omega
          go_enter Tryz.func115,Tryz.ntmps115;(go_wp2_with fail);refine HS.out.mono ?_;rintro r w1 ⟨rfl,hE1,hs1⟩;obtain⟨⟨k10,g10⟩,hh⟩:=HF.out w1 hE1 hs1;have HH:=hid hh;clear hE1 hs1 hh;go_wp2;go_ret2;exact⟨fun h=>absurd rfl h,fun _ _=>⟨rfl,HH.out.2.1⟩,fun _ h=>absurd hbig (by omega)⟩
        · have hb:((200:Int)<(n1:Int)+(n2:Int))=False:=by simp only[eq_iff_iff,iff_false];omega
          go_enter Tryz.func115,Tryz.ntmps115;(go_wp2_with fail);refine HS.out.mono ?_;rintro r w1 ⟨rfl,hE1,hs1⟩;obtain⟨⟨k10,g10⟩,hh⟩:=HF.out w1 hE1 hs1;have HH:=hid hh;clear hE1 hs1 hh;go_wp2;go_ret2;exact⟨fun h=>absurd rfl h,fun _ h=>absurd h hbig,fun _ h=>⟨rfl,HH.out.2.2 (by trivial) (by rw[HLT.out];exact h)⟩⟩
      · have hz:((E:Int) !=0)=true:=by simp;omega
        go_enter Tryz.func115,Tryz.ntmps115;(go_wp2_with fail);refine HS.out.mono ?_;rintro r w1 ⟨rfl,hE1,hs1⟩;obtain⟨⟨k10,g10⟩,hh⟩:=HF.out w1 hE1 hs1;have HH:=hid hh;clear hE1 hs1 hh;go_wp2;go_ret2;exact⟨fun h=>⟨rfl,HH.out.1 h⟩,fun h=>absurd h hE0,fun h=>absurd h hE0⟩
  refine key.mono ?_;rintro r w' ⟨k1,k2,k3⟩;by_cases hE0:E=0
  · rw[if_neg (by rw[hE0];simp)]
    by_cases hbig:200<(t++l).length
    · rw[if_pos hbig]
      obtain⟨rfl,hp⟩:=k2 hE0 hbig;exact⟨rfl,hp,fun e=>absurd e (by decide)⟩
    · rw[if_neg hbig]
      obtain⟨rfl,hp⟩:=k3 hE0 (by omega);exact⟨rfl,hp,fun _=>Tks.nil_ _ _⟩
  · rw[if_pos hE0]
    obtain⟨rfl,hp⟩:=k1 hE0;exact⟨rfl,hp,fun e=>absurd e hE0⟩
end
section
open Go.RowKit
open Go.Lib
theorem Wrd.size {k i:Nat} {W:ByteArray} {r:List Nat} (h:Wrd k W i r):W.size=i+r.length∧W.size≤5∧r≠[]:=by
 obtain⟨L,hL,rfl,h1,h2,rfl⟩:=h;have:=(zoe hL).1;refine⟨by rw[zcn,List.length_drop];omega,by rw[zcn];omega,fun e=> ?_⟩;have:=congrArg List.length e;simp at this;omega
theorem Wrd.next {k i:Nat} {W:ByteArray} {x:Nat} {q:List Nat} (h:Wrd k W i (x::q)) (hq:q≠[]):Wrd k W (i+1) q:=by
 have hs:=h.size.1;obtain⟨L,hL,rfl,h1,h2,h3⟩:=h;have hq0:0<q.length:=List.length_pos_iff.2 hq;rw[zcn,List.length_cons] at hs;refine⟨L,hL,rfl,by omega,by omega,?_⟩;rw[← List.drop_drop,← h3];rfl
theorem zre {B:Nat} {w w':World} (h:Below B w w') (q:Nat):Below B w (w'.drewN q):=⟨h.os,h.tape,h.output,h.size,h.block⟩
theorem zyj {w:World} {b o:Nat} {k i x:Nat} {q:List Nat} {W:ByteArray} (hW:Wrd k W i (x::q)) (h16:At w b (o+16) [.string W,.int .i64 (i:Nat)]) (y:Nat) (hy:y<256) (hne:y≠x) :
  Calls Tryz.prog 117 #[.pointer (some ⟨b,o,none⟩),.int .u8 y] w fun r w'=>r= .returned (.tuple #[.slice none 0 0,.int .i64 2])∧Below w.heap.size w w':=by
 have HL:=hid (fun W0=>zfx hW W0);obtain⟨⟨c0,f0⟩,c1,f1⟩:=zdm h16;have hz:((x:Int) !=(y:Int))=true:=by simp;omega
 have hw:IntKind.i32.wrap (y:Int)=(y:Int):=ziy _ (by omega) (by omega);have HB:=hid (fun q=>zre (Below.refl w.heap.size w) q);clear hW h16 hne;go_enter Tryz.func117,Tryz.ntmps117;go_wp2
 go_region_with (go_at_call 126;refine(HL.out _).mono ?_;rintro r w1 ⟨rfl,hb⟩)
 all_goals
  have HBB:=hid hb;clear hb;go_wp2;go_ret2;exact⟨rfl,HBB.out.os,HBB.out.tape,HBB.out.output,HBB.out.size,HBB.out.block⟩
theorem zpd {w:World} {b o:Nat} {k i x:Nat} {q:List Nat} {W:ByteArray} (hW:Wrd k W i (x::q)) (hx:x<256) (hq:q≠[]) (h16:At w b (o+16) [.string W,.int .i64 (i:Nat)]) (hb:b<w.heap.size) :
  Calls Tryz.prog 117 #[.pointer (some ⟨b,o,none⟩),.int .u8 x] w fun r w'=>r= .returned (.tuple #[.slice none 0 0,.int .i64 0])∧∃w1,Below w.heap.size w w1∧w'=w1.setCell ⟨b,o+17,none⟩ (.int .i64 ((i+1:Nat):Int)):=by
 have HL:=hid (fun W0=>zfx hW W0);obtain⟨⟨c0,f0⟩,c1,f1⟩:=zdm h16;have hw:IntKind.i32.wrap (x:Int)=(x:Int):=ziy _ (by omega) (by omega);obtain⟨hs1,hs2,_⟩:=hW.size;have hq0:0<q.length:=List.length_pos_iff.2 hq;have hi:i≤5:=by omega
 have hlt:((i:Int)+1<(W.size:Int))=True:=by simp only[List.length_cons] at hs1;simp only[eq_iff_iff,iff_true];omega
 have hsm:W.size≤1000:=by omega
 have hcast:(((i+1:Nat):Int))=(i:Int)+1:=by omega
 rw[hcast];have HG:Hid (∀q w1,Below (w.drewN q).heap.size (w.drewN q) w1→(w1.cell? ⟨b,o+16,none⟩=some (.string W)∧w1.frozen? ⟨b,o+16,none⟩=false)∧(w1.cell? ⟨b,o+17,none⟩=some (.int .i64 i)∧w1.frozen? ⟨b,o+17,none⟩=false)∧Below w.heap.size w w1):=hid (fun q w1 hB=>by
  have hB':Below w.heap.size w w1:=⟨hB.os,hB.tape,hB.output,hB.size,hB.block⟩
  have hA:=h16.keep (hB'.block b hb);exact⟨(zdm hA).1,(zdm hA).2,hB'⟩)
 clear hW h16 hs1 hs2 hq hq0 hcast;go_enter Tryz.func117,Tryz.ntmps117;go_wp2
 go_region_with (go_at_call 126;refine(HL.out _).mono ?_;rintro r w1 ⟨rfl,hb1⟩)
 all_goals
  obtain⟨⟨d0,e0⟩,⟨d1,e1⟩,hB1⟩:=HG.out 1 w1 hb1;have HBB:=hid hB1;clear hb1 hB1 c0 f0 c1 f1;go_wp2
  go_quiet (fail)
  go_wp2;go_ret2;refine⟨rfl,_,zre HBB.out _,rfl⟩
end
section
open Go.RowKit
open Go.Lib
theorem zoy {w:World} {b o:Nat} {k i x:Nat} {W:ByteArray} (hW:Wrd k W i [x]) (hx:x<256) (h16:At w b (o+16) [.string W,.int .i64 (i:Nat)]) (hR:Room w b o 18) :
  Calls Tryz.prog 117 #[.pointer (some ⟨b,o,none⟩),.int .u8 x] w fun r w'=>∃v,r= .returned (.tuple #[v,.int .i64 0])∧Tks w w' v [sgnT k]∧At w' b o (lxZ 0)∧Sub b o 18 w w':=by
 have HL:=hid (fun W0=>zfx hW W0);have HK:=hid (fun W0=>zso hW W0);have hb:=hR.lt;obtain⟨⟨c0,f0⟩,c1,f1⟩:=zdm h16;have hw:IntKind.i32.wrap (x:Int)=(x:Int):=ziy _ (by omega) (by omega);obtain⟨hs1,hs2,_⟩:=hW.size;have hi:i≤5:=by omega
 have hlt:((i:Int)+1<(W.size:Int))=False:=by simp only[List.length_cons,List.length_nil] at hs1;simp only[eq_iff_iff,iff_false];omega
 have hsm:W.size≤1000:=by omega
 have HG:Hid (∀q w1,Below (w.drewN q).heap.size (w.drewN q) w1→(w1.cell? ⟨b,o+16,none⟩=some (.string W)∧w1.frozen? ⟨b,o+16,none⟩=false)∧(w1.cell? ⟨b,o+17,none⟩=some (.int .i64 i)∧w1.frozen? ⟨b,o+17,none⟩=false) ∧
   (∀u p,Calls Tryz.prog 114 #[.pointer (some ⟨b,o,none⟩),.agg #[.int .u8 k,.string ⟨#[]⟩,.bool false,.int .u64 0]] ((w1.setCell ⟨b,o+17,none⟩ u).drewN p) fun r w'=>∃v,r= .returned v∧Tks w w' v [sgnT k]∧At w' b o (lxZ 0)∧Sub b o 18 w w')):=hid (fun q w1 hB=>by
  have hB':Below w.heap.size w w1:=⟨hB.os,hB.tape,hB.output,hB.size,hB.block⟩
  have hA:=h16.keep (hB'.block b hb);refine⟨(zdm hA).1,(zdm hA).2,fun u p=> ?_⟩;have hs:Sub b o 18 w ((w1.setCell ⟨b,o+17,none⟩ u).drewN p):=((zbr hB' hb o 18).setCell (o+17) u (by omega)).drewN p;refine(zls (hR.sub hs) (sgnT k)).mono ?_;rintro r w' ⟨v,rfl,hT,hA2,hS⟩;exact⟨v,rfl,hT.old hs.step.size,hA2,hs.trans hS⟩)
 clear hW h16 hs1 hs2 hR hb;go_enter Tryz.func117,Tryz.ntmps117;go_wp2
 go_region_with (go_at_call 126;refine(HL.out _).mono ?_;rintro r w1 ⟨rfl,hb1⟩)
 all_goals
  obtain⟨⟨d0,e0⟩,⟨d1,e1⟩,hX⟩:=HG.out 1 w1 hb1;have HX:=hid hX;clear hb1 hX c0 f0 c1 f1;go_wp2
  go_quiet (fail)
  (go_wp2_with fail);refine(HK.out _).mono ?_;rintro r w3 ⟨rfl,rfl⟩;(go_wp2_with fail);refine(HX.out _ _).mono ?_;rintro r w4 ⟨v,rfl,hT⟩;have HT:=hid hT;clear hT;go_wp2;go_ret2;exact⟨v,rfl,HT.out⟩
theorem zaay {w:World} {b o:Nat} {k:Nat} {r:List Nat} (h:LAt w b o (.word k r)) (y:UInt8) :
  Calls Tryz.prog 117 #[.pointer (some ⟨b,o,none⟩),.int .u8 y.toNat] w fun r' w'=>∃v,r'= .returned (.tuple #[v,.int .i64 (errX (zak (.word k r) y).1)])∧zhc w b o (zak (.word k r) y) v w':=by
 have hb:=h.lt;obtain⟨W,i,hW,h0,h10,h16,hR⟩:=h;obtain⟨_,_,hne⟩:=hW.size
 match r,hne with
 | x::q,_ =>
 have hy:y.toNat<256:=y.toNat_lt;by_cases hxy:y.toNat=x
 ·by_cases hq:q=[]
  ·subst hq
   have e:zak (.word k [x]) y=(.idle,[sgnT k]):=by simp only[zak];rw[if_pos hxy,if_pos trivial]
   rw[e,hxy];refine(zoy hW (by omega) h16 hR).mono ?_;rintro r' w' ⟨v,rfl,hT,hA,hS⟩;exact⟨v,rfl,LPost.idle hA hS,fun _=>hT⟩
  ·have e:zak (.word k (x::q)) y=(.word k q,[]):=by simp only[zak];rw[if_pos hxy,if_neg hq]
   rw[e,hxy];refine(zpd hW (by omega) hq h16 hb).mono ?_;rintro r' w' ⟨rfl,w1,hB,rfl⟩;have hs1:=zbr hB hb (o+17) 1;have hs2:=zac (b:=b) (o:=o+17) (n:=1) w1 (o+17) (.int .i64 ((i+1:Nat):Int)) (by omega);have hs:=hs1.trans hs2;refine⟨_,rfl,⟨hs.widen (by omega) (by omega),fun _=>⟨W,i+1,hW.next hq,h0.sub hs (by simp only[List.length_cons,List.length_nil];omega),h10.sub hs (by simp only[List.length_cons,List.length_nil];omega),?_,hR.sub hs⟩⟩,fun _=>Tks.nil_ _ _⟩;exact(h16.keep (hB.block b hb)).set 1 (by simp) _
 ·have e:zak (.word k (x::q)) y=(.bad 2,[]):=by simp only[zak];rw[if_neg hxy]
  rw[e];refine(zyj hW h16 y.toNat hy hxy).mono ?_;rintro r' w' ⟨rfl,hB⟩;exact⟨_,rfl,⟨zbr hB hb _ _,fun e=>absurd e (by decide)⟩,fun e=>absurd e (by decide)⟩
end
section
open Go.RowKit
open Go.Lib
theorem zvt (x:Nat):(zar x).2.length≤1:=by
 unfold zar
 repeat' split
 all_goals simp
theorem zw2 {d:Dec} {x:Nat} (he:errD (zaz d x).1=0) (ht:(zaz d x).2=false):(zaz d x).1=d:=by
  cases d with
  | bad f=>rfl
  | num p m v =>
    simp only[zaz] at he ht ⊢;split
    · rename_i h;rw[if_pos h] at ht;cases ht
    · rename_i h
      rw[if_neg h] at he ht;split
      · rename_i h2
        rw[if_pos h2] at ht;split at ht <;>cases ht
      · rename_i h2
        rw[if_neg h2] at he;split
        · rename_i h3
          rw[if_pos h3] at he;cases he
        · rename_i h3
          rw[if_neg h3] at he;split
          · rename_i h4
            rw[if_pos h4] at he;cases he
          · rfl
theorem znc {b o n:Nat} {w w3 w4:World} {row:Option Nat} (h:Sub b o n w w3) (g:w3.grownBy w4 row) (hb:b<w.heap.size) (hr:∀k,row=some k→w.heap.size≤k):Sub b o n w w4:=by
 have hg:∀k,k<w.heap.size→w4.heap[k]? = w3.heap[k]? := fun k hk=>g.block k (Nat.lt_of_lt_of_le hk h.step.size) (fun e=>by have:=hr k e.symm;omega)
 refine⟨⟨g.os.trans h.step.os,g.tape.trans h.step.tape,g.output.trans h.step.output,Nat.le_trans h.step.size g.size,fun k hk hF=>(hg k hk).trans (h.step.block k hk hF),fun _ h=> .inl h⟩,fun c t fr hc=> ?_,fun k hk=> ?_⟩
 ·obtain⟨c',hc',hs⟩:=h.shape c t fr hc
  exact⟨c',(hg b hb).trans hc',hs⟩
 ·exact(World.cell?_of_block (w:=w3) (a:=⟨b,k,none⟩) (hg b hb)).trans (h.cell k hk)
theorem zkh {w:World} {b o:Nat} (tk:Bool) (e:Nat) (hq:tk=true∨e≠0) (y:Nat) (R:World→Prop)
    (hS:Calls Tryz.prog 125 #[.pointer (some ⟨b,o+11,none⟩),.int .u8 y] w fun r w'=>r= .returned (.tuple #[.bool tk,.int .i64 e])∧R w') :
    Calls Tryz.prog 116 #[.pointer (some ⟨b,o,none⟩),.int .u8 y] w fun r w'=>r= .returned (.tuple #[.slice none 0 0,.int .i64 e])∧R w':=by
  have HS:=hid hS;clear hS;cases tk with
  | true =>
    clear hq;go_enter Tryz.func116,Tryz.ntmps116;(go_wp2_with fail);refine HS.out.mono ?_;rintro r w1 ⟨rfl,hR⟩;have HR:=hid hR;clear hR;go_wp2;go_ret2;exact⟨rfl,HR.out⟩
  | false =>
    have he:e≠0:=by rcases hq with h|h;cases h;exact h
    have hz:((e:Int) !=0)=true:=by simp;omega
    clear hq he;go_enter Tryz.func116,Tryz.ntmps116;(go_wp2_with fail);refine HS.out.mono ?_;rintro r w1 ⟨rfl,hR⟩;have HR:=hid hR;clear hR;go_wp2;go_ret2;exact⟨rfl,HR.out⟩
theorem zzj {w:World} {b o:Nat} (y e:Nat) (he:e≠0) (R S:World→Prop)
  (hS:Calls Tryz.prog 125 #[.pointer (some ⟨b,o+11,none⟩),.int .u8 y] w fun r w'=>r= .returned (.tuple #[.bool false,.int .i64 0])∧R w')
  (hE:∀w1,R w1→Calls Tryz.prog 106 #[.pointer (some ⟨b,o,none⟩)] w1 fun r w'=>∃v,r= .returned (.tuple #[v,.int .i64 e])∧S w') :
  Calls Tryz.prog 116 #[.pointer (some ⟨b,o,none⟩),.int .u8 y] w fun r w'=>r= .returned (.tuple #[.slice none 0 0,.int .i64 e])∧S w':=by
 have HS:=hid hS;have HE:=hid hE;have hz:((e:Int) !=0)=true:=by simp;omega
 clear hS hE he;go_enter Tryz.func116,Tryz.ntmps116;(go_wp2_with fail);refine HS.out.mono ?_;rintro r w1 ⟨rfl,hR⟩;have HR:=hid hR;clear hR;(go_wp2_with fail);refine(HE.out w1 HR.out).mono ?_;rintro r w2 ⟨v,rfl,hS2⟩;have HS2:=hid hS2;clear hS2;go_wp2;go_ret2;exact⟨rfl,HS2.out⟩
theorem zuq {w:World} {b o:Nat} (y:Nat) (t:Tk) (L:List Tk) (hL:L.length≤1) (E:Nat) (R:World→Prop) (hb:b<w.heap.size)
    (hS:Calls Tryz.prog 125 #[.pointer (some ⟨b,o+11,none⟩),.int .u8 y] w fun r w'=>r= .returned (.tuple #[.bool false,.int .i64 0])∧R w'∧Sub b o 18 w w')
    (hE:∀w1,R w1→Calls Tryz.prog 106 #[.pointer (some ⟨b,o,none⟩)] w1 fun r w'=>∃v,r= .returned (.tuple #[v,.int .i64 0])∧Sub b o 18 w1 w'∧Tks w1 w' v [t]∧At w' b o (lxZ 0))
    (s:Lx) (hB:∀w2,At w2 b o (lxZ 0)→Calls Tryz.prog 118 #[.pointer (some ⟨b,o,none⟩),.int .u8 y] w2 fun r w'=>∃v,r= .returned (.tuple #[v,.int .i64 E])∧Tks w2 w' v L∧LPost w2 b o s w') :
    Calls Tryz.prog 116 #[.pointer (some ⟨b,o,none⟩),.int .u8 y] w fun r w'=>∃v,r= .returned (.tuple #[v,.int .i64 E])∧Tks w w' v ([t]++L)∧LPost w b o s w':=by
  have HS:=hid hS;have HE:=hid hE;have HBG:=hid hB;have HBL:=hid hb;clear hS hE hB hb;go_enter Tryz.func116,Tryz.ntmps116;(go_wp2_with fail);refine HS.out.mono ?_;rintro r w1 ⟨rfl,hR,hs1⟩;have HR:=hid (And.intro hR hs1);clear hR hs1;(go_wp2_with fail);refine(HE.out w1 HR.out.1).mono ?_;rintro r w2 ⟨v1,rfl,hs2,hT1,hA⟩;obtain⟨a1,c1,rfl⟩:=hT1.form;have HA:=hid (And.intro hA (And.intro hs2 hT1));clear hs2 hT1 hA;(go_wp2_with fail);refine(HBG.out w2 HA.out.1).mono ?_;rintro r w3 ⟨v2,rfl,hT2,hP⟩;obtain⟨a2,c2,rfl⟩:=hT2.form;have hT1':Tks w1 w3 (.slice a1 [t].length c1) [t]:=HA.out.2.2.sub hP.1 (Nat.lt_of_lt_of_le HBL.out HR.out.2.step.size);have HT:=hid (And.intro hT1' (And.intro hT2 hP));clear hT1' hT2 hP;have HW1:Hid (Win w3 205 4 (.slice a1 1 c1) 1 (tksC [t])):=hid HT.out.1.win;have HW2:Hid (Win w3 205 4 (.slice a2 L.length c2) L.length (tksC L)):=hid HT.out.2.1.win;generalize hn:L.length=n at *
  go_wp2_with (at_builtin;refine zaj rfl _ _ _ rfl Tryz.underlying199 zahk rfl rfl HW1.out _ rfl n _ (HW2.out.src Tryz.underlying199 (zadl _)) ?e1 ?e2 ?_)
  case e1=>unfold maxLen;omega
  case e2=>omega
  intro v3 w4 hW3 hG3 hO3;have HF:Hid (Tks w w4 v3 ([t]++L)∧LPost w b o s w4):=hid (by
    have w01:w.heap.size≤w1.heap.size:=HR.out.2.step.size;have w12:w1.heap.size≤w2.heap.size:=HA.out.2.1.step.size;have w23:w2.heap.size≤w3.heap.size:=HT.out.2.2.1.step.size;have hrow:∀k,(Value.slice a1 1 c1).ownBlock=some k→w.heap.size≤k:=fun k hk=>Nat.le_trans w01 (HT.out.1.new k ((zad _ _).1 hk))
    have hs3:Sub b o 18 w w3:=(HR.out.2.trans HA.out.2.1).trans HT.out.2.2.1;have hs4:=znc hs3 hG3.out HBL.out hrow;refine⟨⟨?_,fun k hk=> ?_⟩,hs4,fun e=>(HT.out.2.2.2 e).keep (hG3.out.block b (Nat.lt_of_lt_of_le HBL.out hs3.step.size) (fun e=> ?_))⟩
    · have:=hW3.out
      rw[← zqd] at this;simpa [hn,Nat.add_comm] using this
    · rcases hO3.out with e|⟨e,_⟩
      · exact hrow k (e▸(zad _ _).2 hk)
      · have h2:=(zad _ _).2 hk
        rw[e] at h2;cases h2;omega
    · have:=HT.out.1.new b ((zad _ _).1 e.symm)
      have:=HBL.out;omega)
  clear hW3 hG3 hO3;go_wp2;go_ret2;exact⟨v3,rfl,HF.out⟩
theorem zxl (x e:Nat) (h:(zar x).1= .bad e):e≠0:=by
 unfold zar at h
 repeat' split at h
 all_goals first | cases h;decide|cases h
theorem zaey {w:World} {b o:Nat} {d:Dec} (h:LAt w b o (.num d)) (y:UInt8) :
    Calls Tryz.prog 116 #[.pointer (some ⟨b,o,none⟩),.int .u8 y.toNat] w fun r w'=>∃v,r= .returned (.tuple #[v,.int .i64 (errX (zak (.num d) y).1)])∧zhc w b o (zak (.num d) y) v w':=by
  have hb:=h.lt;have hD:=h.2.2.2.1;have hS:=zq4 hD y.toNat;have hP:∀w',DPost w b (o+11) (zaz d y.toNat).1 w'→Sub b o 18 w w'∧(errD (zaz d y.toNat).1=0→LAt w' b o (.num (zaz d y.toNat).1)):=fun w' hp =>
    ⟨hp.2.widen (by omega) (by omega),fun he=>⟨he,h.2.1.sub hp.2 (by simp only[List.length_cons,List.length_nil];omega),h.2.2.1.sub hp.2 (by simp only[List.length_cons,List.length_nil];omega),hp.1,h.2.2.2.2.sub hp.2⟩⟩
  simp only[zak];by_cases he:errD (zaz d y.toNat).1=0
  · rw[if_neg (by rw[he];exact fun h=>h rfl)]
    by_cases ht:(zaz d y.toNat).2=true
    · rw[if_pos ht]
      refine(zkh (zaz d y.toNat).2 _ (.inl ht) y.toNat _ hS).mono ?_;rintro r w' ⟨rfl,hp⟩;obtain⟨hs,hl⟩:=hP w' hp;exact⟨_,by rw[he];rfl,⟨hs,fun _=>hl he⟩,fun _=>Tks.nil_ _ _⟩
    · have ht':(zaz d y.toNat).2=false:=by simpa using ht
      rw[if_neg ht];rw[zw2 he ht'] at hS hP;rw[ht',h.1] at hS;have hS':Calls Tryz.prog 125 #[.pointer (some ⟨b,o+11,none⟩),.int .u8 y.toNat] w fun r w'=>r= .returned (.tuple #[.bool false,.int .i64 0])∧LAt w' b o (.num d)∧Sub b o 18 w w':=hS.mono (by
        rintro r w' ⟨rfl,hp⟩;exact⟨rfl,(hP w' hp).2 h.1,(hP w' hp).1⟩)
      by_cases h2:(endD d).2=0
      · rw[if_neg (by rw[h2];exact fun h=>h rfl)]
        refine(zuq y.toNat ⟨110,[],(endD d).1⟩ (zar y.toNat).2 (zvt _) (errX (zar y.toNat).1) (fun w'=>LAt w' b o (.num d)) hb hS' (fun w1 h1=>(zg2 h1).mono (by
          rintro r w' ⟨v,rfl,hs,hk⟩;exact⟨v,by rw[h2];rfl,hs,hk h2⟩)) (zar y.toNat).1 (fun w2 hA=>zn0 hA y.toNat)).mono ?_
        rintro r w' ⟨v,rfl,hT,hL⟩;have hsb:=zxl y.toNat;generalize zar y.toNat=q at *
        obtain⟨q1,q2⟩:=q;cases q1 with
        | bad e =>
          exact⟨v,rfl,hL,fun e0=>absurd e0 (hsb e rfl)⟩
        | idle=>exact⟨v,rfl,hL,fun _=>hT⟩
        | str s t=>exact⟨v,rfl,hL,fun _=>hT⟩
        | num d=>exact⟨v,rfl,hL,fun _=>hT⟩
        | word k r=>exact⟨v,rfl,hL,fun _=>hT⟩
      · rw[if_pos h2]
        refine(zzj y.toNat (endD d).2 h2 (fun w'=>LAt w' b o (.num d)∧Sub b o 18 w w') (fun w'=>Sub b o 18 w w') hS' (fun w1 h1=>(zg2 h1.1).mono (by
          rintro r w' ⟨v,rfl,hs,_⟩;exact⟨v,rfl,h1.2.trans hs⟩))).mono ?_
        rintro r w' ⟨rfl,hs⟩;exact⟨_,rfl,⟨hs,fun e=>absurd e h2⟩,fun e=>absurd e h2⟩
  · rw[if_pos he]
    refine(zkh (zaz d y.toNat).2 _ (.inr he) y.toNat _ hS).mono ?_;rintro r w' ⟨rfl,hp⟩;exact⟨_,rfl,⟨(hP w' hp).1,fun e=>absurd e he⟩,fun e=>absurd e he⟩
end
section
open Go.RowKit
open Go.Lib
def plX:Lx→Nat
 | .str _ _=>1
 | .num _=>2
 | .word _ _=>3
 | _=>0
theorem LAt.head {w:World} {b o:Nat} {s:Lx} (h:LAt w b o s):(w.cell? ⟨b,o,none⟩=some (.int .i64 (errX s))∧w.frozen? ⟨b,o,none⟩=false)∧(w.cell? ⟨b,o+1,none⟩=some (.int .i64 (plX s))∧w.frozen? ⟨b,o+1,none⟩=false):=by
 match s,h with
 | .bad e,h=>exact⟨h.2 0 _ rfl,h.2 1 _ rfl⟩
 | .idle,h=>exact⟨h 0 _ rfl,h 1 _ rfl⟩
 | .str s t,h=>exact zdm h.2.1
 | .num d,h=>exact zdm h.2.1
 | .word k r,h=>obtain⟨W,i,_,h1,_⟩:=h;exact zdm h1
theorem zaca {w:World} {b o:Nat} {s:Lx} (h:LAt w b o s) (he:errX s=0) (y:UInt8) :
    Calls Tryz.prog 107 #[.pointer (some ⟨b,o,none⟩),.int .u8 y.toNat] w fun r w'=>∃v,r= .returned (.tuple #[v,.int .i64 (errX (zak s y).1)])∧zhc w b o (zak s y) v w':=by
  obtain⟨_,c1,f1⟩:=h.head
  match s,h,he with
  | .bad e,h,he=>exact absurd he h.1
  | .idle,h,_ =>
    have HB:Hid (Calls Tryz.prog 118 #[.pointer (some ⟨b,o,none⟩),.int .u8 y.toNat] w fun r w'=>∃v,r= .returned (.tuple #[v,.int .i64 (errX (zak .idle y).1)])∧zhc w b o (zak .idle y) v w'):=hid ((zn0 h y.toNat).mono (by
      rintro r w' ⟨v,rfl,hT,hL⟩;exact⟨v,rfl,hL,fun _=>hT⟩))
    have c1':w.cell? ⟨b,o+1,none⟩=some (.int .i64 0):=c1;clear h c1;generalize zak .idle y=q at *
    generalize y.toNat=y' at *
    obtain⟨E,hE⟩:∃E:Nat,errX q.1=E:=⟨_,rfl⟩
    rw[hE] at HB ⊢;clear hE;go_enter Tryz.func107,Tryz.ntmps107;(go_wp2_with fail);refine HB.out.mono ?_;rintro r w1 ⟨v,rfl,hT⟩;have HT:=hid hT;clear hT;go_wp2;go_ret2;exact⟨v,rfl,HT.out⟩
  | .str s t,h,_ =>
    have HB:Hid (Calls Tryz.prog 115 #[.pointer (some ⟨b,o,none⟩),.int .u8 y.toNat] w fun r w'=>∃v,r= .returned (.tuple #[v,.int .i64 (errX (zak (.str s t) y).1)])∧zhc w b o (zak (.str s t) y) v w'):=hid (by
      by_cases hq:y.toNat=34∧zhe s=true
      · have e:zak (.str s t) y=(.idle,[⟨115,t,(false,0)⟩]):=by simp only[zak];rw[if_pos hq]
        rw[e,hq.1];exact zxf h hq.2
      · refine(zae4 h y hq).mono ?_
        rintro r w' ⟨rfl,hT⟩;exact⟨_,rfl,hT⟩)
    have c1':w.cell? ⟨b,o+1,none⟩=some (.int .i64 1):=c1;clear h c1;generalize zak (.str s t) y=q at *
    generalize y.toNat=y' at *
    obtain⟨E,hE⟩:∃E:Nat,errX q.1=E:=⟨_,rfl⟩
    rw[hE] at HB ⊢;clear hE;go_enter Tryz.func107,Tryz.ntmps107;(go_wp2_with fail);refine HB.out.mono ?_;rintro r w1 ⟨v,rfl,hT⟩;have HT:=hid hT;clear hT;go_wp2;go_ret2;exact⟨v,rfl,HT.out⟩
  | .num d,h,_ =>
    have HB:=hid (zaey h y);have c1':w.cell? ⟨b,o+1,none⟩=some (.int .i64 2):=c1;clear h c1;generalize zak (.num d) y=q at *
    generalize y.toNat=y' at *
    obtain⟨E,hE⟩:∃E:Nat,errX q.1=E:=⟨_,rfl⟩
    rw[hE] at HB ⊢;clear hE;go_enter Tryz.func107,Tryz.ntmps107;(go_wp2_with fail);refine HB.out.mono ?_;rintro r w1 ⟨v,rfl,hT⟩;have HT:=hid hT;clear hT;go_wp2;go_ret2;exact⟨v,rfl,HT.out⟩
  | .word k r,h,_ =>
    have HB:=hid (zaay h y);have c1':w.cell? ⟨b,o+1,none⟩=some (.int .i64 3):=c1;clear h c1;generalize zak (.word k r) y=q at *
    generalize y.toNat=y' at *
    obtain⟨E,hE⟩:∃E:Nat,errX q.1=E:=⟨_,rfl⟩
    rw[hE] at HB ⊢;clear hE;go_enter Tryz.func107,Tryz.ntmps107;(go_wp2_with fail);refine HB.out.mono ?_;rintro r w1 ⟨v,rfl,hT⟩;have HT:=hid hT;clear hT;go_wp2;go_ret2;exact⟨v,rfl,HT.out⟩
def zaio (p:Lx×List Tk):Prop:=errX p.1≠0→p=(.bad (errX p.1),[])
theorem zyw (l:List Tk) (p:Lx×List Tk):zaio (zsa l p):=by
 obtain⟨p1,p2⟩:=p;cases p1 with
 | bad e=>exact fun _=>rfl
 | _=>exact fun h=>absurd rfl h
theorem znz (s:Lx) (y:UInt8):zaio (zak s y):=by
  have start:∀x,zaio (zar x):=by
    intro x;unfold zar
    repeat' split
    all_goals first | exact fun h=>absurd rfl h|exact fun _=>rfl
  match s with
  | .bad e=>exact fun _=>rfl
  | .idle=>exact start _
  | .str s t =>
    simp only[zak]
    repeat' split
    all_goals first | exact fun h=>absurd rfl h|exact fun _=>rfl
  | .num d =>
    simp only[zak]
    repeat' split
    all_goals first | exact fun h=>absurd rfl h|exact fun _=>rfl|exact zyw _ _
  | .word k []=>exact fun _=>rfl
  | .word k (x::q) =>
    simp only[zak]
    repeat' split
    all_goals first | exact fun h=>absurd rfl h|exact fun _=>rfl
theorem zz0 {w:World} {b o e:Nat} (h:LAt w b o (.bad e)) (y:UInt8) :
  Calls Tryz.prog 102 #[.pointer (some ⟨b,o,none⟩),.int .u8 y.toNat] w fun r w'=>r= .returned (.tuple #[.slice none 0 0,.int .i64 e])∧∃q,w'=w.drewN q:=by
 obtain⟨⟨c0,f0⟩,_⟩:=h.head;have hz:((e:Int) !=0)=true:=by have:=h.1;simp;omega
 have c0':w.cell? ⟨b,o,none⟩=some (.int .i64 e):=c0;clear h c0;go_enter Tryz.func102,Tryz.ntmps102;go_wp2
 go_quiet (fail)
 go_wp2;go_ret2;exact⟨rfl,_,rfl⟩
theorem zuu {w:World} {b o:Nat} {s:Lx} (h:LAt w b o s) (he:errX s=0) (y:UInt8) :
  Calls Tryz.prog 102 #[.pointer (some ⟨b,o,none⟩),.int .u8 y.toNat] w fun r w'=>∃v,r= .returned (.tuple #[v,.int .i64 (errX (zak s y).1)])∧Tks w w' v (zak s y).2∧LAt w' b o (zak s y).1∧Sub b o 18 w w':=by
 obtain⟨⟨c0,f0⟩,_⟩:=h.head;have c0':w.cell? ⟨b,o,none⟩=some (.int .i64 0):=by rw[he] at c0;exact c0
 have HT:=hid (zaca h he y);have hR:=h.room;have HB:=hid (znz s y);generalize zak s y=q at *
 generalize y.toNat=y' at *
 obtain⟨E,hE⟩:∃E:Nat,errX q.1=E:=⟨_,rfl⟩
 rw[hE] at HT ⊢;have HR:=hid hR;by_cases hE0:E=0
 ·subst hE0
  have HE:=hid hE;clear hE h he c0 hR;go_enter Tryz.func102,Tryz.ntmps102;(go_wp2_with fail);refine HT.out.mono ?_;rintro r w1 ⟨v,rfl,hT⟩;have HP:=hid hT;clear hT;(go_wp2_with fail);refine(zyu _ v w1).mono ?_;rintro r w2 ⟨rfl,rfl⟩;go_wp2;go_ret2;exact⟨v,rfl,HP.out.2 HE.out,HP.out.1.2 HE.out,HP.out.1.1⟩
 ·have hq:q=(.bad E,[]):=by have:=HB.out (by rw[hE];exact hE0);rw[hE] at this;exact this
  subst hq;clear hE h he c0 hR;go_enter Tryz.func102,Tryz.ntmps102;(go_wp2_with fail);refine HT.out.mono ?_;rintro r w1 ⟨v,rfl,hT⟩;have HP:=hid hT;clear hT;(go_wp2_with fail);refine(zk7 (HR.out.sub HP.out.1.1) v E hE0).mono ?_;rintro r w2 ⟨rfl,hA,hs⟩;have HQ:=hid (And.intro hA hs);clear hA hs;go_wp2;go_ret2;exact⟨_,rfl,Tks.nil_ _ _,⟨hE0,HQ.out.1⟩,HP.out.1.1.trans HQ.out.2⟩
theorem zab9 {w:World} {b o:Nat} {s:Lx} (h:LAt w b o s) (y:UInt8) :
    Calls Tryz.prog 102 #[.pointer (some ⟨b,o,none⟩),.int .u8 y.toNat] w fun r w'=>∃v,r= .returned (.tuple #[v,.int .i64 (errX (zak s y).1)])∧Tks w w' v (zak s y).2∧LAt w' b o (zak s y).1∧Sub b o 18 w w':=by
  by_cases he:errX s=0
  · exact zuu h he y
  · match s,h,he with
    | .bad e,h,_ =>
      refine(zz0 h y).mono ?_;rintro r w' ⟨rfl,q,rfl⟩;exact⟨_,rfl,Tks.nil_ _ _,⟨h.1,h.2⟩,(Sub.refl _ _ _ _).drewN q⟩
    | .idle,_,he=>exact absurd rfl he
    | .str _ _,_,he=>exact absurd rfl he
    | .num _,_,he=>exact absurd rfl he
    | .word _ _,_,he=>exact absurd rfl he
end
section
open Go.RowKit
open Go.Lib
def endS:Lx→Lx
 | .num d=>if(endD d).2≠0 then .bad (endD d).2 else .idle
 | .str _ _=> .bad 3
 | .word _ _=> .bad 3
 | s=>s
def zak8 (s:Lx):ByteArray:=match s with
 | .str _ t=>⟨t.toArray⟩
 | _=>⟨#[]⟩
theorem zadk {w:World} {b o e:Nat} (h:LAt w b o (.bad e)) :
  Calls Tryz.prog 100 #[.pointer (some ⟨b,o,none⟩)] w fun r w'=>r= .returned (.tuple #[.slice none 0 0,.int .i64 e])∧∃q,w'=w.drewN q:=by
 obtain⟨⟨c0,f0⟩,_⟩:=h.head;have hz:((e:Int) !=0)=true:=by have:=h.1;simp;omega
 have c0':w.cell? ⟨b,o,none⟩=some (.int .i64 e):=c0;clear h c0;go_enter Tryz.func100,Tryz.ntmps100;go_wp2
 go_quiet (fail)
 go_wp2;go_ret2;exact⟨rfl,_,rfl⟩
theorem zzy {w:World} {b o:Nat} (h:LAt w b o .idle) :
  Calls Tryz.prog 100 #[.pointer (some ⟨b,o,none⟩)] w fun r w'=>r= .returned (.tuple #[.slice none 0 0,.int .i64 0])∧w'=w:=by
 obtain⟨⟨c0,f0⟩,c1,f1⟩:=h.head;have c0':w.cell? ⟨b,o,none⟩=some (.int .i64 0):=c0;have c1':w.cell? ⟨b,o+1,none⟩=some (.int .i64 0):=c1;clear h c0 c1;go_enter Tryz.func100,Tryz.ntmps100;go_wp2;go_ret2;exact⟨rfl,rfl⟩
theorem znh {w:World} {b o:Nat} (p:Nat) (hp:p=1∨p=3) (hR:Room w b o 18) (c0:w.cell? ⟨b,o,none⟩=some (.int .i64 0)) (c1:w.cell? ⟨b,o+1,none⟩=some (.int .i64 p)) :
  Calls Tryz.prog 100 #[.pointer (some ⟨b,o,none⟩)] w fun r w'=>r= .returned (.tuple #[.slice none 0 0,.int .i64 3])∧LAt w' b o (.bad 3)∧Sub b o 18 w w':=by
 have HT:Hid (Calls Tryz.prog 105 #[.pointer (some ⟨b,o,none⟩),.slice none 0 0,.int .i64 3] w fun r w'=>r= .returned (.tuple #[.slice none 0 0,.int .i64 3])∧At w' b o (lxZ 3)∧Sub b o 18 w w'):=hid (zk7 hR (.slice none 0 0) 3 (by decide));clear hR;rcases hp with rfl|rfl
 all_goals
  go_enter Tryz.func100,Tryz.ntmps100;(go_wp2_with fail);refine HT.out.mono ?_;rintro r w2 ⟨rfl,hA,hs⟩;have HQ:=hid (And.intro hA hs);clear hA hs;go_wp2;go_ret2;exact⟨rfl,⟨by decide,HQ.out.1⟩,HQ.out.2⟩
theorem zafn {w:World} {b o:Nat} {d:Dec} (h:LAt w b o (.num d)) :
  Calls Tryz.prog 100 #[.pointer (some ⟨b,o,none⟩)] w fun r w'=>∃v,r= .returned (.tuple #[v,.int .i64 (endX (.num d)).2])∧Tks w w' v (endX (.num d)).1∧LAt w' b o (endS (.num d))∧Sub b o 18 w w':=by
 obtain⟨⟨c0,f0⟩,c1,f1⟩:=h.head;have c0':w.cell? ⟨b,o,none⟩=some (.int .i64 0):=c0;have c1':w.cell? ⟨b,o+1,none⟩=some (.int .i64 2):=c1;have HE:=hid (zg2 h);have HR:=hid h.room;simp only[endX,endS];clear h c0 c1;by_cases he:(endD d).2=0
 ·rw[if_neg (fun h=>h he),if_neg (fun h=>h he)]
  generalize endD d=q at *
  obtain⟨q1,q2⟩:=q;obtain rfl:q2=0:=he;go_enter Tryz.func100,Tryz.ntmps100;(go_wp2_with fail);refine HE.out.mono ?_;rintro r w1 ⟨v,rfl,hs,hT⟩;have HT:=hid (And.intro hs hT);clear hs hT;(go_wp2_with fail);refine(zyu _ v w1).mono ?_;rintro r w2 ⟨rfl,rfl⟩;go_wp2;go_ret2;exact⟨v,rfl,(HT.out.2 (by trivial)).1,(HT.out.2 (by trivial)).2,HT.out.1⟩
 ·rw[if_pos he,if_pos he]
  generalize endD d=q at *
  obtain⟨q1,E⟩:=q;simp only[] at he HE ⊢;go_enter Tryz.func100,Tryz.ntmps100;(go_wp2_with fail);refine HE.out.mono ?_;rintro r w1 ⟨v,rfl,hs,hT⟩;have HT:=hid hs;clear hs hT;(go_wp2_with fail);refine(zk7 (HR.out.sub HT.out) v E he).mono ?_;rintro r w2 ⟨rfl,hA,hs⟩;have HQ:=hid (And.intro hA hs);clear hA hs;go_wp2;go_ret2;exact⟨_,rfl,Tks.nil_ _ _,⟨he,HQ.out.1⟩,HT.out.trans HQ.out.2⟩
theorem zahb {w:World} {b o:Nat} {s:Lx} (h:LAt w b o s) :
    Calls Tryz.prog 100 #[.pointer (some ⟨b,o,none⟩)] w fun r w'=>∃v,r= .returned (.tuple #[v,.int .i64 (endX s).2])∧Tks w w' v (endX s).1∧LAt w' b o (endS s)∧Sub b o 18 w w':=by
  match s,h with
  | .bad e,h =>
    refine(zadk h).mono ?_;rintro r w' ⟨rfl,q,rfl⟩;exact⟨_,rfl,Tks.nil_ _ _,⟨h.1,h.2⟩,(Sub.refl _ _ _ _).drewN q⟩
  | .idle,h =>
    refine(zzy h).mono ?_;rintro r w' ⟨rfl,rfl⟩;exact⟨_,rfl,Tks.nil_ _ _,h,Sub.refl _ _ _ _⟩
  | .str s t,h =>
    obtain⟨⟨c0,_⟩,c1,_⟩:=h.head;refine(znh 1 (.inl rfl) h.room c0 c1).mono ?_;rintro r w' ⟨rfl,hL,hs⟩;exact⟨_,rfl,Tks.nil_ _ _,hL,hs⟩
  | .word k q,h =>
    obtain⟨⟨c0,_⟩,c1,_⟩:=h.head;refine(znh 3 (.inr rfl) h.room c0 c1).mono ?_;rintro r w' ⟨rfl,hL,hs⟩;exact⟨_,rfl,Tks.nil_ _ _,hL,hs⟩
  | .num d,h=>exact zafn h
end
section
open Go.RowKit
open Go.Lib
end
section
open Go.RowKit
open Go.Lib
def updM (M:Nat→Bool) (i:Nat) (x:Bool):Nat→Bool:=fun j=>if j=i then x else M j
def plB (m:Bool):Nat:=if m=true then 3 else 1
structure GAt (w:World) (b o D pl k:Nat) (M:Nat→Bool):Prop where
 room:Room w b o 38
 dep:w.cell? ⟨b,o+1,none⟩=some (.int .i64 D)
 plc:w.cell? ⟨b,o+20,none⟩=some (.int .i64 pl)
 opn:w.cell? ⟨b,o+21,none⟩=some (.int .i64 k)
 maps:∀i,i<16→w.cell? ⟨b,o+22+i,none⟩=some (.bool (M i))
theorem GAt.fr {w:World} {b o D pl k:Nat} {M:Nat→Bool} (h:GAt w b o D pl k M) (j:Nat) (hj:j<38):w.frozen? ⟨b,o+j,none⟩=false:=by
 obtain⟨c,t,fr,_,_,h3⟩:=h.room;exact h3 _ (by omega) (by omega)
theorem GAt.frm {w:World} {b o D pl k:Nat} {M:Nat→Bool} (h:GAt w b o D pl k M) (i:Nat) (hi:i<16):w.frozen? ⟨b,o+22+i,none⟩=false:=by
 have:=h.fr (22+i) (by omega)
 rwa [← Nat.add_assoc] at this
theorem zk6 {w:World} {b o n:Nat} (h:Room w b o n) (k:Nat) (v:Value):Room (w.setCell ⟨b,k,none⟩ v) b o n:=h.sub (zac (b:=b) (o:=k) (n:=1) w k v (by omega))
theorem GAt.cell_eq {w:World} {b o D pl k:Nat} {M:Nat→Bool} (h:GAt w b o D pl k M) (j:Nat) (hj:j<38) (v:Value):(w.setCell ⟨b,o+j,none⟩ v).cell? ⟨b,o+j,none⟩=some v:=by
 obtain⟨u,hu,_⟩:=h.room.cell (o+j) (by omega) (by omega);obtain⟨c,t,fr,hb,hc⟩:=zdt hu;have hlt:=(Array.getElem?_eq_some_iff.1 hc).1;have hh:=zai w ⟨b,o+j,none⟩ v c t fr rfl hb;simp only[World.cell?,hh];simp[hlt]
theorem GAt.setPl {w:World} {b o D pl k:Nat} {M:Nat→Bool} (h:GAt w b o D pl k M) (p:Nat):GAt (w.setCell ⟨b,o+20,none⟩ (.int .i64 p)) b o D p k M :=
 ⟨zk6 h.room _ _,by rw[zao _ _ _ _ _ (by omega)];exact h.dep,h.cell_eq 20 (by omega) _,by rw[zao _ _ _ _ _ (by omega)];exact h.opn,fun i hi=>by rw[zao _ _ _ _ _ (by omega)];exact h.maps i hi⟩
theorem GAt.setOpn {w:World} {b o D pl k:Nat} {M:Nat→Bool} (h:GAt w b o D pl k M) (p:Nat):GAt (w.setCell ⟨b,o+21,none⟩ (.int .i64 p)) b o D pl p M :=
 ⟨zk6 h.room _ _,by rw[zao _ _ _ _ _ (by omega)];exact h.dep,by rw[zao _ _ _ _ _ (by omega)];exact h.plc,h.cell_eq 21 (by omega) _,fun i hi=>by rw[zao _ _ _ _ _ (by omega)];exact h.maps i hi⟩
theorem GAt.setMap {w:World} {b o D pl k:Nat} {M:Nat→Bool} (h:GAt w b o D pl k M) (i:Nat) (hi:i<16) (x:Bool):GAt (w.setCell ⟨b,o+22+i,none⟩ (.bool x)) b o D pl k (updM M i x):=by
 refine⟨zk6 h.room _ _,by rw[zao _ _ _ _ _ (by omega)];exact h.dep,by rw[zao _ _ _ _ _ (by omega)];exact h.plc,by rw[zao _ _ _ _ _ (by omega)];exact h.opn,fun j hj=> ?_⟩;unfold updM;by_cases e:j=i
 ·subst e
  rw[if_pos rfl];have:=h.cell_eq (22+j) (by omega) (.bool x)
  rwa [← Nat.add_assoc] at this
 ·rw[if_neg e,zao _ _ _ _ _ (by omega)]
  exact h.maps j hj
theorem GAt.drewN {w:World} {b o D pl k:Nat} {M:Nat→Bool} (h:GAt w b o D pl k M) (q:Nat):GAt (w.drewN q) b o D pl k M:=⟨h.room,h.dep,h.plc,h.opn,h.maps⟩
theorem GAt.keep {w w':World} {b o D pl k:Nat} {M:Nat→Bool} (h:GAt w b o D pl k M) (hk:w'.heap[b]? = w.heap[b]?):GAt w' b o D pl k M :=
 ⟨h.room.keep hk,by simpa only[World.cell?,hk] using h.dep,by simpa only[World.cell?,hk] using h.plc,by simpa only[World.cell?,hk] using h.opn,fun i hi=>by simpa only[World.cell?,hk] using h.maps i hi⟩
theorem GAt.below {w w':World} {b o D pl k:Nat} {M:Nat→Bool} (h:GAt w b o D pl k M) (hb:Below w.heap.size w w'):GAt w' b o D pl k M:=h.keep (hb.block b h.room.lt)
def MapJ (M:Nat→Bool):List FrJ→Prop
 | []=>True
 | f::r=>M r.length=f.map∧MapJ M r
theorem MapJ.paid {M:Nat→Bool} {st:List FrJ} (h:MapJ M st):MapJ M (zml st):=by
 match st,h with
 | [],_=>trivial
 |⟨false,_⟩::_,h=>exact h
 |⟨true,_⟩::_,h=>exact h
theorem MapJ.set {M:Nat→Bool} {x:Bool} {i:Nat}:∀{st:List FrJ},st.length≤i→MapJ M st→MapJ (updM M i x) st
 | [],_,_=>trivial
 | f::r,hl,h=>⟨by simp only[List.length_cons] at hl;show(if r.length=i then x else M r.length)=f.map;rw[if_neg (by omega)];exact h.1,MapJ.set (by simp only[List.length_cons] at hl;omega) h.2⟩
def GJ (w:World) (b o D:Nat) (st:List FrJ) (dn:Bool):Prop:=∃M,GAt w b o D (plJ st dn) st.length M∧MapJ M st∧WfJ D st dn∧D≤16
def errP:Pj→Nat
 | .bad e=>e
 | .at_ _ _=>0
theorem zrm {w:World} {b o D pl k:Nat} {M:Nat→Bool} (h:GAt w b o D pl (k+1) M) (hk:k<16) :
  Calls Tryz.prog 119 #[.pointer (some ⟨b,o,none⟩)] w fun r w'=>r= .returned (.bool (M k))∧∃q,w'=w.drewN q:=by
 have c1:=h.opn;have f1:=h.fr 21 (by omega);have c2:=h.maps k hk;have f2:=h.frm k hk;have hs:((k+1:Nat):Int)-1=(k:Int):=by omega
 have hw:IntKind.i64.wrap (k:Int)=(k:Int):=by simp only[IntKind.wrap_i64];omega
 clear h;generalize M k=m at *
 go_enter Tryz.func119,Tryz.ntmps119;go_wp2
 go_quiet (fail)
 go_wp2;go_ret;exact⟨rfl,_,rfl⟩
theorem zoq {w:World} {b o D:Nat} {st:List FrJ} {dn:Bool} {pl k:Nat} {M:Nat→Bool} (hG:GAt w b o D pl k M) (h1:pl=plJ st dn) (h2:k=st.length) (hM:MapJ M st) (hW:WfJ D st dn) (hD:D≤16):GJ w b o D st dn:=by
 subst h1 h2;exact⟨M,hG,hM,hW,hD⟩
theorem zid (w:World) (b o:Nat) (v:Value):Sub b (o+20) 18 w (w.setCell ⟨b,o+20,none⟩ v):=zac w _ v (by omega)
theorem zajx (w:World) (b o:Nat) (v:Value):Sub b (o+20) 18 w (w.setCell ⟨b,o+21,none⟩ v):=zac w _ v (by omega)
theorem zabt {w:World} {b o D pl k:Nat} {M:Nat→Bool} (h:GAt w b o D pl k M) (hp:pl≠4) :
  Calls Tryz.prog 108 #[.pointer (some ⟨b,o,none⟩)] w fun r w'=>r= .returned (.int .i64 2)∧w'=w:=by
 have c1:=h.plc;have hz:((pl:Int) !=4)=true:=by simp;omega
 clear h hp;go_enter Tryz.func108,Tryz.ntmps108;go_wp2;go_ret;exact⟨rfl,rfl⟩
theorem zyi {w:World} {b o D k:Nat} {M:Nat→Bool} (h:GAt w b o D 4 k M) :
  Calls Tryz.prog 108 #[.pointer (some ⟨b,o,none⟩)] w fun r w'=>r= .returned (.int .i64 0)∧w'=w.setCell ⟨b,o+20,none⟩ (.int .i64 0):=by
 have c1:=h.plc;have f1:=h.fr 20 (by omega);clear h;go_enter Tryz.func108,Tryz.ntmps108;go_wp2;go_ret;exact⟨rfl,rfl⟩
theorem ztv {w:World} {b o D pl:Nat} {M:Nat→Bool} (h:GAt w b o D pl 0 M) :
  Calls Tryz.prog 109 #[.pointer (some ⟨b,o,none⟩)] w fun r w'=>r= .returned (.int .i64 2)∧w'=w:=by
 have c1:=h.opn;clear h;go_enter Tryz.func109,Tryz.ntmps109;go_wp2;go_ret;exact⟨rfl,rfl⟩
theorem zaen {w:World} {b o D pl k:Nat} {M:Nat→Bool} (h:GAt w b o D pl (k+1) M) (hp:pl≠5) :
  Calls Tryz.prog 109 #[.pointer (some ⟨b,o,none⟩)] w fun r w'=>r= .returned (.int .i64 2)∧w'=w:=by
 have c1:=h.opn;have c2:=h.plc;have hz:((pl:Int) !=5)=true:=by simp;omega
 have hk:(((k+1:Nat):Int)==0)=false:=by simp;omega
 clear h hp;generalize ((k+1:Nat):Int)=K at *
 go_enter Tryz.func109,Tryz.ntmps109;go_wp2;go_ret;exact⟨rfl,rfl⟩
theorem zyx {w:World} {b o D k:Nat} {M:Nat→Bool} (h:GAt w b o D 5 (k+1) M) (hk:k<16) :
    Calls Tryz.prog 109 #[.pointer (some ⟨b,o,none⟩)] w fun r w'=>r= .returned (.int .i64 0)∧Sub b (o+20) 18 w w'∧GAt w' b o D (if M k=true then 2 else 0) (k+1) M:=by
  have c1:=h.opn;have c2:=h.plc;have f2:=h.fr 20 (by omega);have HM:=hid (zrm (h.setPl 0) hk);have H1:=hid (h.setPl 0);have hk:(((k+1:Nat):Int)==0)=false:=by simp;omega
  clear h;generalize ((k+1:Nat):Int)=K at *
  obtain⟨m,hm⟩:∃m,M k=m:=⟨_,rfl⟩
  rw[hm] at HM ⊢;cases m with
  | true =>
    clear hm;go_enter Tryz.func109,Tryz.ntmps109;(go_wp2_with fail);refine HM.out.mono ?_;rintro r w1 ⟨rfl,q,hq⟩;have H2:=hid (H1.out.drewN q);have c3:=(H1.out.drewN q).plc;have f3:=(H1.out.drewN q).fr 20 (by omega);have hs:Sub b (o+20) 18 w w1:=by rw[hq];exact(zid w b o _).drewN q
    rw[← hq] at H2 c3 f3;have HS:=hid hs;clear hs hq;go_wp2;go_ret;exact⟨rfl,HS.out.trans (zid _ b o _),H2.out.setPl 2⟩
  | false =>
    clear hm;go_enter Tryz.func109,Tryz.ntmps109;(go_wp2_with fail);refine HM.out.mono ?_;rintro r w1 ⟨rfl,q,hq⟩;have H2:=hid (H1.out.drewN q);have hs:Sub b (o+20) 18 w w1:=by rw[hq];exact(zid w b o _).drewN q
    rw[← hq] at H2;have HS:=hid hs;clear hs hq;go_wp2;go_ret;exact⟨rfl,HS.out,H2.out⟩
end
section
open Go.RowKit
open Go.Lib
theorem zxs {w:World} {b o D pl:Nat} {M:Nat→Bool} (h:GAt w b o D pl 0 M) (m:Bool) :
  Calls Tryz.prog 110 #[.pointer (some ⟨b,o,none⟩),.bool m] w fun r w'=>r= .returned (.int .i64 2)∧w'=w:=by
 have c1:=h.opn;clear h;go_enter Tryz.func110,Tryz.ntmps110;go_wp2;go_ret;exact⟨rfl,rfl⟩
theorem zx4 {w:World} {b o D pl k:Nat} {M:Nat→Bool} (h:GAt w b o D pl (k+1) M) (hk:k<16) (m:Bool) (hm:M k≠m) :
  Calls Tryz.prog 110 #[.pointer (some ⟨b,o,none⟩),.bool m] w fun r w'=>r= .returned (.int .i64 2)∧∃q,w'=w.drewN q:=by
 have c1:=h.opn;have HM:=hid (zrm h hk);have hk:(((k+1:Nat):Int)==0)=false:=by simp;omega
 clear h;generalize ((k+1:Nat):Int)=K at *
 have hz:(!(M k==m))=true:=by simpa using hm
 clear hm;generalize M k=m1 at *
 go_enter Tryz.func110,Tryz.ntmps110;(go_wp2_with fail);refine HM.out.mono ?_;rintro r w1 ⟨rfl,q,rfl⟩;go_wp2;go_ret;exact⟨rfl,_,rfl⟩
theorem zua {w:World} {b o D pl k:Nat} {M:Nat→Bool} (h:GAt w b o D pl (k+1) M) (hk:k<16) (m:Bool) (hm:M k=m) (h5:pl≠5) (h1:pl≠1) (h3:pl≠3) :
  Calls Tryz.prog 110 #[.pointer (some ⟨b,o,none⟩),.bool m] w fun r w'=>r= .returned (.int .i64 2)∧∃q,w'=w.drewN q:=by
 have c1:=h.opn;have c2:∀q,(w.drewN q).cell? ⟨b,o+20,none⟩=some (.int .i64 pl):=fun q=>h.plc
 have HM:=hid (zrm h hk);have hk:(((k+1:Nat):Int)==0)=false:=by simp;omega
 clear h;generalize ((k+1:Nat):Int)=K at *
 have z5:((pl:Int) !=5)=true:=by simp;omega
 have z1:((pl:Int) !=1)=true:=by simp;omega
 have z3:((pl:Int) !=3)=true:=by simp;omega
 clear h5 h1 h3;rw[hm] at HM;have hz:(m !=m)=false:=by simp
 clear hm;go_enter Tryz.func110,Tryz.ntmps110;(go_wp2_with fail);refine HM.out.mono ?_;rintro r w1 ⟨rfl,q,hq⟩;have c3:=c2 q;rw[← hq] at c3;have HQ:=hid hq;clear hq;go_wp2;go_ret;exact⟨rfl,_,HQ.out⟩
theorem zad6 {w:World} {b o D pl k:Nat} {M:Nat→Bool} (h:GAt w b o D pl (k+1) M) (hk:k<16) (m:Bool) (hm:M k=m) (hp:pl=5∨pl=1∨pl=3) :
  Calls Tryz.prog 110 #[.pointer (some ⟨b,o,none⟩),.bool m] w fun r w'=>r= .returned (.int .i64 0)∧Sub b (o+20) 18 w w'∧GAt w' b o D 5 k M:=by
 have c1:=h.opn;have HM:=hid (zrm h hk);have HG:=hid h;have hs:((k+1:Nat):Int)-1=(k:Int):=by omega
 have hw:Hid (IntKind.i64.wrap (k:Int)=(k:Int)):=hid (by simp only[IntKind.wrap_i64];omega);have hk:(((k+1:Nat):Int)==0)=false:=by simp;omega
 clear h;obtain⟨K,hK⟩:∃K:Int,((k+1:Nat):Int)=K:=⟨_,rfl⟩
 have HK:=hid hK;rw[hK] at c1 hs hk;rw[hm] at HM;have hz:(m !=m)=false:=by simp
 have HS0:=hid hs;clear hm hK hs;have key:∀P:Nat,pl=P→(P=5∨P=1∨P=3)→Calls Tryz.prog 110 #[.pointer (some ⟨b,o,none⟩),.bool m] w fun r w'=>r= .returned (.int .i64 0)∧Sub b (o+20) 18 w w'∧GAt w' b o D 5 k M:=by
  intro P hP hp;subst hP;rcases hp with rfl|rfl|rfl
  all_goals
   go_enter Tryz.func110,Tryz.ntmps110;(go_wp2_with fail);refine HM.out.mono ?_;rintro r w1 ⟨rfl,q,hq⟩;have H1:=HG.out.drewN q;have hs:Sub b (o+20) 18 w (w.drewN q):=(Sub.refl _ _ _ _).drewN q;rw[← hq] at H1 hs;have HH:=hid H1;have HS:=hid hs;have c3:=H1.plc;have c4:=H1.opn;have f3:=H1.fr 20 (by omega);have f4:=H1.fr 21 (by omega);have hs0:=HS0.out;rw[HK.out] at c4;clear H1 hs hq;go_wp2;go_ret;exact⟨rfl,(HS.out.trans (zajx _ b o _)).trans (zid _ b o _),(HH.out.setOpn k).setPl 5⟩
 exact key pl rfl hp
end
section
open Go.RowKit
open Go.Lib
theorem zagp {w:World} {b o D pl k:Nat} {M:Nat→Bool} (h:GAt w b o D pl k M) (x:ByteArray) :
  Calls Tryz.prog 111 #[.pointer (some ⟨b,o,none⟩),.iface 179 (.string x)] w fun r w'=>r= .returned (.int .i64 0)∧w'=w.setCell ⟨b,o+20,none⟩ (.int .i64 4):=by
 have c1:=h.plc;have f1:=h.fr 20 (by omega);have hA:=fun W=>zfq (.string x) W
 clear h;go_enter Tryz.func111,Tryz.ntmps111;go_wp2;go_ret;exact⟨rfl,rfl⟩
theorem zo2 (v:Value) (hv:v= .nilIface∨∃d x,v= .iface d x∧d≠179) (W:World):(Instr.typeAssert v 20 179 true).run Tryz.prog W= .ok (.tuple #[.string ⟨#[]⟩,.bool false]) W:=by
 rcases hv with rfl|⟨d,x,rfl,hd⟩
 ·kernel_rfl
 ·exact zb4 d hd x W
theorem zakq {w:World} {b o:Nat} (v:Value) (hv:v= .nilIface∨∃d x,v= .iface d x∧d≠179) :
  Calls Tryz.prog 111 #[.pointer (some ⟨b,o,none⟩),v] w fun r w'=>r= .returned (.int .i64 2)∧w'=w:=by
 have hA:=fun W=>zo2 v hv W
 clear hv;go_enter Tryz.func111,Tryz.ntmps111;go_wp2;go_ret;exact⟨rfl,rfl⟩
theorem zsb {w:World} {b o D pl:Nat} {M:Nat→Bool} (h:GAt w b o D pl D M) (m:Bool) (c:Int) :
  Calls Tryz.prog 120 #[.pointer (some ⟨b,o,none⟩),.agg #[.bool m,.int .i64 c]] w fun r w'=>r= .returned (.int .i64 4)∧Sub b (o+20) 18 w w':=by
 have hA:=h.keep (w':=w.alloc (.cells #[.bool m,.int .i64 c] 166)) (Below.heap_alloc w _ b h.room.lt);have c1:=hA.opn;have c2:=hA.dep;have f1:=hA.fr 21 (by omega);have f2:=hA.fr 1 (by omega);have HB:=hid h.room.lt;have hz:((D:Int)==(D:Int))=true:=by simp
 clear h hA;generalize (D:Int)=K at *
 go_enter Tryz.func120,Tryz.ntmps120;go_wp2
 go_quiet (fail)
 go_wp2;go_ret;exact⟨rfl,(zdv b _ _ w _ HB.out).drewN _⟩
theorem ztr {w:World} {b o D pl k:Nat} {M:Nat→Bool} (h:GAt w b o D pl k M) (hk:k<16) :
  GAt (((w.setCell ⟨b,o+22+k,none⟩ (.bool false)).setCell ⟨b,o+21,none⟩ (.int .i64 ((k:Int)+1))).setCell ⟨b,o+20,none⟩ (.int .i64 1)) b o D (plB false) (k+1) (updM M k false):=((h.setMap k hk false).setOpn (k+1)).setPl 1
theorem zxi {w:World} {b o D pl k:Nat} {M:Nat→Bool} (h:GAt w b o D pl k M) (hk:k<16) :
  GAt ((((w.setCell ⟨b,o+22+k,none⟩ (.bool true)).setCell ⟨b,o+21,none⟩ (.int .i64 ((k:Int)+1))).setCell ⟨b,o+20,none⟩ (.int .i64 1)).setCell ⟨b,o+20,none⟩ (.int .i64 3)) b o D (plB true) (k+1) (updM M k true):=(((h.setMap k hk true).setOpn (k+1)).setPl 1).setPl 3
theorem zaag {w:World} {b o D pl k:Nat} {M:Nat→Bool} (h:GAt w b o D pl k M) (hk:k<D) (hD:D≤16) (m:Bool) (c:Int) :
    Calls Tryz.prog 120 #[.pointer (some ⟨b,o,none⟩),.agg #[.bool m,.int .i64 c]] w fun r w'=>r= .returned (.int .i64 0)∧Sub b (o+20) 18 w w'∧GAt w' b o D (plB m) (k+1) (updM M k m):=by
  have hA:=h.keep (w':=w.alloc (.cells #[.bool m,.int .i64 c] 166)) (Below.heap_alloc w _ b h.room.lt);have c1:=hA.opn;have c2:=hA.dep;have f1:=hA.fr 21 (by omega);have f2:=hA.fr 1 (by omega);have f3:=hA.frm k (by omega);have c4:=hA.plc;have f4:=hA.fr 20 (by omega);have c3:=hA.maps k (by omega);have HB:=hid h.room.lt;have HA:=hid hA;have hne:b≠w.heap.size:=Nat.ne_of_lt h.room.lt;have hz:((k:Int)==(D:Int))=false:=by simp;omega
  have hk2:k<16:=by omega
  have HK2:=hid hk2;have hk4:(k:Int)<16:=by omega
  have hm:m=true∨m=false:=by cases m <;>simp
  clear h hA hk hD;generalize M k=u at *
  rcases hm with rfl|rfl
  all_goals
    go_enter Tryz.func120,Tryz.ntmps120;go_wp2
    go_quiet (fail)
    go_wp2
    go_region_with (fail)
    all_goals
      go_wp2;go_ret;refine⟨rfl,?_,?_⟩
      · repeat (with_reducible refine Sub.setCell ?_ _ _ (by omega))
        exact(zdv b _ _ w _ HB.out).drewN _
      · first
          |(with_reducible exact zxi (HA.out.drewN _) HK2.out)
          |(with_reducible exact ztr (HA.out.drewN _) HK2.out)
theorem zp5 (v:Value) (hv:v= .nilIface∨∃d x,v= .iface d x∧d≠166) (W:World):(Instr.typeAssert v 20 166 true).run Tryz.prog W= .ok (.tuple #[.agg #[.bool false,.int .i64 0],.bool false]) W:=by
 rcases hv with rfl|⟨d,x,rfl,hd⟩
 ·kernel_rfl
 ·exact zcx d hd x W
theorem zit {w:World} {b o D pl k:Nat} {M:Nat→Bool} (h:GAt w b o D pl k M) (h0:pl≠0) (h1:pl≠1) (v:Value) :
  Calls Tryz.prog 112 #[.pointer (some ⟨b,o,none⟩),v] w fun r w'=>r= .returned (.int .i64 2)∧w'=w:=by
 have c1:=h.plc;have z0:((pl:Int) !=0)=true:=by simp;omega
 have z1:((pl:Int) !=1)=true:=by simp;omega
 clear h h0 h1;go_enter Tryz.func112,Tryz.ntmps112;go_wp2;go_ret;exact⟨rfl,rfl⟩
theorem zpn {w:World} {b o D pl k:Nat} {M:Nat→Bool} (h:GAt w b o D pl k M) (hp:pl=0∨pl=1) (v:Value) (hv:v= .nilIface∨∃d x,v= .iface d x∧d≠166) :
  Calls Tryz.prog 112 #[.pointer (some ⟨b,o,none⟩),v] w fun r w'=>r= .returned (.int .i64 0)∧Sub b (o+20) 18 w w'∧GAt w' b o D 5 k M:=by
 have hT:=fun W=>zp5 v hv W
 clear hv;have hA:=h.keep (w':=w.alloc (.cells #[.bool false,.int .i64 0] 166)) (Below.heap_alloc w _ b h.room.lt);have HA:=hid hA;have HB:=hid h.room.lt;have c0:=h.plc;have c1:=hA.plc;have f1:=hA.fr 20 (by omega);clear h hA;rcases hp with rfl|rfl
 all_goals
  go_enter Tryz.func112,Tryz.ntmps112;go_wp2;go_ret;exact⟨rfl,(zdv b _ _ w _ HB.out).trans (zid _ b o _),HA.out.setPl 5⟩
theorem zp2 {w:World} {b o D pl k:Nat} {M:Nat→Bool} (h:GAt w b o D pl k M) (hp:pl=0∨pl=1) (hk:k≤D) (hD:D≤16) (m:Bool) (c:Int) :
    Calls Tryz.prog 112 #[.pointer (some ⟨b,o,none⟩),.iface 166 (.agg #[.bool m,.int .i64 c])] w fun r w'=>r= .returned (.int .i64 (if k=D then 4 else 0))∧Sub b (o+20) 18 w w'∧(k≠D→GAt w' b o D (plB m) (k+1) (updM M k m)):=by
  have hT:=fun W=>zf5 (.agg #[.bool m,.int .i64 c]) W
  have hA:=h.keep (w':=w.alloc (.cells #[.bool m,.int .i64 c] 166)) (Below.heap_alloc w _ b h.room.lt);have HB:=hid h.room.lt;have c0:=h.plc;have HC:Hid (Calls Tryz.prog 120 #[.pointer (some ⟨b,o,none⟩),.agg #[.bool m,.int .i64 c]] (w.alloc (.cells #[.bool m,.int .i64 c] 166)) fun r w'=>r= .returned (.int .i64 (if k=D then 4 else 0))∧Sub b (o+20) 18 (w.alloc (.cells #[.bool m,.int .i64 c] 166)) w'∧(k≠D→GAt w' b o D (plB m) (k+1) (updM M k m))):=hid (by
    by_cases e:k=D
    · subst e
      rw[if_pos rfl];exact(zsb hA m c).mono (by
        rintro r w' ⟨rfl,h1⟩;exact⟨rfl,h1,fun e=>absurd rfl e⟩)
    · rw[if_neg e]
      exact(zaag hA (by omega) hD m c).mono (by
        rintro r w' ⟨rfl,h1,h2⟩;exact⟨rfl,h1,fun _=>h2⟩))
  clear h hA hk hD;obtain⟨E,hE⟩:∃E:Int,(if k=D then 4 else 0:Int)=E:=⟨_,rfl⟩
  rw[hE] at HC ⊢;clear hE;rcases hp with rfl|rfl
  all_goals
    go_enter Tryz.func112,Tryz.ntmps112;(go_wp2_with fail);refine HC.out.mono ?_;rintro r w1 ⟨rfl,h1,h2⟩;have H1:=hid h1;have H2:=hid h2;clear h1 h2;go_wp2;go_ret;exact⟨rfl,(zdv b _ _ w _ HB.out).trans H1.out,H2.out⟩
end
section
open Go.RowKit
open Go.Lib
def zfj (t:Tk):Option Ev :=
 if t.k=91 then some (zda false) else if t.k=123 then some (zda true) else if t.k=93∨t.k=125 then some zbm else if t.k=115 then some (zce t.t)
 else if t.k=110 then some (zju t.n) else if t.k=116 then some (zdh true) else if t.k=102 then some (zdh false) else if t.k=48 then some zcy else none
def zo0 (t:Tk):Value:=match zfj t with
 | some e=>valE e
 | none=> .nilIface
theorem zae8 (D:Nat) (st:List FrJ) (dn:Bool) (t:Tk) (hk:zi3 t):(tokJ D (.at_ st dn) t).2=if errP (tokJ D (.at_ st dn) t).1=0 then(zfj t).toList else []:=by
  have hv:∀e,(valJ st dn e).2=if errP (valJ st dn e).1=0 then [e] else []:=by
    intro e;unfold valJ;split <;>rfl
  have hs:∀m,(zdq m st).2=if errP (zdq m st).1=0 then [zbm] else []:=by
    intro m
    match st with
    | []=>rfl
    | ⟨b,p⟩::r =>
      by_cases hc:b=m∧(p=0∨p=if m=true then 3 else 1)
      · have e:zdq m (⟨b,p⟩::r)=(.at_ r (zgo r),[zbm]):=if_pos hc
        rw[e];rfl
      · have e:zdq m (⟨b,p⟩::r)=(.bad 2,[]):=if_neg hc
        rw[e];rfl
  have ho:∀m e,(zer D st dn m e).2=if errP (zer D st dn m e).1=0 then [e] else []:=by
    intro m e;unfold zer;split
    · split <;>rfl
    · rfl
  have hc:(zek st).2=[]:=by unfold zek;split <;>rfl
  have hl:(zd3 st).2=[]:=by unfold zd3;split <;>rfl
  have ht:∀x,(strJ st dn x).2=if errP (strJ st dn x).1=0 then [zce x] else []:=by
    intro x;have:=hv (zce x);unfold strJ;split
    · rfl
    · rfl
    · exact this
  obtain⟨k,x,n⟩:=t;rcases hk.1 with h|h|h|h|h|h|h|h|h|h|h
  all_goals simp only at h;subst h
  · simp[tokJ,zfj,hc]
  · simp[tokJ,zfj,hl]
  · simp[tokJ,zfj,hs]
  · simp[tokJ,zfj,hs]
  · simp[tokJ,zfj,ho]
  · simp[tokJ,zfj,ho]
  · simp[tokJ,zfj,ht]
  · simp[tokJ,zfj,hv]
  · simp[tokJ,zfj,hv]
  · simp[tokJ,zfj,hv]
  · simp[tokJ,zfj,hv]
theorem zaib (t:Tk) (hk:zi3 t) (w:World) :
  Calls Tryz.prog 103 #[tkV t] w fun r w'=>r= .returned (.tuple #[zo0 t,.bool (zfj t).isSome])∧Below w.heap.size w w':=by
 obtain⟨k,x,n,v⟩:=t;have hk1:=hk.1;clear hk;simp only[tkV];simp only at hk1;rcases hk1 with rfl|rfl|rfl|rfl|rfl|rfl|rfl|rfl|rfl|rfl|rfl
 all_goals
  go_enter Tryz.func103,Tryz.ntmps103;go_wp2;go_ret2;exact⟨rfl,zaa (Below.refl _ _) _⟩
end
end Go.Proofs.YtpaciekgbhoncaaGreat
