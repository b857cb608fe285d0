/-
  Parts: DecNum, DecStep, DecEnd, LexA, LexB, LexC, LexD.
-/
import Derived.Test.YtpaciekgbhoncaaGreatG0c
import Derived.Test.YtpaciekgbhoncaaGreatG0b
import Derived.Laws.RangeAny
set_option maxRecDepth 100000
set_option maxHeartbeats 16000000
open Go.Lib (hid)
namespace Go.Proofs.YtpaciekgbhoncaaGreat
section
open Go.RowKit
open Go.Lib
def zan (e p:Nat) (m:Bool) (h l:Nat):List Value:=[.int .i64 e,.int .i64 p,.bool m,.int .u64 h,.int .u64 l]
def Fits (h l v:Nat):Prop:=h<100∧l<18446744073709551616∧(h*18446744073709551616+l=v∨2≤h∧36893488147419103232≤v)
def DAt (w:World) (b o:Nat):Dec→Prop
 | .bad f=>∃p m h l,At w b o (zan (errD (.bad f)) p m h l)
 | .num p m v=>WfD (.num p m v)∧∃h l:Nat,At w b o (zan 0 p m h l)∧Fits h l v
theorem DAt.wf {w:World} {b o:Nat} {s:Dec} (h:DAt w b o s):WfD s:=by
 cases s with
 | bad f=>trivial
 | num p m v=>exact h.1
theorem DAt.cells {w:World} {b o:Nat} {s:Dec} (h:DAt w b o s):∃p m hi lo,At w b o (zan (errD s) p m hi lo):=by
  cases s with
  | bad f=>exact h
  | num p m v =>
    obtain⟨_,hi,lo,h,_⟩:=h;exact⟨p,m,hi,lo,h⟩
theorem DAt.map {w w':World} {b o:Nat} {s:Dec} (h:DAt w b o s) (hk:∀vs:List Value,vs.length=5→At w b o vs→At w' b o vs):DAt w' b o s:=by
  cases s with
  | bad f =>
    obtain⟨p,m,hi,lo,h⟩:=h;exact⟨p,m,hi,lo,hk _ rfl h⟩
  | num p m v =>
    obtain⟨hw,hi,lo,h,hf⟩:=h;exact⟨hw,hi,lo,hk _ rfl h,hf⟩
theorem DAt.keep {w w':World} {b o:Nat} {s:Dec} (h:DAt w b o s) (hk:w'.heap[b]? = w.heap[b]?):DAt w' b o s:=h.map fun _ _ h=>h.keep hk
theorem DAt.sub {w w':World} {b o o' n:Nat} {s:Dec} (h:DAt w b o s) (k:Sub b o' n w w') (hd:o+5≤o'∨o'+n≤o):DAt w' b o s:=h.map fun vs hv h=>h.sub k (by omega)
theorem DAt.drewN {w:World} {b o:Nat} {s:Dec} (h:DAt w b o s) (q:Nat):DAt (w.drewN q) b o s:=h.map fun _ _ h=>h
def DPost (w:World) (b o:Nat) (s:Dec) (w':World):Prop:=DAt w' b o s∧Sub b o 5 w w'
theorem zabc {w:World} {b o:Nat} (h:At w b o (zan 0 0 false 0 0)):DAt w b o d0:=⟨wf0,0,0,h,by omega,by omega,.inl rfl⟩
theorem At.five {w:World} {b o:Nat} {v0 v1 v2 v3 v4:Value} (h:At w b o [v0,v1,v2,v3,v4]) :
  (w.cell? ⟨b,o,none⟩=some v0∧w.frozen? ⟨b,o,none⟩=false)∧(w.cell? ⟨b,o+1,none⟩=some v1∧w.frozen? ⟨b,o+1,none⟩=false) ∧
  (w.cell? ⟨b,o+2,none⟩=some v2∧w.frozen? ⟨b,o+2,none⟩=false)∧(w.cell? ⟨b,o+3,none⟩=some v3∧w.frozen? ⟨b,o+3,none⟩=false) ∧
  (w.cell? ⟨b,o+4,none⟩=some v4∧w.frozen? ⟨b,o+4,none⟩=false) :=
 ⟨h 0 v0 rfl,h 1 v1 rfl,h 2 v2 rfl,h 3 v3 rfl,h 4 v4 rfl⟩
theorem zd5 (x:Nat) (q:Bool) (hq:q=decide (48≤x∧x≤57)) (w:World) :
  Calls Tryz.prog 139 #[.int .u8 x] w fun e w'=>e= .returned (.bool q)∧w=w':=by
 subst hq;by_cases a1:(48:Int)≤x
 ·by_cases a2:(x:Int)≤57
  ·have he:decide (48≤x∧x≤57)=true:=by simp;omega
   rw[he];go_enter Tryz.func139,Tryz.ntmps139;go_wp2;go_ret;exact⟨rfl,rfl⟩
  ·have he:decide (48≤x∧x≤57)=false:=by simp;omega
   rw[he];go_enter Tryz.func139,Tryz.ntmps139;go_wp2;go_ret;exact⟨rfl,rfl⟩
 ·have he:decide (48≤x∧x≤57)=false:=by simp;omega
  rw[he];go_enter Tryz.func139,Tryz.ntmps139;go_wp2;go_ret;exact⟨rfl,rfl⟩
theorem zjk {w:World} {b o:Nat} (p:Nat) (hp:p≤3) (hc:w.cell? ⟨b,o+1,none⟩=some (.int .i64 p)) (q:Bool) (hq:q=decide (2≤p)) :
  Calls Tryz.prog 121 #[.pointer (some ⟨b,o,none⟩)] w fun e w'=>e= .returned (.bool q)∧w=w':=by
 subst hq;rcases(show p=0∨p=1∨p=2∨p=3 by omega) with rfl|rfl|rfl|rfl
 all_goals
  go_enter Tryz.func121,Tryz.ntmps121;go_wp2;go_ret;exact⟨rfl,rfl⟩
theorem zak6 (x:Nat) (hx:x<18446744073709551616) (w:World) :
  Calls Tryz.prog 146 #[.int .u64 x,.int .u64 10] w fun e w'=>e= .returned (.tuple #[.int .u64 ((x*10/18446744073709551616:Nat):Int),.int .u64 ((x*10%18446744073709551616:Nat):Int)])∧w'=w:=bits_Mul64 x 10 hx (by decide) w
theorem zwf {w:World} {b o:Nat} {e p:Nat} {m:Bool} {h l:Nat} (q:Nat) (hA:At w b o (zan e p m h l)) :
  At (w.setCell ⟨b,o+1,none⟩ (.int .i64 q)) b o (zan e q m h l)∧Sub b o 5 w (w.setCell ⟨b,o+1,none⟩ (.int .i64 q)) :=
 ⟨hA.set 1 (by simp[zan]) _,zac w (o+1) _ (by omega)⟩
theorem add_zero {w:World} {b o:Nat} {p:Nat} {m:Bool} {h l:Nat} (hp:p<2) (hA:At w b o (zan 0 p m h l)) :
  Calls Tryz.prog 140 #[.pointer (some ⟨b,o,none⟩),.int .u8 48] w fun e w'=>e= .returned (.tuple #[])∧At w' b o (zan 0 2 m h l)∧Sub b o 5 w w':=by
 obtain⟨_,⟨hc,hf⟩,_⟩:=hA.five;have HP:=hid (zwf 2 hA);have HD:=hid (zjk p (by omega) hc false (by simp;omega));clear hA;go_enter Tryz.func140,Tryz.ntmps140;(go_wp2_with fail);refine HD.out.mono ?_;rintro e w' ⟨rfl,rfl⟩;go_wp2;refine bodyPost_ret (results_none rfl _ _ _) rfl ?_;exact⟨rfl,HP.out⟩
theorem zvo {w:World} {b o:Nat} {p:Nat} {m:Bool} {h l x:Nat} (hp:p≤3) (hx:x≠48∨2≤p) (hh:1<h) (hA:At w b o (zan 0 p m h l)) :
  Calls Tryz.prog 140 #[.pointer (some ⟨b,o,none⟩),.int .u8 x] w fun e w'=>e= .returned (.tuple #[])∧At w' b o (zan 0 3 m h l)∧Sub b o 5 w w':=by
 obtain⟨_,⟨hc,hf⟩,_,⟨hch,_⟩,_⟩:=hA.five;have HP:=hid (zwf 3 hA);have hh':(1:Int)<h:=by omega
 clear hA;by_cases h48:x=48
 ·subst h48
  have HD:=hid (zjk p hp hc true (by simp;omega));go_enter Tryz.func140,Tryz.ntmps140;(go_wp2_with fail);refine HD.out.mono ?_;rintro e w' ⟨rfl,rfl⟩;go_wp2;refine bodyPost_ret (results_none rfl _ _ _) rfl ?_;exact⟨rfl,HP.out⟩
 ·have hz:((x:Int)==48)=false:=by rw[beq_eq_false_iff_ne];omega
  clear hx;go_enter Tryz.func140,Tryz.ntmps140;go_wp2;refine bodyPost_ret (results_none rfl _ _ _) rfl ?_;exact⟨rfl,HP.out⟩
theorem zyk {w:World} {b o:Nat} {e p:Nat} {m:Bool} {h l:Nat} (q h' l':Nat) (hA:At w b o (zan e p m h l)) :
    At (((w.setCell ⟨b,o+1,none⟩ (.int .i64 q)).setCell ⟨b,o+3,none⟩ (.int .u64 h')).setCell ⟨b,o+4,none⟩ (.int .u64 l')) b o (zan e q m h' l') ∧
    Sub b o 5 w (((w.setCell ⟨b,o+1,none⟩ (.int .i64 q)).setCell ⟨b,o+3,none⟩ (.int .u64 h')).setCell ⟨b,o+4,none⟩ (.int .u64 l')) :=
  ⟨((hA.set 1 (by simp[zan]) (.int .i64 q)).set 3 (by simp[zan]) (.int .u64 h')).set 4 (by simp[zan]) (.int .u64 l'),
   ((zac w (o+1) _ (by omega)).setCell (o+3) _ (by omega)).setCell (o+4) _ (by omega)⟩
theorem zw6 {w:World} {b o:Nat} {p:Nat} {m:Bool} {h l x d:Nat} (hp:p≤3) (hx:x≠48∨2≤p) (hd:x=48+d) (hd9:d≤9) (hh:h≤1) (hl:l<18446744073709551616) (hA:At w b o (zan 0 p m h l)) :
  Calls Tryz.prog 140 #[.pointer (some ⟨b,o,none⟩),.int .u8 x] w fun e w'=>e= .returned (.tuple #[]) ∧
   At w' b o (zan 0 3 m (h*10+l*10/18446744073709551616+(l*10%18446744073709551616+d)/18446744073709551616) ((l*10%18446744073709551616+d)%18446744073709551616))∧Sub b o 5 w w':=by
 obtain⟨_,⟨hc,hf⟩,_,⟨hch,hfh⟩,hcl,hfl⟩:=hA.five;obtain⟨c,hcc⟩:∃c,l*10/18446744073709551616=c:=⟨_,rfl⟩
 obtain⟨lo,hlo⟩:∃lo,l*10%18446744073709551616=lo:=⟨_,rfl⟩
 have hM:=zak6 l hl;rw[hcc,hlo] at hM ⊢;have hA2:∀W,(callFunc 147 #[.int .u64 lo,.int .u64 d,.int .u64 0]).run Tryz.prog W= .ok (.value (.tuple #[.int .u64 (((lo+d)%18446744073709551616:Nat):Int),.int .u64 (((lo+d)/18446744073709551616:Nat):Int)])) W:=fun W=>zio lo d 0 (by decide) W
 obtain⟨k,hk⟩:∃k,(lo+d)/18446744073709551616=k:=⟨_,rfl⟩
 obtain⟨l2,hl2⟩:∃l2,(lo+d)%18446744073709551616=l2:=⟨_,rfl⟩
 rw[hk,hl2] at hA2 ⊢;have HP:=hid (zyk 3 (h*10+c+k) l2 hA);have hc9:c≤9:=by omega
 have hk1:k≤1:=by omega
 have hw1:IntKind.u64.wrap ((h:Int)*10)=(h:Int)*10:=zbx _ (by omega) (by omega);have hw2:IntKind.u64.wrap ((h:Int)*10+(c:Int))=(h:Int)*10+(c:Int):=zbx _ (by omega) (by omega);have hw3:IntKind.u64.wrap ((h:Int)*10+(c:Int)+(k:Int))=((h*10+c+k:Nat):Int):=by rw[zbx _ (by omega) (by omega)];omega
 have hw4:IntKind.u8.wrap ((x:Int)-48)=(d:Int):=by rw[zuk _ (by omega) (by omega)];omega
 have hw5:IntKind.u64.wrap (d:Int)=(d:Int):=zbx _ (by omega) (by omega);have hh':¬(1:Int)<h:=by omega
 have HM:=hid hM;have HA2:=hid hA2;generalize h*10+c+k=h2 at *
 clear hA hM hA2 hcc hlo hk hl2 hc9 hk1 hh hl hd9;by_cases h48:x=48
 ·subst h48
  have HD:=hid (zjk p hp hc true (by simp;omega));obtain rfl:d=0:=by omega
  have hA3:∀W,(callFunc 147 #[.int .u64 lo,.int .u64 0,.int .u64 0]).run Tryz.prog W= .ok (.value (.tuple #[.int .u64 l2,.int .u64 k])) W:=HA2.out;have HA3:=hid hA3;clear hx hp hd hA3 HA2 hw4 hw5;go_enter Tryz.func140,Tryz.ntmps140;(go_wp2_with fail);refine HD.out.mono ?_;rintro e w' ⟨rfl,rfl⟩
  go_wp2_with (first |(go_at_call 146;refine(HM.out _).mono ?_;rintro e w' ⟨rfl,rfl⟩)|simp only[HA3.out])
  go_end0
  exact⟨rfl,HP.out⟩
 ·have hz:((x:Int)==48)=false:=by rw[beq_eq_false_iff_ne];omega
  clear hx hp hd;go_enter Tryz.func140,Tryz.ntmps140
  go_wp2_with (first |(go_at_call 146;refine(HM.out _).mono ?_;rintro e w' ⟨rfl,rfl⟩)|simp only[HA2.out])
  go_end0
  exact⟨rfl,HP.out⟩
end
section
open Go.RowKit
open Go.Lib
theorem zvx {h l v d:Nat} (hf:Fits h l v) (hh:h≤1) (hd:d≤9):Fits (h*10+l*10/18446744073709551616+(l*10%18446744073709551616+d)/18446744073709551616) ((l*10%18446744073709551616+d)%18446744073709551616) (v*10+d):=by
 obtain⟨h1,h2,h3⟩:=hf;refine⟨by omega,by omega,.inl ?_⟩;omega
theorem ztf {h l v d:Nat} (hf:Fits h l v) (hh:2≤h):Fits h l (v*10+d):=by
 obtain⟨h1,h2,h3⟩:=hf;exact⟨h1,h2,.inr ⟨hh,by omega⟩⟩
theorem zakm {w:World} {b o:Nat} {p:Nat} {m:Bool} {v x:Nat} (hp:p≠2) (hx:48≤x∧x≤57) (h:DAt w b o (.num p m v)) :
  Calls Tryz.prog 140 #[.pointer (some ⟨b,o,none⟩),.int .u8 x] w fun e w'=>e= .returned (.tuple #[])∧DPost w b o (zaz (.num p m v) x).1 w':=by
 obtain⟨hw,hi,lo,hA,hf⟩:=h;have hwf:=zaeh (.num p m v) x hw;obtain⟨h1,h2,h3,h4,h5⟩:=hw;simp only[zaz] at hwf ⊢;rw[if_neg (by omega),if_pos ⟨hx,hp⟩] at hwf ⊢;by_cases hz:x=48∧p<2
 ·obtain⟨rfl,hp2⟩:=hz
  rw[if_pos ⟨by trivial,hp2⟩] at hwf ⊢;refine(add_zero hp2 hA).mono ?_;rintro e w' ⟨rfl,hA',hS⟩;exact⟨rfl,⟨hwf,hi,lo,hA',hf⟩,hS⟩
 ·rw[if_neg hz] at hwf ⊢
  by_cases hg:1<hi
  ·refine(zvo (by omega) (by omega) hg hA).mono ?_
   rintro e w' ⟨rfl,hA',hS⟩;exact⟨rfl,⟨hwf,hi,lo,hA',ztf hf (by omega)⟩,hS⟩
  ·refine(zw6 (d:=x-48) (by omega) (by omega) (by omega) (by omega) (by omega) hf.2.1 hA).mono ?_
   rintro e w' ⟨rfl,hA',hS⟩;exact⟨rfl,⟨hwf,_,_,hA',zvx hf (by omega) (by omega)⟩,hS⟩
theorem zafp {w:World} {b o:Nat} {e p:Nat} {m:Bool} {h l:Nat} (hA:At w b o (zan e p m h l)) :
  At ((w.setCell ⟨b,o+2,none⟩ (.bool true)).setCell ⟨b,o+1,none⟩ (.int .i64 1)) b o (zan e 1 true h l) ∧
  Sub b o 5 w ((w.setCell ⟨b,o+2,none⟩ (.bool true)).setCell ⟨b,o+1,none⟩ (.int .i64 1)) :=
 ⟨(hA.set 2 (by simp[zan]) (.bool true)).set 1 (by simp[zan]) (.int .i64 1),(zac w (o+2) _ (by omega)).setCell (o+1) _ (by omega)⟩
theorem zs5 {w:World} {b o:Nat} {m:Bool} {v:Nat} (h:DAt w b o (.num 0 m v)) :
  Calls Tryz.prog 133 #[.pointer (some ⟨b,o,none⟩),.int .u8 45] w fun e w'=>e= .returned (.tuple #[.bool true,.int .i64 0])∧DPost w b o (.num 1 true v) w':=by
 obtain⟨hw,hi,lo,hA,hf⟩:=h;have hwf:WfD (.num 1 true v):=⟨by omega,fun _=>hw.2.1 (by omega),by omega,by omega,fun _=>rfl⟩
 obtain⟨_,⟨hc1,hf1⟩,⟨hc2,hf2⟩,_⟩:=hA.five;obtain⟨k1,k2⟩:=zafp hA;have HP:Hid (DPost w b o (.num 1 true v) _):=hid ⟨⟨hwf,hi,lo,k1,hf⟩,k2⟩;clear hA hw hwf hf k1 k2;go_enter Tryz.func133,Tryz.ntmps133;go_wp2;go_ret2;exact⟨rfl,HP.out⟩
theorem zqh {w:World} {b o:Nat} {p:Nat} {m:Bool} {v x:Nat} (hp:p≠2) (hx:48≤x∧x≤57) (h:DAt w b o (.num p m v)) :
  Calls Tryz.prog 133 #[.pointer (some ⟨b,o,none⟩),.int .u8 x] w fun e w'=>e= .returned (.tuple #[.bool true,.int .i64 0])∧DPost w b o (zaz (.num p m v) x).1 w':=by
 have HA:=hid (zakm hp hx h);have HI:=hid (zd5 x true (by simp;omega));obtain⟨_,hi,lo,hA,_⟩:=h;obtain⟨_,⟨hc1,_⟩,_⟩:=hA.five;have hz:((x:Int)==45)=false:=by rw[beq_eq_false_iff_ne];omega
 have hz2:((p:Int) !=2)=true:=by simp;omega
 clear hA hx hp;go_enter Tryz.func133,Tryz.ntmps133;(go_wp2_with fail);refine(HI.out _).mono ?_;rintro e w1 ⟨rfl,rfl⟩;(go_wp2_with fail);refine HA.out.mono ?_;rintro e w1 ⟨rfl,hP⟩;have HP:=hid hP;clear hP;go_wp2;go_ret2;exact⟨rfl,HP.out⟩
theorem zo5 {w:World} {b o:Nat} {x:Nat} (hc1:w.cell? ⟨b,o+1,none⟩=some (.int .i64 2)) (hx:48≤x∧x≤57) :
  Calls Tryz.prog 133 #[.pointer (some ⟨b,o,none⟩),.int .u8 x] w fun r w'=>r= .returned (.tuple #[.bool false,.int .i64 2])∧w=w':=by
 have HI:=hid (zd5 x true (by simp;omega));have hz:((x:Int)==45)=false:=by rw[beq_eq_false_iff_ne];omega
 clear hx;go_enter Tryz.func133,Tryz.ntmps133;(go_wp2_with fail);refine(HI.out _).mono ?_;rintro r w1 ⟨rfl,rfl⟩;(go_wp2_with fail);refine(HI.out _).mono ?_;rintro r w1 ⟨rfl,rfl⟩;go_wp2;go_ret2;exact⟨rfl,rfl⟩
theorem zs0 {w:World} {b o:Nat} {p x:Nat} (hc1:w.cell? ⟨b,o+1,none⟩=some (.int .i64 p)) (hp:p<2) (hx:¬(48≤x∧x≤57)) (h45:¬(x=45∧p=0)) :
  Calls Tryz.prog 133 #[.pointer (some ⟨b,o,none⟩),.int .u8 x] w fun r w'=>r= .returned (.tuple #[.bool false,.int .i64 2])∧w=w':=by
 have HI:=hid (zd5 x false (by simp;omega));have HH:=hid (zjk p (by omega) hc1 false (by simp;omega));by_cases h:x=45
 ·subst h
  obtain rfl:p=1:=by omega
  clear hx hp h45;go_enter Tryz.func133,Tryz.ntmps133;(go_wp2_with fail);refine(HI.out _).mono ?_;rintro r w1 ⟨rfl,rfl⟩;(go_wp2_with fail);refine(HI.out _).mono ?_;rintro r w1 ⟨rfl,rfl⟩;(go_wp2_with fail);refine HH.out.mono ?_;rintro r w1 ⟨rfl,rfl⟩;go_wp2;go_ret2;exact⟨rfl,rfl⟩
 ·have hz:((x:Int)==45)=false:=by rw[beq_eq_false_iff_ne];omega
  clear hx hp h45 h;go_enter Tryz.func133,Tryz.ntmps133;(go_wp2_with fail);refine(HI.out _).mono ?_;rintro r w1 ⟨rfl,rfl⟩;(go_wp2_with fail);refine(HI.out _).mono ?_;rintro r w1 ⟨rfl,rfl⟩;(go_wp2_with fail);refine HH.out.mono ?_;rintro r w1 ⟨rfl,rfl⟩;go_wp2;go_ret2;exact⟨rfl,rfl⟩
theorem zx2 {w:World} {b o:Nat} {p x:Nat} (hc1:w.cell? ⟨b,o+1,none⟩=some (.int .i64 p)) (hp:p=2∨p=3) (hx:¬(48≤x∧x≤57)) (e:Nat) (he:e=if x=46∨x=101∨x=69 then 6 else 0) :
  Calls Tryz.prog 133 #[.pointer (some ⟨b,o,none⟩),.int .u8 x] w fun r w'=>r= .returned (.tuple #[.bool false,.int .i64 e])∧w=w':=by
 have HI:=hid (zd5 x false (by simp;omega));have HH:=hid (zjk p (by omega) hc1 true (by simp;omega));by_cases a1:x=46
 ·obtain rfl:e=6:=by rw[he,if_pos (by omega)]
  clear he hx;subst a1;rcases hp with rfl|rfl
  all_goals
   go_enter Tryz.func133,Tryz.ntmps133;(go_wp2_with fail);refine(HI.out _).mono ?_;rintro r w1 ⟨rfl,rfl⟩;(go_wp2_with fail);refine(HI.out _).mono ?_;rintro r w1 ⟨rfl,rfl⟩;(go_wp2_with fail);refine HH.out.mono ?_;rintro r w1 ⟨rfl,rfl⟩;go_wp2;go_ret2;exact⟨rfl,rfl⟩
 by_cases a2:x=101
 ·obtain rfl:e=6:=by rw[he,if_pos (by omega)]
  clear he hx a1;subst a2;rcases hp with rfl|rfl
  all_goals
   go_enter Tryz.func133,Tryz.ntmps133;(go_wp2_with fail);refine(HI.out _).mono ?_;rintro r w1 ⟨rfl,rfl⟩;(go_wp2_with fail);refine(HI.out _).mono ?_;rintro r w1 ⟨rfl,rfl⟩;(go_wp2_with fail);refine HH.out.mono ?_;rintro r w1 ⟨rfl,rfl⟩;go_wp2;go_ret2;exact⟨rfl,rfl⟩
 by_cases a3:x=69
 ·obtain rfl:e=6:=by rw[he,if_pos (by omega)]
  clear he hx a1 a2;subst a3;rcases hp with rfl|rfl
  all_goals
   go_enter Tryz.func133,Tryz.ntmps133;(go_wp2_with fail);refine(HI.out _).mono ?_;rintro r w1 ⟨rfl,rfl⟩;(go_wp2_with fail);refine(HI.out _).mono ?_;rintro r w1 ⟨rfl,rfl⟩;(go_wp2_with fail);refine HH.out.mono ?_;rintro r w1 ⟨rfl,rfl⟩;go_wp2;go_ret2;exact⟨rfl,rfl⟩
 obtain rfl:e=0:=by rw[he,if_neg (by omega)]
 have z1:((x:Int)==46)=false:=by rw[beq_eq_false_iff_ne];omega
 have z2:((x:Int)==101)=false:=by rw[beq_eq_false_iff_ne];omega
 have z3:((x:Int)==69)=false:=by rw[beq_eq_false_iff_ne];omega
 clear he hx a1 a2 a3;by_cases a4:x=45
 ·subst a4
  clear z1 z2 z3;rcases hp with rfl|rfl
  all_goals
   go_enter Tryz.func133,Tryz.ntmps133;(go_wp2_with fail);refine(HI.out _).mono ?_;rintro r w1 ⟨rfl,rfl⟩;(go_wp2_with fail);refine(HI.out _).mono ?_;rintro r w1 ⟨rfl,rfl⟩;(go_wp2_with fail);refine HH.out.mono ?_;rintro r w1 ⟨rfl,rfl⟩;go_wp2;go_ret2;exact⟨rfl,rfl⟩
 ·have z4:((x:Int)==45)=false:=by rw[beq_eq_false_iff_ne];omega
  clear a4;rcases hp with rfl|rfl
  all_goals
   go_enter Tryz.func133,Tryz.ntmps133;(go_wp2_with fail);refine(HI.out _).mono ?_;rintro r w1 ⟨rfl,rfl⟩;(go_wp2_with fail);refine(HI.out _).mono ?_;rintro r w1 ⟨rfl,rfl⟩;(go_wp2_with fail);refine HH.out.mono ?_;rintro r w1 ⟨rfl,rfl⟩;go_wp2;go_ret2;exact⟨rfl,rfl⟩
theorem zy1 {w:World} {b o:Nat} {p:Nat} {m:Bool} {v x:Nat} (h:DAt w b o (.num p m v)) (h1:¬(x=45∧p=0)) (h2:¬((48≤x∧x≤57)∧p≠2)) (e:Nat) (he:e=errD (zaz (.num p m v) x).1) :
  Calls Tryz.prog 133 #[.pointer (some ⟨b,o,none⟩),.int .u8 x] w fun r w'=>r= .returned (.tuple #[.bool false,.int .i64 e])∧w=w':=by
 obtain⟨hw,hi,lo,hA,_⟩:=h;obtain⟨hp3,_⟩:=hw;obtain⟨_,⟨hc1,_⟩,_⟩:=hA.five;clear hA;simp only[zaz] at he;rw[if_neg h1,if_neg h2] at he;by_cases hd:48≤x∧x≤57
 ·obtain rfl:p=2:=by omega
  rw[if_pos (.inl hd)] at he;subst he;exact zo5 hc1 hd
 ·by_cases hp:p<2
  ·rw[if_pos (.inr hp)] at he
   subst he;exact zs0 hc1 hp hd h1
  ·rw[if_neg (by omega)] at he
   refine zx2 hc1 (by omega) hd e ?_;rw[he];split <;>rfl
end
section
open Go.RowKit
open Go.Lib
theorem zm8 {w:World} {b o:Nat} {v:Value} {vs:List Value} (h:At w b o (v::vs)):w.cell? ⟨b,o,none⟩=some v∧w.frozen? ⟨b,o,none⟩=false:=h 0 v rfl
theorem zjd {w:World} {b o x:Nat} (hc:w.cell? ⟨b,o,none⟩=some (.int .i64 0)) (q:Bool) (e:Nat) (R:World→Prop)
  (hT:Calls Tryz.prog 133 #[.pointer (some ⟨b,o,none⟩),.int .u8 x] w fun r w'=>r= .returned (.tuple #[.bool q,.int .i64 e])∧(∃v,w'.cell? ⟨b,o,none⟩=some v∧w'.frozen? ⟨b,o,none⟩=false)∧R (w'.setCell ⟨b,o,none⟩ (.int .i64 e))) :
  Calls Tryz.prog 125 #[.pointer (some ⟨b,o,none⟩),.int .u8 x] w fun r w'=>r= .returned (.tuple #[.bool q,.int .i64 e])∧R w':=by
 have HT:=hid hT;clear hT;go_enter Tryz.func125,Tryz.ntmps125;(go_wp2_with fail);refine HT.out.mono ?_;rintro r w1 ⟨rfl,⟨v,hv,hfz⟩,hR⟩;have HR:=hid hR;clear hR;go_wp2;go_ret2;exact⟨rfl,HR.out⟩
theorem zac7 {w:World} {b o x:Nat} (e:Nat) (he:e≠0) (hc:w.cell? ⟨b,o,none⟩=some (.int .i64 e)) :
  Calls Tryz.prog 125 #[.pointer (some ⟨b,o,none⟩),.int .u8 x] w fun r w'=>r= .returned (.tuple #[.bool false,.int .i64 e])∧∃q,w'=w.drewN q:=by
 have hz:((e:Int) !=0)=true:=by simp;omega
 clear he;go_enter Tryz.func125,Tryz.ntmps125;go_wp2
 go_quiet (fail)
 go_wp2;go_ret2;exact⟨rfl,_,rfl⟩
theorem zk4 {w:World} {b o:Nat} {p:Nat} {m:Bool} {v:Nat} (h:DAt w b o (.num p m v)):DPost w b o (.num p m v) (w.setCell ⟨b,o,none⟩ (.int .i64 0)):=by
 obtain⟨hw,hi,lo,hA,hf⟩:=h;exact⟨⟨hw,hi,lo,hA.set 0 (by simp[zan]) (.int .i64 0),hf⟩,zac w o _ (by omega)⟩
theorem zah0 {w:World} {b o:Nat} {p:Nat} {m:Bool} {v:Nat} (f:Bool) (h:DAt w b o (.num p m v)):DPost w b o (.bad f) (w.setCell ⟨b,o,none⟩ (.int .i64 (errD (.bad f)))):=by
 obtain⟨hw,hi,lo,hA,hf⟩:=h;exact⟨⟨p,m,hi,lo,hA.set 0 (by simp[zan]) (.int .i64 (errD (.bad f)))⟩,zac w o _ (by omega)⟩
theorem DPost.trans {w w1 w2:World} {b o:Nat} {s s1:Dec} (h:DPost w b o s1 w1) (k:DPost w1 b o s w2):DPost w b o s w2:=⟨k.1,h.2.trans k.2⟩
theorem DAt.first {w:World} {b o:Nat} {s:Dec} (h:DAt w b o s):w.cell? ⟨b,o,none⟩=some (.int .i64 (errD s))∧w.frozen? ⟨b,o,none⟩=false:=by
 obtain⟨_,_,_,_,h⟩:=h.cells;exact zm8 h
theorem zq4 {w:World} {b o:Nat} {s:Dec} (h:DAt w b o s) (x:Nat) :
    Calls Tryz.prog 125 #[.pointer (some ⟨b,o,none⟩),.int .u8 x] w fun r w'=>r= .returned (.tuple #[.bool (zaz s x).2,.int .i64 (errD (zaz s x).1)])∧DPost w b o (zaz s x).1 w':=by
  cases s with
  | bad f =>
    have hc:=h.first.1;have he:errD (.bad f)≠0:=by cases f <;>decide
    refine(zac7 _ he hc).mono ?_;rintro r w' ⟨rfl,q,rfl⟩;exact⟨rfl,h.drewN q,(Sub.refl _ _ _ _).drewN q⟩
  | num p m v =>
    have hc:w.cell? ⟨b,o,none⟩=some (.int .i64 0):=h.first.1;by_cases c1:x=45∧p=0
    · obtain⟨rfl,rfl⟩:=c1
      have hs:zaz (.num 0 m v) 45=(.num 1 true v,true):=by simp only[zaz];rw[if_pos ⟨by trivial,by trivial⟩]
      rw[hs];refine zjd hc true 0 _ ?_;refine(zs5 h).mono ?_;rintro r w1 ⟨rfl,hP⟩;exact⟨rfl,⟨_,hP.1.first⟩,hP.trans (zk4 hP.1)⟩
    by_cases c2:(48≤x∧x≤57)∧p≠2
    · obtain⟨p',v',hs⟩:∃p' v',zaz (.num p m v) x=(.num p' m v',true):=by
        simp only[zaz];rw[if_neg c1,if_pos c2];split
        · exact⟨_,_,rfl⟩
        · exact⟨_,_,rfl⟩
      have hT:=zqh c2.2 c2.1 h;rw[hs] at hT ⊢;refine zjd hc true 0 _ ?_;refine hT.mono ?_;rintro r w1 ⟨rfl,hP⟩;exact⟨rfl,⟨_,hP.1.first⟩,hP.trans (zk4 hP.1)⟩
    · have hT:=zy1 h c1 c2 _ rfl
      have hs:(zaz (.num p m v) x).2=false∧((zaz (.num p m v) x).1= .num p m v∨∃f,(zaz (.num p m v) x).1= .bad f):=by
        simp only[zaz];rw[if_neg c1,if_neg c2];split
        · exact⟨rfl,.inr ⟨_,rfl⟩⟩
        · split
          · exact⟨rfl,.inr ⟨_,rfl⟩⟩
          · exact⟨rfl,.inl rfl⟩
      obtain⟨hs1,hs2⟩:=hs;rw[hs1];refine zjd hc false _ _ ?_;refine hT.mono ?_;rintro r w1 ⟨rfl,rfl⟩;refine⟨rfl,⟨_,h.first⟩,?_⟩;rcases hs2 with hs2|⟨f,hs2⟩
      · rw[hs2];exact zk4 h
      · rw[hs2];exact zah0 f h
theorem zoa {w w1:World} {c:Array Value} {t:TypeId} (hB:Below (w.alloc (.cells c t)).heap.size (w.alloc (.cells c t)) w1) (i:Nat) (v:Value) (hv:c[i]? = some v):w1.cell? ⟨w.heap.size,i,none⟩=some v∧w1.frozen? ⟨w.heap.size,i,none⟩=false:=by
 have hk:=hB.block w.heap.size (by simp);refine⟨(World.cell?_of_block (w:=w.alloc (.cells c t)) (a:=⟨w.heap.size,i,none⟩) hk).trans ?_,(World.frozen?_of_block (w:=w.alloc (.cells c t)) (a:=⟨w.heap.size,i,none⟩) hk).trans ?_⟩
 ·rw[World.cell?_alloc_new];exact hv
 ·exact World.frozen?_alloc_new _ _ _ _
theorem zea {w:World} {b o:Nat} {vs:List Value} (h:At w b o vs) (x:Obj) (hv:vs≠[]):At (w.alloc x) b o vs:=h.alloc hv x
theorem zi1 {w:World} {b o p h l:Nat} {m:Bool} (hm:m=false∨m=true∧p=2) (hA:At w b o (zan 0 p m h l)) (n e:Nat) (hr:h≠0∧n=0∧e=7∨h=0∧n=l∧e=0) (hh:h<100) :
  Calls Tryz.prog 122 #[.pointer (some ⟨b,o,none⟩)] w fun r w'=>r= .returned (.tuple #[.agg #[.bool false,.int .u64 n],.int .i64 e])∧Below w.heap.size w w':=by
 have hw:IntKind.u64.wrap ((h:Int)-0)=(h:Int):=by rw[Int.sub_zero];exact zbx _ (by omega) (by omega)
 have hw':IntKind.u64.wrap (h:Int)=(h:Int):=zbx _ (by omega) (by omega);have hA':∀x,At (w.alloc x) b o (zan 0 p m h l):=fun x=>zea hA x (by simp[zan])
 have hc1:=fun x=>(hA' x).five.2.1.1
 have hc2:=fun x=>(hA' x).five.2.2.1.1
 have hc3:=fun x=>(hA' x).five.2.2.2.1.1
 have hc4:=fun x=>(hA' x).five.2.2.2.2.1
 have HB:=hid (fun x q=>zb5 ((Below.refl w.heap.size w).alloc (Nat.le_refl _) x) q);clear hA hA';rcases hm with rfl|⟨rfl,rfl⟩ <;>rcases hr with ⟨h0,rfl,rfl⟩|⟨rfl,rfl,rfl⟩
 ·have hz:((h:Int) !=0)=true:=by simp;omega
  clear h0 hh;go_enter Tryz.func122,Tryz.ntmps122;go_wp2
  go_quiet (fail)
  go_wp2;simp[bodyPost,results,Tryz.results122,go_sem];exact((HB.out _ _).setCell (Nat.le_refl _) _).setCell (Nat.le_refl _) _
 ·have hz:(((0:Nat):Int) !=0)=false:=rfl
  go_enter Tryz.func122,Tryz.ntmps122;go_wp2
  go_quiet (fail)
  go_wp2;simp[bodyPost,results,Tryz.results122,go_sem];exact((HB.out _ _).setCell (Nat.le_refl _) _).setCell (Nat.le_refl _) _
 ·have hz:((h:Int) !=0)=true:=by simp;omega
  clear h0 hh;go_enter Tryz.func122,Tryz.ntmps122;go_wp2
  go_quiet (fail)
  go_wp2;simp[bodyPost,results,Tryz.results122,go_sem];exact((HB.out _ _).setCell (Nat.le_refl _) _).setCell (Nat.le_refl _) _
 ·have hz:(((0:Nat):Int) !=0)=false:=rfl
  go_enter Tryz.func122,Tryz.ntmps122;go_wp2
  go_quiet (fail)
  go_wp2;simp[bodyPost,results,Tryz.results122,go_sem];exact((HB.out _ _).setCell (Nat.le_refl _) _).setCell (Nat.le_refl _) _
theorem zd8 {w:World} {b o h l:Nat} (hA:At w b o (zan 0 3 true h l)) (mag less k:Nat) (hS:∀W,(callFunc 130 #[.int .u64 l,.int .u64 1,.int .u64 0]).run Tryz.prog W= .ok (.value (.tuple #[.int .u64 mag,.int .u64 less])) W)
  (hk:h=less+k) (hh:h<100) (q:Bool) (n e:Nat) (hr:k≠0∧q=false∧n=0∧e=7∨k=0∧q=true∧n=mag∧e=0) :
  Calls Tryz.prog 122 #[.pointer (some ⟨b,o,none⟩)] w fun r w'=>r= .returned (.tuple #[.agg #[.bool q,.int .u64 n],.int .i64 e])∧Below w.heap.size w w':=by
 have hw:IntKind.u64.wrap ((h:Int)-(less:Int))=(k:Int):=by rw[zbx _ (by omega) (by omega)];omega
 have hA':∀x,At (w.alloc x) b o (zan 0 3 true h l):=fun x=>zea hA x (by simp[zan])
 have hc1:=fun x=>(hA' x).five.2.1.1
 have hc2:=fun x=>(hA' x).five.2.2.1.1
 have hc3:=fun x=>(hA' x).five.2.2.2.1.1
 have hc4:=fun x=>(hA' x).five.2.2.2.2.1
 have HB:=hid (fun x q=>zb5 ((Below.refl w.heap.size w).alloc (Nat.le_refl _) x) q);have HS:=hid hS;clear hA hA' hS hh hk;rcases hr with ⟨h0,rfl,rfl,rfl⟩|⟨rfl,rfl,rfl,rfl⟩
 ·have hz:((k:Int) !=0)=true:=by simp;omega
  clear h0;go_enter Tryz.func122,Tryz.ntmps122;go_wp2
  go_quiet (fail)
  go_wp2_with (simp only[HS.out])
  simp[bodyPost,results,Tryz.results122,go_sem];exact((HB.out _ _).setCell (Nat.le_refl _) _).setCell (Nat.le_refl _) _
 ·have hz:(((0:Nat):Int) !=0)=false:=rfl
  go_enter Tryz.func122,Tryz.ntmps122;go_wp2
  go_quiet (fail)
  go_wp2_with (simp only[HS.out])
  simp[bodyPost,results,Tryz.results122,go_sem];exact((HB.out _ _).setCell (Nat.le_refl _) _).setCell (Nat.le_refl _) _
theorem zx6 {w:World} {b o p v:Nat} {m:Bool} (h:DAt w b o (.num p m v)) (hp:2≤p) :
    Calls Tryz.prog 122 #[.pointer (some ⟨b,o,none⟩)] w fun r w'=>r= .returned (.tuple #[.agg #[.bool (endD (.num p m v)).1.1,.int .u64 (endD (.num p m v)).1.2],.int .i64 (endD (.num p m v)).2])∧Below w.heap.size w w':=by
  obtain⟨⟨h1,h2,h3,_,_⟩,hi,lo,hA,hf1,hf2,hf3⟩:=h;simp only[endD];rw[if_neg (by omega)];by_cases hm:m=true∧p≠2
  · obtain⟨rfl,hp2⟩:=hm
    obtain rfl:p=3:=by omega
    have hv:=h3 rfl;rw[if_pos ⟨by trivial,hp2⟩];have hS:=fun W=>zyp lo 1 0 (by decide) W
    have hS':∀W,(callFunc 130 #[.int .u64 lo,.int .u64 1,.int .u64 0]).run Tryz.prog W= .ok (.value (.tuple #[.int .u64 (((lo+18446744073709551616-1-0)%18446744073709551616:Nat):Int),.int .u64 ((if lo<1+0 then 1 else 0:Nat):Int)])) W:=hS;by_cases hl:lo<1+0
    · rw[if_pos hl] at hS'
      obtain rfl:lo=0:=by omega
      by_cases hr:v≤18446744073709551616
      · rw[if_pos hr]
        refine zd8 hA _ 1 (hi-1) hS' (by omega) hf1 true _ 0 (.inr ⟨by omega,rfl,?_,rfl⟩);show v-1=_;omega
      · rw[if_neg hr]
        exact zd8 hA _ 1 (hi-1) hS' (by omega) hf1 false _ 7 (.inl ⟨by omega,rfl,rfl,rfl⟩)
    · rw[if_neg hl] at hS'
      by_cases hr:v≤18446744073709551616
      · rw[if_pos hr]
        refine zd8 hA _ 0 hi hS' (by omega) hf1 true _ 0 (.inr ⟨by omega,rfl,?_,rfl⟩);show v-1=_;omega
      · rw[if_neg hr]
        exact zd8 hA _ 0 hi hS' (by omega) hf1 false _ 7 (.inl ⟨by omega,rfl,rfl,rfl⟩)
  · rw[if_neg hm]
    have hm':m=false∨m=true∧p=2:=by
      cases m with
      | false=>exact .inl rfl
      | true=>exact .inr ⟨rfl,by by_cases h:p=2;exact h;exact absurd ⟨rfl,h⟩ hm⟩
    by_cases hr:v<18446744073709551616
    · rw[if_pos hr]
      exact zi1 hm' hA _ _ (.inr ⟨by omega,by show v=lo;omega,rfl⟩) hf1
    · rw[if_neg hr]
      exact zi1 hm' hA _ _ (.inl ⟨by omega,rfl,rfl⟩) hf1
theorem zah7 {w:World} {b o:Nat} (e:Nat) (he:e≠0) {p h l:Nat} {m:Bool} (hA:At w b o (zan e p m h l)) :
  Calls Tryz.prog 113 #[.pointer (some ⟨b,o,none⟩)] w fun r w'=>r= .returned (.tuple #[.agg #[.bool false,.int .u64 0],.int .i64 e])∧Below w.heap.size w w':=by
 have hz:((e:Int) !=0)=true:=by simp;omega
 have hc0:=fun x=>(zea hA x (by simp[zan])).five.1.1
 have HB:=hid (fun x=>(Below.refl w.heap.size w).alloc (Nat.le_refl _) x);clear hA he;go_enter Tryz.func113,Tryz.ntmps113;go_wp2
 go_region
 go_wp2;simp[bodyPost,results,Tryz.results113,go_sem];exact(HB.out _).drew
theorem zaej {w:World} {b o:Nat} {p h l:Nat} {m:Bool} (hp:p<2) (hA:At w b o (zan 0 p m h l)) :
  Calls Tryz.prog 113 #[.pointer (some ⟨b,o,none⟩)] w fun r w'=>r= .returned (.tuple #[.agg #[.bool false,.int .u64 0],.int .i64 2])∧Below w.heap.size w w':=by
 have hA':=fun x=>zea hA x (by simp[zan])
 have hc0:=fun x=>(hA' x).five.1.1
 have HD:=hid (fun x=>zjk p (by omega) (hA' x).five.2.1.1 false (by simp;omega));have HB:=hid (fun x=>(Below.refl w.heap.size w).alloc (Nat.le_refl _) x);clear hA hA' hp;go_enter Tryz.func113,Tryz.ntmps113;(go_wp2_with fail);refine(HD.out _).mono ?_;rintro r w1 ⟨rfl,rfl⟩;go_wp2;simp[bodyPost,results,Tryz.results113,go_sem];exact HB.out _
theorem zabs {w:World} {b o p v:Nat} {m:Bool} (hp:2≤p) (h:DAt w b o (.num p m v)) :
  Calls Tryz.prog 113 #[.pointer (some ⟨b,o,none⟩)] w fun r w'=>r= .returned (.tuple #[.agg #[.bool (endD (.num p m v)).1.1,.int .u64 (endD (.num p m v)).1.2],.int .i64 (endD (.num p m v)).2])∧Below w.heap.size w w':=by
 have hp3:=h.wf.1;have hA:∀x,DAt (w.alloc x) b o (.num p m v):=fun x=>h.map fun vs hv k=>k.alloc (by intro e;rw[e] at hv;simp at hv) x
 have hc0:=fun x=>(hA x).first.1
 simp only[errD] at hc0;have HD:=hid (fun x=>zjk (w:=w.alloc x) (b:=b) (o:=o) p hp3 (by
  obtain⟨_,_,_,k,_⟩:=hA x;exact k.five.2.1.1) true (by simp;omega))
 have HW:=hid (fun x=>zx6 (hA x) hp);have HB:=hid (fun x=>(Below.refl w.heap.size w).alloc (Nat.le_refl _) x);clear hA h hp hp3;generalize (endD (.num p m v))=r at *
 obtain⟨⟨q,n⟩,e⟩:=r;simp only[] at HW ⊢;go_enter Tryz.func113,Tryz.ntmps113;(go_wp2_with fail);refine(HD.out _).mono ?_;rintro r w1 ⟨rfl,rfl⟩;(go_wp2_with fail);refine(HW.out _).mono ?_;rintro r w1 ⟨rfl,hB⟩;obtain⟨k0,f0⟩:=zoa hB 0 _ rfl;obtain⟨k1,f1⟩:=zoa hB 1 _ rfl;have hB2:=hid ((HB.out _).trans (hB.mono (by simp)));clear hB;go_wp2;simp[bodyPost,results,Tryz.results113,go_sem,k0,k1];exact(hB2.out.setCell (Nat.le_refl _) _).setCell (Nat.le_refl _) _
theorem zahg {w:World} {b o:Nat} {s:Dec} (h:DAt w b o s) :
    Calls Tryz.prog 113 #[.pointer (some ⟨b,o,none⟩)] w fun r w'=>r= .returned (.tuple #[.agg #[.bool (endD s).1.1,.int .u64 (endD s).1.2],.int .i64 (endD s).2])∧Below w.heap.size w w':=by
  cases s with
  | bad f =>
    obtain⟨p,m,hi,lo,hA⟩:=h;exact zah7 _ (by cases f <;>decide) hA
  | num p m v =>
    by_cases hp:p<2
    · obtain⟨_,hi,lo,hA,_⟩:=h
      have he:endD (.num p m v)=((false,0),2):=by simp only[endD];rw[if_pos hp]
      rw[he];exact zaej hp hA
    · exact zabs (by omega) h
end
section
open Go.RowKit
open Go.Lib
abbrev lxZ (e:Int):List Value:=[.int .i64 e,.int .i64 0,.int .i64 0,.int .i64 0,.int .u8 0,.int .u8 0,.bool false,.int .i64 0,.int .i64 0,.int .i64 0,.string ⟨#[]⟩,.int .i64 0,.int .i64 0,.bool false,.int .u64 0,.int .u64 0,.string ⟨#[]⟩,.int .i64 0]
theorem zyu (p:Value) (v:Value) (w:World):Calls Tryz.prog 105 #[p,v,.int .i64 0] w fun e w'=>e= .returned (.tuple #[v,.int .i64 0])∧w'=w:=by
 go_enter Tryz.func105,Tryz.ntmps105;go_wp2;go_ret2;exact⟨rfl,rfl⟩
theorem zk7 {w:World} {b o:Nat} (h:Room w b o 18) (v:Value) (e:Nat) (he:e≠0) :
  Calls Tryz.prog 105 #[.pointer (some ⟨b,o,none⟩),v,.int .i64 e] w fun r w'=>r= .returned (.tuple #[.slice none 0 0,.int .i64 e])∧At w' b o (lxZ e)∧Sub b o 18 w w':=by
 have hz:((e:Int) !=0)=true:=by simp;omega
 have HT:=hid h;clear h he;go_enter Tryz.func105,Tryz.ntmps105
 go_wp2_with (refine zas rfl 137 _ _ rfl b o (lxZ e) rfl rfl HT.out (by kernel_rfl) (by kernel_rfl) ?_)
 intro w1 HP;go_wp2;go_ret2;exact⟨rfl,HP.out⟩
theorem zmy {b o n:Nat} {w w1:World} {x:Obj} (h:Sub b o n (w.alloc x) w1) (hb:b<w.heap.size):Sub b o n w w1:=(zdv b o n w x hb).trans h
theorem zls {w:World} {b o:Nat} (h:Room w b o 18) (t:Tk) :
  Calls Tryz.prog 114 #[.pointer (some ⟨b,o,none⟩),tkV t] w fun r w'=>∃v,r= .returned v∧Tks w w' v [t]∧At w' b o (lxZ 0)∧Sub b o 18 w w':=by
 have HT:=hid (h.alloc (.cells #[.int .u8 t.k,.string ⟨t.t.toArray⟩,.bool t.n.1,.int .u64 t.n.2] 205));have HB:=hid h.lt;have HK:Hid (∀W:World,w.heap.size≤W.heap.size→Tks w (W.alloc (.cells #[.int .u8 t.k,.string ⟨t.t.toArray⟩,.bool t.n.1,.int .u64 t.n.2] 205)) (.slice (some ⟨W.heap.size,0,none⟩) 1 1) [t]):=hid (fun W hW=>zaij w W t hW);unfold tkV;generalize (t.k:Int)=x0 at *
 generalize (⟨t.t.toArray⟩:ByteArray)=x1 at *
 generalize t.n.1=x2 at *
 generalize (t.n.2:Int)=x3 at *
 clear h;go_enter Tryz.func114,Tryz.ntmps114
 go_wp2_with (refine zas rfl 137 _ _ rfl b o (lxZ 0) rfl rfl HT.out (by kernel_rfl) (by kernel_rfl) ?_)
 intro w1 HP;have hB:=Blk.lift (zag w #[.int .u8 x0,.string x1,.bool x2,.int .u64 x3] 205) (w2:=w1) (row:=some b) ⟨HP.out.2.step.os,HP.out.2.step.tape,HP.out.2.step.output,HP.out.2.step.size,fun k hk hb=>HP.out.2.step.block k hk (by simpa using hb)⟩ (by have:=HB.out;simp;omega);have c0:=hB.cell 0;have c1:=hB.cell 1;have c2:=hB.cell 2;have c3:=hB.cell 3;simp only[List.getElem?_toArray,List.getElem?_cons_zero,List.getElem?_cons_succ] at c0 c1 c2 c3;have hsz:w.heap.size≤w1.heap.size:=by have:=HP.out.2.step.size;simp at this;omega
 have HS:=hid hsz;clear hB hsz;go_wp2;go_ret;refine⟨_,rfl,HK.out w1 HS.out,?_,?_⟩
 ·exact HP.out.1.alloc (by simp) _
 ·exact(zmy HP.out.2 HB.out).alloc _ HB.out
end
section
open Go.RowKit
open Go.Lib
theorem zagx (s:ByteArray) (pos:Nat) (h:pos<s.size) (h1:(s[pos]'h).toNat<128):Utf8.decode s pos=((s[pos]'h).toNat,1):=by
 simp only[Utf8.decode,get_at s pos h,h1,if_true]
theorem zsg (s:ByteArray) (i:Nat) (hi:i<s.size) (hb:∀k (h:k<s.size),(s[k]'h).toNat<128) (w:World) :
  Calls Tryz.prog 126 #[.string s,.int .i64 i] w fun e w'=>e= .returned (.int .i32 ((s[i]'hi).toNat:Nat))∧Below w.heap.size w w':=by
 obtain⟨xv,hx⟩:∃xv,(s[i]'hi).toNat=xv:=⟨_,rfl⟩
 rw[hx];have HX:=hid hx;have HBS:=hid hb;clear hx hb;go_enter Tryz.func126,Tryz.ntmps126;go_wp2
 go_loopw [5,6] (fun _ _ wr=>∃pos:Nat,pos≤i∧Hid (wr=w.iter s pos)) (fun _ _ wr=>s.size-wr.iterPos w.heap.size)
 case atStart=>exact⟨0,by omega,hid rfl⟩
 case round =>
  obtain⟨pos,hpi,HW⟩:=hrel;obtain rfl:=HW.out;have hp:pos<s.size:=by omega
  have hnext:∀ty,(Instr.next (.pointer (some ⟨w.heap.size,0,none⟩)) true ty).run Tryz.prog (w.iter s pos)=_:=fun ty=>run_next_any w s pos ty hp
  rw[zagx s pos hp (HBS.out pos hp)] at hnext;have hr:(s[pos]'hp).toNat<128:=HBS.out pos hp;have hB:Hid (Below w.heap.size w (w.iter s (pos+1))):=hid ((Below.refl _ w).alloc (Nat.le_refl _) _);have hm:(w.iter s (pos+1)).iterPos w.heap.size=pos+1:=World.iterPos_iter w s (pos+1);have hm0:(w.iter s pos).iterPos w.heap.size=pos:=World.iterPos_iter w s pos;by_cases he:pos=i
  ·have hz:((pos:Int)==(i:Int))=true:=by rw[beq_iff_eq];omega
   have hx:(s[pos]'hp).toNat=xv:=by have:=HX.out;simp only[← he] at this;exact this
   rw[hx] at hnext hr;clear hx he;generalize w.iter s (pos+1)=W2 at *
   generalize w.iter s pos=W1 at *
   go_wp2;go_ret;exact⟨rfl,hB.out⟩
  ·have hz:((pos:Int)==(i:Int))=false:=by rw[beq_eq_false_iff_ne];omega
   generalize (s[pos]'hp).toNat=y at hnext hr;go_wp2
   go_roundw
   case rel=>exact⟨pos+1,by omega,hid rfl⟩
   case measure=>rw[hm,hm0];omega
def zqm:List (Nat×List Nat):=[(116,[116,114,117,101]),(102,[102,97,108,115,101]),(48,[110,117,108,108])]
def zge (l:List Nat):ByteArray:=⟨(l.map UInt8.ofNat).toArray⟩
def Wrd (k:Nat) (W:ByteArray) (i:Nat) (r:List Nat):Prop:=∃L,(k,L)∈zqm∧W=zge L∧1≤i∧i<L.length∧r=L.drop i
theorem zoe {k:Nat} {L:List Nat} (h:(k,L)∈zqm):L.length≤5∧∀x∈L,x<128:=by
 simp only[zqm,List.mem_cons,Prod.mk.injEq,List.not_mem_nil,or_false] at h;rcases h with ⟨_,rfl⟩|⟨_,rfl⟩|⟨_,rfl⟩ <;>decide
theorem zcn (l:List Nat):(zge l).size=l.length:=by simp[zge,ByteArray.size]
theorem zkm (l:List Nat) (i:Nat) (h:i<(zge l).size) (hl:∀x∈l,x<256):((zge l)[i]'h).toNat=l[i]'(by rw[zcn] at h;exact h):=by
 have h':i<l.length:=by rw[zcn] at h;exact h
 have:(zge l)[i]'h=UInt8.ofNat l[i]:=by simp[zge,ByteArray.getElem_eq_getElem_data]
 rw[this];have:=hl l[i] (List.getElem_mem h');simp;omega
theorem zfx {k i:Nat} {W:ByteArray} {x:Nat} {q:List Nat} (h:Wrd k W i (x::q)) (w:World) :
  Calls Tryz.prog 126 #[.string W,.int .i64 i] w fun e w'=>e= .returned (.int .i32 (x:Nat))∧Below w.heap.size w w':=by
 obtain⟨L,hL,rfl,h1,h2,h3⟩:=h;obtain⟨hl,hb⟩:=zoe hL;have hi:i<(zge L).size:=by rw[zcn];exact h2
 have:=zsg (zge L) i hi (fun k hk=>by rw[zkm _ _ _ (fun x hx=>by have:=hb x hx;omega)];exact hb _ (List.getElem_mem _)) w;rw[zkm _ _ _ (fun x hx=>by have:=hb x hx;omega)] at this;rw[List.drop_eq_getElem_cons h2] at h3
 injection h3 with h3 _
 rw[h3];exact this
theorem zso {k i:Nat} {W:ByteArray} {r:List Nat} (h:Wrd k W i r) (w:World) :
  Calls Tryz.prog 127 #[.string W] w fun e w'=>e= .returned (.int .u8 k)∧w'=w:=by
 obtain⟨L,hL,rfl,_⟩:=h;simp only[zqm,List.mem_cons,Prod.mk.injEq,List.not_mem_nil,or_false] at hL;rcases hL with ⟨rfl,rfl⟩|⟨rfl,rfl⟩|⟨rfl,rfl⟩
 ·show Calls Tryz.prog 127 #[.string ⟨#[116,114,117,101]⟩] w _
  go_enter Tryz.func127,Tryz.ntmps127;go_wp2;go_ret;exact⟨rfl,rfl⟩
 ·show Calls Tryz.prog 127 #[.string ⟨#[102,97,108,115,101]⟩] w _
  go_enter Tryz.func127,Tryz.ntmps127;go_wp2;go_ret;exact⟨rfl,rfl⟩
 ·show Calls Tryz.prog 127 #[.string ⟨#[110,117,108,108]⟩] w _
  go_enter Tryz.func127,Tryz.ntmps127;go_wp2;go_ret;exact⟨rfl,rfl⟩
theorem zta (b:Nat) (hb:b=116∨b=102∨b=110) (w:World):∃k W r,Wrd k W 1 r∧zar b=(.word k r,[]) ∧
  Calls Tryz.prog 128 #[.int .u8 b] w fun e w'=>e= .returned (.string W)∧w'=w:=by
 rcases hb with rfl|rfl|rfl
 ·refine⟨116,⟨#[116,114,117,101]⟩,[114,117,101],⟨[116,114,117,101],by decide,rfl,by decide,by decide,rfl⟩,rfl,?_⟩
  go_enter Tryz.func128,Tryz.ntmps128;go_wp2;go_ret;exact⟨rfl,rfl⟩
 ·refine⟨102,⟨#[102,97,108,115,101]⟩,[97,108,115,101],⟨[102,97,108,115,101],by decide,rfl,by decide,by decide,rfl⟩,rfl,?_⟩
  go_enter Tryz.func128,Tryz.ntmps128;go_wp2;go_ret;exact⟨rfl,rfl⟩
 ·refine⟨48,⟨#[110,117,108,108]⟩,[117,108,108],⟨[110,117,108,108],by decide,rfl,by decide,by decide,rfl⟩,rfl,?_⟩
  go_enter Tryz.func128,Tryz.ntmps128;go_wp2;go_ret;exact⟨rfl,rfl⟩
end
section
open Go.RowKit
open Go.Lib
theorem zahi (s:Ins):insE s=errI s:=by
 match s with
 | .text _ _ _=>rfl
 | .back=>rfl
 | .hex _ _=>rfl
 | .high _ _ _=>rfl
 | .bad true=>rfl
 | .bad false=>rfl
def errX:Lx→Nat
 | .bad e=>e
 | _=>0
def LAt (w:World) (b o:Nat):Lx→Prop
 | .bad e=>e≠0∧At w b o (lxZ e)
 | .idle=>At w b o (lxZ 0)
 | .str s t=>(errI s=0∧t.length≤200)∧At w b o [.int .i64 0,.int .i64 1]∧EAt w b (o+2) s∧At w b (o+10) [.string ⟨t.toArray⟩]∧Room w b o 18
 | .num d=>errD d=0∧At w b o [.int .i64 0,.int .i64 2]∧At w b (o+10) [.string ⟨#[]⟩]∧DAt w b (o+11) d∧Room w b o 18
 | .word k r=>∃W i,Wrd k W i r∧At w b o [.int .i64 0,.int .i64 3]∧At w b (o+10) [.string ⟨#[]⟩]∧At w b (o+16) [.string W,.int .i64 (i:Nat)]∧Room w b o 18
theorem zh0 {w:World} {b o:Nat} {e:Int} (h:At w b o (lxZ e)):Room w b o 18:=h.room (by simp)
theorem LAt.room {w:World} {b o:Nat} {s:Lx} (h:LAt w b o s):Room w b o 18:=by
 match s,h with
 | .bad e,h=>exact zh0 h.2
 | .idle,h=>exact zh0 h
 | .str s t,h=>exact h.2.2.2.2
 | .num d,h=>exact h.2.2.2.2
 | .word k r,h=>obtain⟨W,i,_,_,_,_,h⟩:=h;exact h
theorem LAt.keep {w w':World} {b o:Nat} {s:Lx} (h:LAt w b o s) (hk:w'.heap[b]? = w.heap[b]?):LAt w' b o s:=by
 match s,h with
 | .bad e,h=>exact⟨h.1,h.2.keep hk⟩
 | .idle,h=>exact At.keep h hk
 | .str s t,h=>exact⟨h.1,h.2.1.keep hk,h.2.2.1.keep hk,h.2.2.2.1.keep hk,h.2.2.2.2.keep hk⟩
 | .num d,h=>exact⟨h.1,h.2.1.keep hk,h.2.2.1.keep hk,h.2.2.2.1.keep hk,h.2.2.2.2.keep hk⟩
 | .word k r,h=>obtain⟨W,i,h0,h1,h2,h3,h4⟩:=h;exact⟨W,i,h0,h1.keep hk,h2.keep hk,h3.keep hk,h4.keep hk⟩
theorem LAt.lt {w:World} {b o:Nat} {s:Lx} (h:LAt w b o s):b<w.heap.size:=h.room.lt
theorem LAt.sub {w w':World} {b o o' n:Nat} {s:Lx} (h:LAt w b o s) (k:Sub b o' n w w') (hd:o+18≤o'∨o'+n≤o):LAt w' b o s:=by
  match s,h with
  | .bad e,h=>exact⟨h.1,h.2.sub k (by simp only[List.length_cons,List.length_nil];omega)⟩
  | .idle,h=>exact At.sub h k (by simp only[List.length_cons,List.length_nil];omega)
  | .str s t,h=>exact⟨h.1,h.2.1.sub k (by simp only[List.length_cons,List.length_nil];omega),h.2.2.1.sub k (by omega),h.2.2.2.1.sub k (by simp only[List.length_cons,List.length_nil];omega),h.2.2.2.2.sub k⟩
  | .num d,h=>exact⟨h.1,h.2.1.sub k (by simp only[List.length_cons,List.length_nil];omega),h.2.2.1.sub k (by simp only[List.length_cons,List.length_nil];omega),h.2.2.2.1.sub k (by omega),h.2.2.2.2.sub k⟩
  | .word k' r,h =>
    obtain⟨W,i,h0,h1,h2,h3,h4⟩:=h;exact⟨W,i,h0,h1.sub k (by simp only[List.length_cons,List.length_nil];omega),h2.sub k (by simp only[List.length_cons,List.length_nil];omega),h3.sub k (by simp only[List.length_cons,List.length_nil];omega),h4.sub k⟩
theorem zia {w:World} {b o:Nat} {e:Int} (h:At w b o (lxZ e)) :
  At w b o [.int .i64 e,.int .i64 0]∧EAt w b (o+2) insT∧At w b (o+10) [.string ⟨#[]⟩]∧DAt w b (o+11) d0∧At w b (o+16) [.string ⟨#[]⟩,.int .i64 0]∧Room w b o 18:=by
 have h0:At w b o ([.int .i64 e,.int .i64 0]++(rdZero.toList++([.string ⟨#[]⟩]++(zan 0 0 false 0 0++[.string ⟨#[]⟩,.int .i64 0])))):=h;have h1:=h0.right;have h2:=h1.right;have h3:=h2.right;have h4:=h3.right;exact⟨h0.left,zajm h1.left,h2.left,zabc h3.left,h4,zh0 h⟩
def LPost (w:World) (b o:Nat) (s:Lx) (w':World):Prop:=Sub b o 18 w w'∧(errX s=0→LAt w' b o s)
theorem LPost.idle {w w':World} {b o:Nat} (h:At w' b o (lxZ 0)) (k:Sub b o 18 w w'):LPost w b o .idle w':=⟨k,fun _=>h⟩
theorem zoo {w:World} (p:Value) (x:Nat) (hx:x=32∨x=9∨x=10∨x=13) :
  Calls Tryz.prog 118 #[p,.int .u8 x] w fun r w'=>r= .returned (.tuple #[.slice none 0 0,.int .i64 0])∧w'=w:=by
 rcases hx with rfl|rfl|rfl|rfl
 all_goals
  go_enter Tryz.func118,Tryz.ntmps118;go_wp2;go_ret2;exact⟨rfl,rfl⟩
theorem zu3 {w:World} {b o:Nat} (h:At w b o (lxZ 0)) (x:Nat) (hx:x=123∨x=125∨x=91∨x=93∨x=58∨x=44) :
  Calls Tryz.prog 118 #[.pointer (some ⟨b,o,none⟩),.int .u8 x] w fun r w'=>∃v,r= .returned (.tuple #[v,.int .i64 0])∧Tks w w' v [sgnT x]∧At w' b o (lxZ 0)∧Sub b o 18 w w':=by
 have HE:Hid (Calls Tryz.prog 114 #[.pointer (some ⟨b,o,none⟩),.agg #[.int .u8 x,.string ⟨#[]⟩,.bool false,.int .u64 0]] w fun r w'=>∃v,r= .returned v∧Tks w w' v [sgnT x]∧At w' b o (lxZ 0)∧Sub b o 18 w w'):=hid (zls (zh0 h) (sgnT x));clear h;rcases hx with rfl|rfl|rfl|rfl|rfl|rfl
 all_goals
  go_enter Tryz.func118,Tryz.ntmps118;(go_wp2_with fail);refine HE.out.mono ?_;rintro r w1 ⟨v,rfl,hT⟩;have HT:=hid hT;clear hT;go_wp2;go_ret2;exact⟨v,rfl,HT.out⟩
theorem zdm {w:World} {b o:Nat} {v0 v1:Value} (h:At w b o [v0,v1]):(w.cell? ⟨b,o,none⟩=some v0∧w.frozen? ⟨b,o,none⟩=false)∧(w.cell? ⟨b,o+1,none⟩=some v1∧w.frozen? ⟨b,o+1,none⟩=false):=⟨h 0 v0 rfl,h 1 v1 rfl⟩
theorem zph {w:World} {b o:Nat} (h:At w b o (lxZ 0)) :
  Calls Tryz.prog 118 #[.pointer (some ⟨b,o,none⟩),.int .u8 34] w fun r w'=>r= .returned (.tuple #[.slice none 0 0,.int .i64 0])∧LPost w b o (.str insT []) w':=by
 obtain⟨h0,h1,h2,h3,h4,h5⟩:=zia h;have hs:=zac (b:=b) (o:=o+1) (n:=1) w (o+1) (.int .i64 1) (by omega);have HP:Hid (LPost w b o (.str insT []) (w.setCell ⟨b,o+1,none⟩ (.int .i64 1))):=hid
  ⟨hs.widen (by omega) (by omega),fun _=>⟨⟨rfl,by simp⟩,h0.set 1 (by simp) _,h1.sub hs (by omega),h2.sub hs (by simp only[List.length_cons,List.length_nil];omega),h5.sub hs⟩⟩
 obtain⟨_,c1,f1⟩:=zdm h0;clear h h0 h1 h2 h3 h4 h5 hs;go_enter Tryz.func118,Tryz.ntmps118;go_wp2;go_ret2;exact⟨rfl,HP.out⟩
theorem zsc {w:World} {b o:Nat} (h:At w b o (lxZ 0)) (x:Nat) (hx:x=116∨x=102∨x=110) :
  Calls Tryz.prog 118 #[.pointer (some ⟨b,o,none⟩),.int .u8 x] w fun r w'=>r= .returned (.tuple #[.slice none 0 0,.int .i64 0])∧LPost w b o (zar x).1 w'∧(zar x).2=[]:=by
 obtain⟨k,W,r,hW,hst,hC⟩:=zta x hx w;rw[hst];obtain⟨h0,_,h2,_,h4,h5⟩:=zia h;have s1:=zac (b:=b) (o:=o+1) (n:=1) w (o+1) (.int .i64 3) (by omega);have s2:=zac (b:=b) (o:=o+16) (n:=2) (w.setCell ⟨b,o+1,none⟩ (.int .i64 3)) (o+16) (.string W) (by omega);have s3:=zac (b:=b) (o:=o+16) (n:=2) ((w.setCell ⟨b,o+1,none⟩ (.int .i64 3)).setCell ⟨b,o+16,none⟩ (.string W)) (o+17) (.int .i64 1) (by omega);have ss:=s2.trans s3;have a4:=((h4.sub s1 (by omega)).set 0 (by simp) (.string W)).set 1 (by simp) (.int .i64 1);have HP:Hid (LPost w b o (.word k r) (((w.setCell ⟨b,o+1,none⟩ (.int .i64 3)).setCell ⟨b,o+16,none⟩ (.string W)).setCell ⟨b,o+17,none⟩ (.int .i64 1))):=hid
  ⟨(s1.widen (by omega) (by omega)).trans (ss.widen (by omega) (by omega)),fun _=>⟨W,1,hW,(h0.set 1 (by simp) _).sub ss (by simp only[List.length_set,List.length_cons,List.length_nil];omega),(h2.sub s1 (by omega)).sub ss (by simp only[List.length_cons,List.length_nil];omega),a4,(h5.sub s1).sub ss⟩⟩
 obtain⟨_,c1,f1⟩:=zdm h0;obtain⟨⟨c2,f2⟩,c3,f3⟩:=zdm h4;have HC:=hid hC;clear h h0 h2 h4 h5 s1 s2 s3 ss a4 hW hst hC;rcases hx with rfl|rfl|rfl
 all_goals
  go_enter Tryz.func118,Tryz.ntmps118;(go_wp2_with fail);refine HC.out.mono ?_;rintro r w1 ⟨rfl,rfl⟩;go_wp2;go_ret2;exact⟨rfl,HP.out,trivial⟩
theorem zai0 {w:World} {b o:Nat} (h:At w b o (lxZ 0)) (x:Nat) :
  Calls Tryz.prog 129 #[.pointer (some ⟨b,o,none⟩),.int .u8 x] w fun r w'=>r= .returned (.tuple #[.slice none 0 0,.int .i64 (errD (zaz d0 x).1)])∧Sub b o 18 w w'∧(errD (zaz d0 x).1=0→LAt w' b o (.num (zaz d0 x).1)):=by
 obtain⟨h0,_,h2,h3,_,h5⟩:=zia h;have s1:=zac (b:=b) (o:=o+1) (n:=1) w (o+1) (.int .i64 2) (by omega);have HD:=hid (zq4 (h3.sub s1 (by omega)) x);have HP:Hid (∀w',DPost (w.setCell ⟨b,o+1,none⟩ (.int .i64 2)) b (o+11) (zaz d0 x).1 w'→Sub b o 18 w w'∧(errD (zaz d0 x).1=0→LAt w' b o (.num (zaz d0 x).1))):=hid (fun w' hp =>
  ⟨(s1.widen (by omega) (by omega)).trans (hp.2.widen (by omega) (by omega)),fun he=>⟨he,(h0.set 1 (by simp) _).sub hp.2 (by simp only[List.length_set,List.length_cons,List.length_nil];omega),(h2.sub s1 (by omega)).sub hp.2 (by simp only[List.length_cons,List.length_nil];omega),hp.1,(h5.sub s1).sub hp.2⟩⟩)
 obtain⟨_,c1,f1⟩:=zdm h0;clear h h0 h2 h3 h5 s1;generalize zaz d0 x=q at *
 obtain⟨q1,q2⟩:=q;simp only[] at HD HP ⊢;obtain⟨E,hE⟩:∃E:Nat,errD q1=E:=⟨_,rfl⟩
 rw[hE] at HD HP ⊢;clear hE;go_enter Tryz.func129,Tryz.ntmps129;(go_wp2_with fail);refine HD.out.mono ?_;rintro r w1 ⟨rfl,hp⟩;have HQ:=hid (HP.out w1 hp);clear hp;go_wp2;go_ret2;exact⟨rfl,HQ.out⟩
def zaf6 (x:Nat):Prop:=zjb x=false∧zt3 x=false∧x≠34∧x≠116∧x≠102∧x≠110
theorem zsv {x:Nat} (h:zaf6 x):(errD (zaz d0 x).1=0→zar x=(.num (zaz d0 x).1,[]))∧(errD (zaz d0 x).1≠0→zar x=(.bad (errD (zaz d0 x).1),[])):=by
 obtain⟨h1,h2,h3,h4,h5,h6⟩:=h;unfold zar;rw[if_neg (by rw[h1];decide),if_neg (by rw[h2];decide),if_neg h3];by_cases hd:x=45∨48≤x∧x≤57
 ·rw[if_pos hd]
  refine⟨fun _=>rfl,fun he=>absurd ?_ he⟩;rcases hd with rfl|hd
  ·rfl
  ·simp only[d0,zaz]
   rw[if_neg (by omega),if_pos ⟨hd,by omega⟩];split <;>rfl
 ·rw[if_neg hd,if_neg h4,if_neg h5,if_neg h6]
  have:errD (zaz d0 x).1=2:=by
   simp only[d0,zaz];rw[if_neg (by omega),if_neg (by omega),if_pos (by omega)];rfl
  rw[this];exact⟨fun h=>absurd h (by decide),fun _=>rfl⟩
theorem ztu {w:World} {b o:Nat} (h:At w b o (lxZ 0)) (x:Nat) (hx:zaf6 x) :
  Calls Tryz.prog 118 #[.pointer (some ⟨b,o,none⟩),.int .u8 x] w fun r w'=>r= .returned (.tuple #[.slice none 0 0,.int .i64 (errX (zar x).1)])∧LPost w b o (zar x).1 w'∧(zar x).2=[]:=by
 obtain⟨g1,g2⟩:=zsv hx;have HB:Hid (Calls Tryz.prog 129 #[.pointer (some ⟨b,o,none⟩),.int .u8 x] w fun r w'=>r= .returned (.tuple #[.slice none 0 0,.int .i64 (errX (zar x).1)])∧LPost w b o (zar x).1 w'∧(zar x).2=[]):=hid (by
  refine(zai0 h x).mono ?_;rintro r w' ⟨rfl,hs,hL⟩;by_cases he:errD (zaz d0 x).1=0
  ·rw[g1 he]
   exact⟨by rw[he];rfl,⟨hs,fun _=>hL he⟩,rfl⟩
  ·rw[g2 he]
   exact⟨rfl,⟨hs,fun e=>absurd e he⟩,rfl⟩)
 obtain⟨h1,h2,h3,h4,h5,h6⟩:=hx;simp only[zjb,zt3,Bool.or_eq_false_iff,beq_eq_false_iff_ne] at h1 h2;have hne:∀y:Nat,x≠y→((x:Int)==(y:Int))=false:=fun y hy=>by rw[beq_eq_false_iff_ne];omega
 have a1:((x:Int)==32)=false:=hne 32 (by omega);have a2:((x:Int)==9)=false:=hne 9 (by omega);have a3:((x:Int)==10)=false:=hne 10 (by omega);have a4:((x:Int)==13)=false:=hne 13 (by omega);have a5:((x:Int)==123)=false:=hne 123 (by omega);have a6:((x:Int)==125)=false:=hne 125 (by omega);have a7:((x:Int)==91)=false:=hne 91 (by omega);have a8:((x:Int)==93)=false:=hne 93 (by omega);have a9:((x:Int)==58)=false:=hne 58 (by omega);have a10:((x:Int)==44)=false:=hne 44 (by omega);have a11:((x:Int)==34)=false:=hne 34 (by omega);have a12:((x:Int)==116)=false:=hne 116 (by omega);have a13:((x:Int)==102)=false:=hne 102 (by omega);have a14:((x:Int)==110)=false:=hne 110 (by omega);clear h h1 h2 h3 h4 h5 h6 g1 g2 hne;generalize zar x=q at *
 obtain⟨q1,q2⟩:=q;simp only[] at HB ⊢;obtain⟨E,hE⟩:∃E:Nat,errX q1=E:=⟨_,rfl⟩
 rw[hE] at HB ⊢;clear hE;go_enter Tryz.func118,Tryz.ntmps118;(go_wp2_with fail);refine HB.out.mono ?_;rintro r w1 ⟨rfl,hp⟩;have HQ:=hid hp;clear hp;go_wp2;go_ret2;exact⟨rfl,HQ.out⟩
theorem zn0 {w:World} {b o:Nat} (h:At w b o (lxZ 0)) (x:Nat) :
  Calls Tryz.prog 118 #[.pointer (some ⟨b,o,none⟩),.int .u8 x] w fun r w'=>∃v,r= .returned (.tuple #[v,.int .i64 (errX (zar x).1)])∧Tks w w' v (zar x).2∧LPost w b o (zar x).1 w':=by
 by_cases h1:zjb x=true
 ·have e:zar x=(.idle,[]):=by unfold zar;rw[if_pos h1]
  rw[e];refine(zoo _ x (by simp only[zjb,Bool.or_eq_true,beq_iff_eq] at h1;omega)).mono ?_;rintro r w' ⟨rfl,rfl⟩;exact⟨_,rfl,Tks.nil_ _ _,Sub.refl _ _ _ _,fun _=>h⟩
 by_cases h2:zt3 x=true
 ·have e:zar x=(.idle,[sgnT x]):=by unfold zar;rw[if_neg h1,if_pos h2]
  rw[e];refine(zu3 h x (by simp only[zt3,Bool.or_eq_true,beq_iff_eq] at h2;omega)).mono ?_;rintro r w' ⟨v,rfl,hT,hA,hS⟩;exact⟨v,rfl,hT,LPost.idle hA hS⟩
 by_cases h3:x=34
 ·subst h3
  refine(zph h).mono ?_;rintro r w' ⟨rfl,hP⟩;exact⟨_,rfl,Tks.nil_ _ _,hP⟩
 by_cases h4:x=116∨x=102∨x=110
 ·have e:errX (zar x).1=0:=by rcases h4 with rfl|rfl|rfl <;>rfl
  rw[e];refine(zsc h x h4).mono ?_;rintro r w' ⟨rfl,hP,hn⟩;rw[hn];exact⟨_,rfl,Tks.nil_ _ _,hP⟩
 refine(ztu h x ⟨by simpa using h1,by simpa using h2,h3,by omega,by omega,by omega⟩).mono ?_;rintro r w' ⟨rfl,hP,hn⟩;rw[hn];exact⟨_,rfl,Tks.nil_ _ _,hP⟩
end
section
open Go.RowKit
open Go.Lib
theorem zg2 {w:World} {b o:Nat} {d:Dec} (h:LAt w b o (.num d)) :
  Calls Tryz.prog 106 #[.pointer (some ⟨b,o,none⟩)] w fun r w'=>∃v,r= .returned (.tuple #[v,.int .i64 (endD d).2])∧Sub b o 18 w w'∧((endD d).2=0→Tks w w' v [⟨110,[],(endD d).1⟩]∧At w' b o (lxZ 0)):=by
 have hb:=h.lt;have hR:=h.room;have hE:=zahg h.2.2.2.1;obtain⟨⟨⟨q,n⟩,e⟩,he⟩:∃p,endD d=p:=⟨_,rfl⟩
 rw[he] at hE ⊢;simp only[] at hE ⊢;have HR:=hid (And.intro hb hR);have HE:=hid hE;clear hE he h hb hR;by_cases h0:e=0
 ·subst h0
  go_enter Tryz.func106,Tryz.ntmps106;(go_wp2_with fail);refine HE.out.mono ?_;rintro r w1 ⟨rfl,hB⟩;have HB:=hid hB;clear hB;obtain⟨W,hW⟩:∃W,w1.alloc (.cells #[.bool q,.int .u64 n] 93)=W:=⟨_,rfl⟩
  have hBW:Below w.heap.size w W:=by rw[← hW];exact HB.out.alloc HB.out.size _
  have hRW:Room W b o 18:=HR.out.2.keep (hBW.block b HR.out.1);have hsW:Sub b o 18 w W:=zbr hBW HR.out.1 _ _;have c0:W.cell? ⟨w1.heap.size,0,none⟩=some (.bool q):=by rw[← hW];exact(zag w1 _ _).cell 0
  have c1:W.cell? ⟨w1.heap.size,1,none⟩=some (.int .u64 n):=by rw[← hW];exact(zag w1 _ _).cell 1
  have HX:Hid (Calls Tryz.prog 114 #[.pointer (some ⟨b,o,none⟩),.agg #[.int .u8 110,.string ⟨#[]⟩,.bool q,.int .u64 n]] W fun r w'=>∃v,r= .returned v∧Tks W w' v [⟨110,[],(q,n)⟩]∧At w' b o (lxZ 0)∧Sub b o 18 W w'):=hid (zls hRW ⟨110,[],(q,n)⟩);have HS:=hid (And.intro hsW hBW);clear hBW hRW hsW
  go_wp2_with (rw[hW])
  refine HX.out.mono ?_;rintro r w2 ⟨v,rfl,hT,hA,hs⟩;have HT:=hid (And.intro hT (And.intro hA hs));clear hT hA hs;go_wp2;go_ret2;exact⟨v,rfl,HS.out.1.trans HT.out.2.2,fun _=>⟨HT.out.1.old HS.out.2.size,HT.out.2.1⟩⟩
 ·have hz:((e:Int) !=0)=true:=by simp;omega
  go_enter Tryz.func106,Tryz.ntmps106;(go_wp2_with fail);refine HE.out.mono ?_;rintro r w1 ⟨rfl,hB⟩;have HB:=hid hB;clear hB;go_wp2;go_ret2;refine⟨_,rfl,?_,fun h=>absurd h h0⟩;exact zbr (HB.out.alloc HB.out.size _) HR.out.1 _ _
end
end Go.Proofs.YtpaciekgbhoncaaGreat
