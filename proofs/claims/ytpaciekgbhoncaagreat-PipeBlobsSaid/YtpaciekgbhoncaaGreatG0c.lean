/-
  Parts: Esc, EscB, EscC, EscD, AtB, EscE, BitsA, BitsS, Bits.
-/
import Derived.Test.YtpaciekgbhoncaaGreatG0b
import Derived.Shelf.LaysM
import Derived.Shelf.Bits.Mul64
import Derived.Shelf.Spec.BitsCarry
import Derived.WalkKit
import Derived.WalkSpells
import Derived.Below
import Derived.BigCall
import Derived.BigGuard
import Derived.Test.YtpaciekgbhoncaaGreatG0a
set_option maxRecDepth 100000
set_option maxHeartbeats 16000000
open Go.Lib (hid)
namespace Go.Proofs.YtpaciekgbhoncaaGreat
section
open Go.RowKit
open Go.Lib
def errI:Ins→Nat
 | .bad true=>9
 | .bad false=>2
 | _=>0
def zafk:Ins→Nat
 | .back=>1
 | .hex k _=>k+2
 | .high _ k _=>k
 | _=>0
def zahw:Ins→Nat
 | .hex _ v=>v
 | .high _ _ w=>w
 | _=>0
def zads:Ins→Nat
 | .high h _ _=>h
 | _=>0
def utfI:Ins→Option (Nat×Nat×Nat)
 | .text n lo hi=>some (n,lo,hi)
 | _=>st0
def WfI:Ins→Prop
 | .text n lo hi=>n≤3∧zad1 (some (n,lo,hi))
 | .back=>True
 | .hex k v=>k≤3∧v<16^k
 | .high h k w=>55296≤h∧h≤56319∧(k≤2∧w=0∨k=3∧w=13∨k=4∧220≤w∧w≤223∨k=5∧3520≤w∧w≤3583)
 | .bad _=>True
theorem At.tail {w:World} {b o:Nat} {v0 v1 v2:Value} (h:At w b (o+5) [v0,v1,v2]) :
  (w.cell? ⟨b,o+5,none⟩=some v0∧w.frozen? ⟨b,o+5,none⟩=false)∧(w.cell? ⟨b,o+6,none⟩=some v1∧w.frozen? ⟨b,o+6,none⟩=false) ∧
  (w.cell? ⟨b,o+7,none⟩=some v2∧w.frozen? ⟨b,o+7,none⟩=false):=⟨h 0 v0 rfl,h 1 v1 rfl,h 2 v2 rfl⟩
abbrev zba (s c h:Nat):List Value:=[.int .i64 s,.int .i64 c,.int .i64 h]
def zd6 (w:World) (b o c:Nat) (w':World):Prop:=At w' b (o+5) (zba 0 0 c)∧Sub b (o+5) 3 w w'
theorem zeu {w:World} {b o s c h:Nat} (h0:At w b (o+5) (zba s c h)) (q:Nat) :
  At ((((w.drewN q).setCell ⟨b,o+5,none⟩ (.int .i64 0)).setCell ⟨b,o+6,none⟩ (.int .i64 0)).setCell ⟨b,o+7,none⟩ (.int .i64 0)) b (o+5) (zba 0 0 0) ∧
  Sub b (o+5) 3 w ((((w.drewN q).setCell ⟨b,o+5,none⟩ (.int .i64 0)).setCell ⟨b,o+6,none⟩ (.int .i64 0)).setCell ⟨b,o+7,none⟩ (.int .i64 0)):=by
 have a0:At (w.drewN q) b (o+5) (zba s c h):=h0;have e1:=a0.set 0 (by simp) (.int .i64 0);have e2:=e1.set 1 (by simp) (.int .i64 0);have e3:=e2.set 2 (by simp) (.int .i64 0);exact⟨e3,((((Sub.refl b (o+5) 3 w).drewN q).setCell (o+5) _ (by omega)).setCell (o+6) _ (by omega)).setCell (o+7) _ (by omega)⟩
theorem zacp (w:World) (b o s c:Nat) (hr:zcg c) (h:At w b (o+5) (zba s c 0)) :
  Calls Tryz.prog 145 #[.pointer (some ⟨b,o,none⟩)] w fun e w'=>e= .returned (.tuple #[.string ⟨(encL c).toArray⟩,.int .i64 0])∧zd6 w b o 0 w':=by
 obtain⟨⟨hc0,hf0⟩,⟨hc1,hf1⟩,hc2',hf2⟩:=h.tail;have hc2:w.cell? ⟨b,o+7,none⟩=some (.int .i64 0):=hc2';clear hc2';have HP:=hid (zeu h);have hP:=hid (zafs c hr);have hE:=zqu c;have HR:=hid (show((55296:Int)≤c)=False∨(((55296:Int)≤c)=True∧((c:Int)<56320)=False) by unfold zcg at hr;simp only[eq_iff_iff,iff_false,iff_true];omega);clear h hr;rw[hE];clear hE;generalize Utf8.encode (c:Int)=x at *
 go_enter Tryz.func145,Tryz.ntmps145;(go_wp2_with fail)
 go_quiet (fail)
 rcases HR.out with h1|⟨h1,h2⟩
 ·go_wp2_with fail
  refine(hP.out _).mono ?_;rintro e w' ⟨rfl,rfl⟩;go_wp2;go_ret2;exact⟨rfl,HP.out _⟩
 ·go_wp2_with fail
  refine(hP.out _).mono ?_;rintro e w' ⟨rfl,rfl⟩;go_wp2;go_ret2;exact⟨rfl,HP.out _⟩
theorem zahf (w:World) (b o s c:Nat) (hr:55296≤c∧c<56320) (h:At w b (o+5) (zba s c 0)) :
  Calls Tryz.prog 145 #[.pointer (some ⟨b,o,none⟩)] w fun e w'=>e= .returned (.tuple #[.string ⟨#[]⟩,.int .i64 0])∧zd6 w b o c w':=by
 obtain⟨⟨hc0,hf0⟩,⟨hc1,hf1⟩,hc2',hf2⟩:=h.tail;have hc2:w.cell? ⟨b,o+7,none⟩=some (.int .i64 0):=hc2';clear hc2';have HP:=hid (fun q=>And.intro ((zeu h q).1.set 2 (by simp) (.int .i64 c)) ((zeu h q).2.setCell (o+7) (.int .i64 c) (by omega)));have h1:((55296:Int)≤c)=True:=by simp only[eq_iff_iff,iff_true];omega
 have h2:((c:Int)<56320)=True:=by simp only[eq_iff_iff,iff_true];omega
 clear h hr;go_enter Tryz.func145,Tryz.ntmps145;(go_wp2_with fail)
 go_quiet (fail)
 go_wp2;go_ret2;exact⟨rfl,HP.out _⟩
theorem zah6 (w:World) (b o s c:Nat) (hr:56320≤c∧c≤57343) (h:At w b (o+5) (zba s c 0)) :
  Calls Tryz.prog 145 #[.pointer (some ⟨b,o,none⟩)] w fun e w'=>e= .returned (.tuple #[.string ⟨#[]⟩,.int .i64 9])∧zd6 w b o 0 w':=by
 obtain⟨⟨hc0,hf0⟩,⟨hc1,hf1⟩,hc2',hf2⟩:=h.tail;have hc2:w.cell? ⟨b,o+7,none⟩=some (.int .i64 0):=hc2';clear hc2';have HP:=hid (zeu h);have hP:=hid (zakp (c:Int) (.inr (.inr (by omega))));have h1:((55296:Int)≤c)=True:=by simp only[eq_iff_iff,iff_true];omega
 have h2:((c:Int)<56320)=False:=by simp only[eq_iff_iff,iff_false];omega
 clear h hr;go_enter Tryz.func145,Tryz.ntmps145;(go_wp2_with fail)
 go_quiet (fail)
 (go_wp2_with fail);refine(hP.out _).mono ?_;rintro e w' ⟨rfl,rfl⟩;go_wp2;go_ret2;exact⟨rfl,HP.out _⟩
theorem znp {h c:Nat} (hh:55296≤h∧h≤56319) (hc:56320≤c∧c≤57343):zcg (zhi h c):=by
 unfold zcg zhi;omega
theorem zace (w:World) (b o s c hi:Nat) (hh:55296≤hi∧hi≤56319) (hr:56320≤c∧c≤57343) (h:At w b (o+5) (zba s c hi)) :
  Calls Tryz.prog 145 #[.pointer (some ⟨b,o,none⟩)] w fun e w'=>e= .returned (.tuple #[.string ⟨(encL (zhi hi c)).toArray⟩,.int .i64 0])∧zd6 w b o 0 w':=by
 obtain⟨⟨hc0,hf0⟩,⟨hc1,hf1⟩,hc2,hf2⟩:=h.tail;have HP:=hid (zeu h);have hP0:=zafs (zhi hi c) (znp hh hr);have hE:=zqu (zhi hi c);have hz:((hi:Int)==0)=false:=by rw[beq_eq_false_iff_ne];omega
 rw[hE];clear hE;have hv:((zhi hi c:Nat):Int)=(65536:Int)+((hi:Int)-55296)*1024+(c:Int)-56320:=by unfold zhi;omega
 generalize hx:Utf8.encode ((zhi hi c:Nat):Int)=x at *
 rw[hv] at hP0;have hP:=hid hP0;clear h hv hP0 hx;go_enter Tryz.func145,Tryz.ntmps145;(go_wp2_with fail)
 go_quiet (fail)
 (go_wp2_with fail);refine(hP.out _).mono ?_;rintro e w' ⟨rfl,rfl⟩;go_wp2;go_ret2;exact⟨rfl,HP.out _⟩
end
section
open Go.RowKit
open Go.Lib
theorem zon (a b:Nat) (ha:a<4611686018427387904) (hb:b<4611686018427387904):bits .or .i64 (a:Int) (b:Int)=((a ||| b:Nat):Int):=by
 have hx:a ||| b<2^62:=Nat.or_lt_two_pow (by omega) (by omega)
 have h1:(BitVec.ofInt 64 (a:Int)).toNat=a:=by
  rw[BitVec.ofInt_natCast,BitVec.toNat_ofNat];exact Nat.mod_eq_of_lt (by omega)
 have h2:(BitVec.ofInt 64 (b:Int)).toNat=b:=by
  rw[BitVec.ofInt_natCast,BitVec.toNat_ofNat];exact Nat.mod_eq_of_lt (by omega)
 show IntKind.i64.wrap ((BitVec.ofInt 64 (a:Int) ||| BitVec.ofInt 64 (b:Int)).toNat:Int)=_;rw[BitVec.toNat_or,h1,h2,IntKind.wrap_i64];omega
theorem or16 (v d:Nat) (hv:v<65536) (hd:d<16):bits .or .i64 ((v:Int)*16) (d:Int)=(v:Int)*16+d:=by
 have h1:=zon (v*16) d (by omega) (by omega);have h2:=Nat.two_pow_add_eq_or_of_lt (i:=4) (b:=d) (by omega) v;rw[show v*16=2^4*v by omega,← h2] at h1;rw[show(v:Int)*16=((2^4*v:Nat):Int) by omega,h1];omega
theorem zad9 (w:World) (b o x:Nat) (hx:hexV x=none) :
  Calls Tryz.prog 138 #[.pointer (some ⟨b,o,none⟩),.int .u8 x] w fun e w'=>e= .returned (.tuple #[.string ⟨#[]⟩,.int .i64 2])∧w=w':=by
 have hH:=zdj x;have he:hexR x=(0,false):=by unfold hexR;rw[hx]
 rw[he] at hH;have HH:=hid hH;clear hH he hx;go_enter Tryz.func138,Tryz.ntmps138;(go_wp2_with fail);refine(HH.out _).mono ?_;rintro e w' ⟨rfl,rfl⟩;go_wp2;go_ret2;exact⟨rfl,rfl⟩
theorem zaa9 {w:World} {b o s c h:Nat} (h0:At w b (o+5) (zba s c h)) (c' s':Int) :
  At ((w.setCell ⟨b,o+6,none⟩ (.int .i64 c')).setCell ⟨b,o+5,none⟩ (.int .i64 s')) b (o+5) [.int .i64 s',.int .i64 c',.int .i64 h] ∧
  Sub b (o+5) 3 w ((w.setCell ⟨b,o+6,none⟩ (.int .i64 c')).setCell ⟨b,o+5,none⟩ (.int .i64 s')):=by
 have e1:=h0.set 1 (by simp) (.int .i64 c');have e2:=e1.set 0 (by simp) (.int .i64 s');exact⟨e2,(zac w (o+6) _ (by omega)).setCell (o+5) _ (by omega)⟩
theorem zn6 (w:World) (b o n v hi x d:Nat) (hx:hexV x=some d) (hn:n<5) (hv:v<65536) (h:At w b (o+5) (zba n v hi)) :
  Calls Tryz.prog 138 #[.pointer (some ⟨b,o,none⟩),.int .u8 x] w fun e w'=>e= .returned (.tuple #[.string ⟨#[]⟩,.int .i64 0])∧At w' b (o+5) (zba (n+1) (v*16+d) hi)∧Sub b (o+5) 3 w w':=by
 obtain⟨⟨hc0,hf0⟩,⟨hc1,hf1⟩,hc2,hf2⟩:=h.tail;have hH:=zdj x;have he:hexR x=(d,true):=by unfold hexR;rw[hx]
 rw[he] at hH;have HH:=hid hH;have hd:=(zdo hx).1;have hor:=or16 v d hv hd;have hP:=zaa9 h ((v:Int)*16+d) ((n:Int)+1);have HP:=hid hP;have hlt:((n:Int)+1<6)=True:=by simp only[eq_iff_iff,iff_true];omega
 clear hH he hx h hP;go_enter Tryz.func138,Tryz.ntmps138;(go_wp2_with fail);refine(HH.out _).mono ?_;rintro e w' ⟨rfl,rfl⟩;go_wp2;go_ret2;refine⟨rfl,?_,HP.out.2⟩;have:=HP.out.1;unfold zba;rw[show((n+1:Nat):Int)=(n:Int)+1 by omega,show((v*16+d:Nat):Int)=(v:Int)*16+d by omega];exact this
theorem znw (w:World) (b o v hi x d c:Nat) (R:Value×Value) (hx:hexV x=some d) (hv:v<65536) (h:At w b (o+5) (zba 5 v hi))
  (hE:∀w1:World,At w1 b (o+5) (zba 6 (v*16+d) hi)→Calls Tryz.prog 145 #[.pointer (some ⟨b,o,none⟩)] w1 fun e w'=>e= .returned (.tuple #[R.1,R.2])∧zd6 w1 b o c w') :
  Calls Tryz.prog 138 #[.pointer (some ⟨b,o,none⟩),.int .u8 x] w fun e w'=>e= .returned (.tuple #[R.1,R.2])∧zd6 w b o c w':=by
 obtain⟨⟨hc0',hf0⟩,⟨hc1,hf1⟩,hc2,hf2⟩:=h.tail;have hc0:w.cell? ⟨b,o+5,none⟩=some (.int .i64 5):=hc0';clear hc0';obtain⟨R1,R2⟩:=R;simp only[] at hE ⊢;have hH:=zdj x;have he:hexR x=(d,true):=by unfold hexR;rw[hx]
 rw[he] at hH;have HH:=hid hH;have hd:=(zdo hx).1;have hor:=or16 v d hv hd;have hP:=zaa9 h ((v:Int)*16+d) 6;have hA:=hE _ (by
  unfold zba;rw[show((v*16+d:Nat):Int)=(v:Int)*16+d by omega];exact hP.1)
 have HE:=hid hA;have HP:=hid hP.2;clear hH he hx h hP hE hA;go_enter Tryz.func138,Tryz.ntmps138;(go_wp2_with fail);refine(HH.out _).mono ?_;rintro e w' ⟨rfl,rfl⟩;(go_wp2_with fail);refine HE.out.mono ?_;rintro e w' ⟨rfl,hp⟩;go_wp2;go_ret2;exact⟨rfl,hp.1,HP.out.trans hp.2⟩
theorem zgu {w:World} {b o s c h:Nat} (h0:At w b (o+5) (zba s c h)) (s':Int) :
  At (w.setCell ⟨b,o+5,none⟩ (.int .i64 s')) b (o+5) [.int .i64 s',.int .i64 c,.int .i64 h]∧Sub b (o+5) 3 w (w.setCell ⟨b,o+5,none⟩ (.int .i64 s')) :=
 ⟨h0.set 0 (by simp) (.int .i64 s'),zac w (o+5) _ (by omega)⟩
theorem zafx (w:World) (b o s c hi:Nat) (h:At w b (o+5) (zba s c hi)) :
  Calls Tryz.prog 137 #[.pointer (some ⟨b,o,none⟩),.int .u8 117] w fun e w'=>e= .returned (.tuple #[.string ⟨#[]⟩,.int .i64 0])∧At w' b (o+5) (zba 2 c hi)∧Sub b (o+5) 3 w w':=by
 obtain⟨⟨hc0,hf0⟩,⟨hc1,hf1⟩,hc2,hf2⟩:=h.tail;have HP:=hid (zgu h 2);clear h;go_enter Tryz.func137,Tryz.ntmps137;go_wp2;go_ret2;exact⟨rfl,HP.out⟩
theorem zsw (w:World) (b o s c hi x y:Nat) (hx:zb1 x=some y) (h:At w b (o+5) (zba s c hi)) :
  Calls Tryz.prog 137 #[.pointer (some ⟨b,o,none⟩),.int .u8 x] w fun e w'=>e= .returned (.tuple #[.string ⟨#[UInt8.ofNat y]⟩,.int .i64 0])∧At w' b (o+5) (zba 0 c hi)∧Sub b (o+5) 3 w w':=by
 obtain⟨⟨hc0,hf0⟩,⟨hc1,hf1⟩,hc2,hf2⟩:=h.tail;have HP:=hid (zgu h 0);have hM:=znk x;have he:ziw x=[UInt8.ofNat y]:=by unfold ziw;rw[hx]
 rw[he] at hM;have h117:((x:Int)==117)=false:=by
  rw[beq_eq_false_iff_ne];intro e;have:x=117:=by omega
  subst this;rw[show zb1 117=none by decide] at hx;cases hx
 have HM:=hid hM;obtain⟨z,hz⟩:∃z:ByteArray,z=⟨#[UInt8.ofNat y]⟩:=⟨_,rfl⟩
 have hz1:z.toList=[UInt8.ofNat y]:=by rw[hz,ByteArray.toList_eq]
 have hz2:z.toList.isEmpty=false:=by rw[hz1];rfl
 have hz3:(z.toList=[])=False:=by rw[hz1];simp
 have HM':Hid (∀w,Calls Tryz.prog 144 #[.int .u8 x] w fun e w'=>e= .returned (.string z)∧w=w'):=hid (by rw[hz];exact HM.out);rw[← hz];clear h hM he hx HM hz hz1;go_enter Tryz.func137,Tryz.ntmps137;(go_wp2_with fail);refine(HM'.out _).mono ?_;rintro e w' ⟨rfl,rfl⟩;go_wp2;go_ret2;exact⟨rfl,HP.out⟩
theorem zaia (w:World) (b o x:Nat) (hx:zb1 x=none) (hu:x≠117) :
  Calls Tryz.prog 137 #[.pointer (some ⟨b,o,none⟩),.int .u8 x] w fun e w'=>e= .returned (.tuple #[.string ⟨#[]⟩,.int .i64 2])∧w=w':=by
 have hM:=znk x;have he:ziw x=[]:=by unfold ziw;rw[hx]
 rw[he] at hM;have h117:((x:Int)==117)=false:=by rw[beq_eq_false_iff_ne];omega
 have HM:=hid hM;clear hM he hx hu;go_enter Tryz.func137,Tryz.ntmps137;(go_wp2_with fail);refine(HM.out _).mono ?_;rintro e w' ⟨rfl,rfl⟩;go_wp2;go_ret2;exact⟨rfl,rfl⟩
end
section
open Go.RowKit
open Go.Lib
def zfw (w:World) (b o:Nat) (s:Ins) (w':World):Prop:=Sub b (o+1) 7 w w'∧(errI s=0→WfI s∧CAt w' b (o+1) (utfI s)∧At w' b (o+5) (zba (zafk s) (zahw s) (zads s)))
theorem At.zeros {w:World} {b o s c h:Nat} (hT:At w b (o+5) (zba s c h)) (s' c' h':Int) (e1:s'=s) (e2:c'=c) (e3:h'=h) :
  (w.cell? ⟨b,o+5,none⟩=some (.int .i64 s')∧w.frozen? ⟨b,o+5,none⟩=false)∧(w.cell? ⟨b,o+6,none⟩=some (.int .i64 c')∧w.frozen? ⟨b,o+6,none⟩=false) ∧
  (w.cell? ⟨b,o+7,none⟩=some (.int .i64 h')∧w.frozen? ⟨b,o+7,none⟩=false):=by
 subst e1 e2 e3;exact hT.tail
theorem zdg {w w':World} {b o n:Nat} {u:Bool} (h:Sub b (o+1) n w w') (hn:n≤7):zfw w b o (.bad u) w' :=
 ⟨h.widen (Nat.le_refl _) (by omega),fun he=>by cases u <;>cases he⟩
theorem zgc {w:World} {b o:Nat} {u:Bool}:zfw w b o (.bad u) w:=zdg (n:=0) (Sub.refl _ _ _ _) (by omega)
theorem u8z (x:UInt8) (k:Nat) (h:x.toNat≠k):(((x.toNat:Nat):Int)==(k:Int))=false:=by rw[beq_eq_false_iff_ne];omega
theorem CAt.alloc {w:World} {b o:Nat} {s:Option (Nat×Nat×Nat)} (h:CAt w b o s) (x:Obj):CAt (w.alloc x) b o s:=h.map fun vs hv h=>h.alloc (by intro e;rw[e] at hv;simp at hv) x
theorem zw5 (w:World) (b o n lo hi:Nat) (hW:WfI (.text n lo hi)) (hC:CAt w b (o+1) (some (n,lo,hi))) (hT:At w b (o+5) (zba 0 0 0)) (x:UInt8) :
    Calls Tryz.prog 132 #[.pointer (some ⟨b,o,none⟩),.int .u8 x.toNat] w fun e w' =>
      e= .returned (.tuple #[.string ⟨(zaq (.text n lo hi) x).2.toArray⟩,.int .i64 (errI (zaq (.text n lo hi) x).1)])∧zfw w b o (zaq (.text n lo hi) x).1 w':=by
  obtain⟨⟨hc0,hf0⟩,⟨hc1,hf1⟩,hc2,hf2⟩:=hT.zeros 0 0 0 rfl rfl rfl;by_cases hq:x.toNat=34∨x.toNat<32
  · have hs:zaq (.text n lo hi) x=(.bad false,[]):=by simp only[zaq];rw[if_pos hq]
    rw[hs];have HP:Hid (zfw w b o (.bad false) w):=hid zgc;simp only[errI];clear hs hC hT hW;by_cases h32:x.toNat<32
    · have g:(((x.toNat:Nat):Int)<32)=True:=by simp only[eq_iff_iff,iff_true];omega
      clear hq h32;go_enter Tryz.func132,Tryz.ntmps132;go_wp2;go_ret2;exact⟨rfl,HP.out⟩
    · have g:(((x.toNat:Nat):Int)<32)=False:=by simp only[eq_iff_iff,iff_false];omega
      have g2:(((x.toNat:Nat):Int)==34)=true:=by rw[beq_iff_eq];omega
      clear hq h32;go_enter Tryz.func132,Tryz.ntmps132;go_wp2;go_ret2;exact⟨rfl,HP.out⟩
  have g:(((x.toNat:Nat):Int)<32)=False:=by simp only[eq_iff_iff,iff_false];omega
  have g2:(((x.toNat:Nat):Int)==34)=false:=u8z x 34 (by omega);have hS:=zei hC x;have HT:=hid hT;cases hp:zb7 (some (n,lo,hi)) x with
  | none =>
    have h92:¬(n=0∧x.toNat=92):=by
      rintro ⟨rfl,h⟩;have:zb7 (some (0,lo,hi)) x=some (0,0,0):=by simp[zb7,za0,h]
      rw[this] at hp;cases hp
    have hs:zaq (.text n lo hi) x=(.bad true,[]):=by simp only[zaq];rw[if_neg hq,if_neg h92,hp]
    rw[hs];rw[hp] at hS;have HS:=hid hS;simp only[errI];clear hS hs hp hC hT hW hq h92;go_enter Tryz.func132,Tryz.ntmps132;(go_wp2_with fail);refine HS.out.mono ?_;rintro e w' ⟨rfl,hp⟩;have HP:Hid (zfw w b o (.bad true) w'):=hid (zdg hp.2 (by omega));simp only[Option.isSome];clear hp;go_wp2;go_ret2;exact⟨rfl,HP.out⟩
  | some p =>
    obtain⟨m,lo',hi'⟩:=p;rw[hp] at hS;have HS:=hid hS;by_cases h92:x.toNat=92
    · have hn:n=0:=by
        cases n with
        | zero=>rfl
        | succ n =>
          have:=hW.2.1;simp only[zb7] at hp;rw[if_pos (by omega)] at hp;cases hp
      subst hn;have hs:zaq (.text 0 lo hi) x=(.back,[]):=by simp only[zaq];rw[if_neg hq,if_pos ⟨trivial,h92⟩]
      have e0:zb7 (some (0,lo,hi)) x=some (0,0,0):=by simp[zb7,za0,h92]
      rw[e0] at hp
      injection hp with hp
      injection hp with hp1 hp2
      injection hp2 with hp2 hp3
      subst hp1 hp2 hp3;rw[hs];have g3:(((x.toNat:Nat):Int)==92)=true:=by rw[beq_iff_eq];omega
      simp only[errI];clear hS hs hC hT hW hq h92 e0;go_enter Tryz.func132,Tryz.ntmps132;(go_wp2_with fail);refine HS.out.mono ?_;rintro e w' ⟨rfl,hp⟩;simp only[Option.isSome];have hT':=HT.out.sub hp.2 (.inr (by omega));obtain⟨⟨hd0,he0⟩,⟨hd1,he1⟩,hd2,he2⟩:=hT'.zeros 0 0 0 rfl rfl rfl;have HP:Hid (zfw w b o .back (w'.setCell ⟨b,o+5,none⟩ (.int .i64 1))):=hid
        ⟨(hp.2.widen (Nat.le_refl _) (by omega)).trans ((zgu hT' 1).2.widen (by omega) (by omega)),fun _=>⟨trivial,hp.1.sub (zgu hT' 1).2 (.inl (by omega)),(zgu hT' 1).1⟩⟩
      clear hp hT';go_wp2;go_ret2;exact⟨rfl,HP.out⟩
    · have hs : zaq (.text n lo hi) x=(.text m lo' hi',[x]):=by simp only[zaq];rw[if_neg hq,if_neg (fun h=>h92 h.2),hp]
      have hm : WfI (.text m lo' hi'):=by
        refine⟨?_,?_⟩
        · cases n with
          | zero =>
            by_cases hb:x.toNat<128
            · have:za0 x.toNat=some (0,0,0):=by unfold za0;rw[if_pos hb]
              have hp':za0 x.toNat=some (m,lo',hi'):=hp;rw[this] at hp'
              injection hp' with hp'
              injection hp' with hp' _
              omega
            · have:=zoh x.toNat m lo' hi' hp (by omega)
              omega
          | succ n =>
            have:=hW.1;simp only[zb7] at hp;split at hp
            · cases hp
            · split at hp
              · injection hp with hp
                injection hp with hp _
                omega
              · injection hp with hp
                injection hp with hp _
                omega
        · have:=zub _ x hW.2
          rw[hp] at this;exact this
      rw[hs];have g3:(((x.toNat:Nat):Int)==92)=false:=u8z x 92 h92;have HM:=hid hm;have HL:=hid hC.lt;have hcv:∀W:World,(convert 30 9 (.slice (some ⟨W.heap.size,0,none⟩) 1 1)).run Tryz.prog (W.alloc (.cells #[.int .u8 x.toNat] 5))= .ok (.string ⟨[x].toArray⟩) (W.alloc (.cells #[.int .u8 x.toNat] 5)) :=
        fun W=>zhu W [x] _ 1 rfl rfl _ rfl
      simp only[errI];obtain⟨z,hz⟩:∃z:ByteArray,z=⟨[x].toArray⟩:=⟨_,rfl⟩
      rw[← hz] at hcv ⊢;clear hS hs hp hC hT hW hq h92 hm hz;go_enter Tryz.func132,Tryz.ntmps132;(go_wp2_with fail);refine HS.out.mono ?_;rintro e w' ⟨rfl,hp⟩;simp only[Option.isSome];have hT':=HT.out.sub hp.2 (.inr (by omega));obtain⟨⟨hd0,he0⟩,⟨hd1,he1⟩,hd2,he2⟩:=hT'.zeros 0 0 0 rfl rfl rfl;have HP:Hid (zfw w b o (.text m lo' hi') (w'.alloc (.cells #[.int .u8 x.toNat] 5))):=hid
        ⟨(hp.2.widen (Nat.le_refl _) (by omega)).alloc _ HL.out,fun _=>⟨HM.out,hp.1.alloc _,hT'.alloc (by simp) _⟩⟩
      have hcw:=hcv w';clear hp hT' hcv;go_wp2;go_ret2;exact⟨rfl,HP.out⟩
theorem zl1 {x y:Nat} (h:zb1 x=some y):x<128∧32≤x:=by
 unfold zb1 at h
 repeat' split at h
 all_goals first | omega|(cases h)
theorem zabi (x:UInt8):zb7 st0 x=za0 x.toNat:=rfl
theorem zc2 {n:Nat} (h:n<128):za0 n=some (0,0,0):=by unfold za0;rw[if_pos h]
theorem zy2 (w:World) (b o:Nat) (hC:CAt w b (o+1) st0) (hT:At w b (o+5) (zba 1 0 0)) (x:UInt8) :
    Calls Tryz.prog 132 #[.pointer (some ⟨b,o,none⟩),.int .u8 x.toNat] w fun e w' =>
      e= .returned (.tuple #[.string ⟨(zaq .back x).2.toArray⟩,.int .i64 (errI (zaq .back x).1)])∧zfw w b o (zaq .back x).1 w':=by
  obtain⟨⟨hc0,hf0⟩,⟨hc1,hf1⟩,hc2,hf2⟩:=hT.zeros 1 0 0 rfl rfl rfl;by_cases h32:x.toNat<32
  · have hs:zaq .back x=(.bad false,[]):=by
      have h1:zb1 x.toNat=none:=by
        cases h:zb1 x.toNat with
        | none=>rfl
        | some y=>have:=zl1 h;omega
      simp only[zaq,h1];rw[if_neg (by omega),zc2 (by omega)];rfl
    rw[hs];have HP:Hid (zfw w b o (.bad false) w):=hid zgc;simp only[errI];have g:(((x.toNat:Nat):Int)<32)=True:=by simp only[eq_iff_iff,iff_true];omega
    clear hs hC hT h32;go_enter Tryz.func132,Tryz.ntmps132;go_wp2;go_ret2;exact⟨rfl,HP.out⟩
  have g:(((x.toNat:Nat):Int)<32)=False:=by simp only[eq_iff_iff,iff_false];omega
  have hS:=zei hC x;rw[zabi] at hS;have HT:=hid hT;cases hp:za0 x.toNat with
  | none =>
    have hx:¬x.toNat<128:=fun h=>by rw[zc2 h] at hp;cases hp
    have hs:zaq .back x=(.bad true,[]):=by
      have h1:zb1 x.toNat=none:=by
        cases h:zb1 x.toNat with
        | none=>rfl
        | some y=>have:=zl1 h;omega
      simp only[zaq,h1,hp];rw[if_neg (by omega)];rfl
    rw[hs];rw[hp] at hS;have HS:=hid hS;have g2:(((x.toNat:Nat):Int)==34)=false:=u8z x 34 (by omega);simp only[errI];clear hS hs hp hC hT h32 hx;go_enter Tryz.func132,Tryz.ntmps132;(go_wp2_with fail);refine HS.out.mono ?_;rintro e w' ⟨rfl,hp⟩;have HP:Hid (zfw w b o (.bad true) w'):=hid (zdg hp.2 (by omega));simp only[Option.isSome];clear hp;go_wp2;go_ret2;exact⟨rfl,HP.out⟩
  | some p =>
    rw[hp] at hS;have HS:=hid hS;by_cases hu:x.toNat=117
    · have hs:zaq .back x=(.hex 0 0,[]):=by
        simp only[zaq,hu];rw[show zb1 117=none by decide];rfl
      rw[zc2 (by omega)] at hp;cases hp;rw[hs];have g3:((x.toNat:Nat):Int)=117:=by omega
      simp only[errI];rw[g3] at HS g ⊢;clear hS hs hC hT hu h32 g3;go_enter Tryz.func132,Tryz.ntmps132;(go_wp2_with fail);refine HS.out.mono ?_;rintro e w' ⟨rfl,hp⟩;simp only[Option.isSome];have hT':=HT.out.sub hp.2 (.inr (by omega));obtain⟨⟨hd0,he0⟩,⟨hd1,he1⟩,hd2,he2⟩:=hT'.zeros 1 0 0 rfl rfl rfl;have HO:=hid (zafx w' b o 1 0 0 hT');have HP:=hid hp;clear hp hT';(go_wp2_with fail);refine HO.out.mono ?_;rintro e w2 ⟨rfl,a2,s2⟩;go_wp2;go_ret2;exact⟨rfl,(HP.out.2.widen (Nat.le_refl _) (by omega)).trans (s2.widen (by omega) (by omega)),fun _=>⟨⟨by omega,by decide⟩,HP.out.1.sub s2 (.inl (by omega)),a2⟩⟩
    · cases hm:zb1 x.toNat with
      | some y =>
        have hs:zaq .back x=(insT,[UInt8.ofNat y]):=by simp only[zaq,hm]
        rw[zc2 (zl1 hm).1] at hp;cases hp;rw[hs];have hO:=fun w'=>zsw w' b o 1 0 0 x.toNat y hm
        have HO:=hid hO;obtain⟨z,hz⟩:∃z:ByteArray,z=⟨#[UInt8.ofNat y]⟩:=⟨_,rfl⟩
        simp only[errI,insT];rw[show(⟨[UInt8.ofNat y].toArray⟩:ByteArray)=z from hz.symm];rw[← hz] at HO;by_cases h34:x.toNat=34
        · have g3:((x.toNat:Nat):Int)=34:=by omega
          rw[g3] at HS g HO ⊢;clear hS hs hC hT hu h32 hO hz hm h34 g3;go_enter Tryz.func132,Tryz.ntmps132;(go_wp2_with fail);refine HS.out.mono ?_;rintro e w' ⟨rfl,hp⟩;simp only[Option.isSome];have hT':=HT.out.sub hp.2 (.inr (by omega));obtain⟨⟨hd0,he0⟩,⟨hd1,he1⟩,hd2,he2⟩:=hT'.zeros 1 0 0 rfl rfl rfl;have HO':=hid (HO.out w' hT');have HP:=hid hp;clear hp hT';(go_wp2_with fail);refine HO'.out.mono ?_;rintro e w2 ⟨rfl,a2,s2⟩;go_wp2;go_ret2;exact⟨rfl,(HP.out.2.widen (Nat.le_refl _) (by omega)).trans (s2.widen (by omega) (by omega)),fun _=>⟨⟨by omega,rfl,rfl⟩,HP.out.1.sub s2 (.inl (by omega)),a2⟩⟩
        · have g2:(((x.toNat:Nat):Int)==34)=false:=u8z x 34 h34
          clear hS hs hC hT hu h32 hO hz hm h34;go_enter Tryz.func132,Tryz.ntmps132;(go_wp2_with fail);refine HS.out.mono ?_;rintro e w' ⟨rfl,hp⟩;simp only[Option.isSome];have hT':=HT.out.sub hp.2 (.inr (by omega));obtain⟨⟨hd0,he0⟩,⟨hd1,he1⟩,hd2,he2⟩:=hT'.zeros 1 0 0 rfl rfl rfl;have HO':=hid (HO.out w' hT');have HP:=hid hp;clear hp hT';(go_wp2_with fail);refine HO'.out.mono ?_;rintro e w2 ⟨rfl,a2,s2⟩;go_wp2;go_ret2;exact⟨rfl,(HP.out.2.widen (Nat.le_refl _) (by omega)).trans (s2.widen (by omega) (by omega)),fun _=>⟨⟨by omega,rfl,rfl⟩,HP.out.1.sub s2 (.inl (by omega)),a2⟩⟩
      | none =>
        have h34:x.toNat≠34:=fun e=>by rw[e,show zb1 34=some 34 by decide] at hm;cases hm
        have hs:zaq .back x=(.bad false,[]):=by
          simp only[zaq,hm,hp];rw[if_neg hu];rfl
        rw[hs];have HO:=hid (fun w'=>zaia w' b o x.toNat hm hu);have g2:(((x.toNat:Nat):Int)==34)=false:=u8z x 34 h34;simp only[errI];clear hS hs hC hT hu h32 hm h34 hp;go_enter Tryz.func132,Tryz.ntmps132;(go_wp2_with fail);refine HS.out.mono ?_;rintro e w' ⟨rfl,hp⟩;simp only[Option.isSome];have hT':=HT.out.sub hp.2 (.inr (by omega));obtain⟨⟨hd0,he0⟩,⟨hd1,he1⟩,hd2,he2⟩:=hT'.zeros 1 0 0 rfl rfl rfl;have HP:Hid (zfw w b o (.bad false) w'):=hid (zdg hp.2 (by omega));clear hp hT';(go_wp2_with fail);refine(HO.out _).mono ?_;rintro e w2 ⟨rfl,rfl⟩;go_wp2;go_ret2;exact⟨rfl,HP.out⟩
end
section
open Go.RowKit
open Go.Lib
theorem zadb {x:UInt8} (h:x.toNat<48):hexV x.toNat=none:=by
 cases hh:hexV x.toNat with
 | none=>rfl
 | some d=>have:=(zdo hh).2.2;omega
theorem zo7 {x:UInt8} (h:za0 x.toNat=none):hexV x.toNat=none:=by
  cases hh:hexV x.toNat with
  | none=>rfl
  | some d =>
    rw[zc2 (zdo hh).2.1] at h;cases h
theorem zc1 {k v:Nat} {x:UInt8} (h:hexV x.toNat=none):zaq (.hex k v) x=(.bad (za0 x.toNat).isNone,[]):=by
 simp only[zaq,h]
theorem zhd {k v d:Nat} {x:UInt8} (h:hexV x.toNat=some d) (hk:k<3):zaq (.hex k v) x=(.hex (k+1) (v*16+d),[]):=by
 simp only[zaq,h];rw[if_pos hk]
theorem zajw {k v d:Nat} (hv:v<16^k) (hd:d<16):v*16+d<16^(k+1):=by
 rw[Nat.pow_succ];omega
def endI (c:Nat):Ins×List UInt8:=if 56320≤c∧c≤57343 then(.bad true,[]) else if 55296≤c∧c≤56319 then(.high c 0 0,[]) else(insT,encL c)
theorem zg7 {v d:Nat} {x:UInt8} (h:hexV x.toNat=some d):zaq (.hex 3 v) x=endI (v*16+d):=by
 simp only[zaq,h];rw[if_neg (by omega)];rfl
theorem ztt (w:World) (b o n:Nat) (c h:Nat) (hn:2≤n) (hh:h=0) (hT:At w b (o+5) (zba n c h)) (x:UInt8) (hx:x.toNat<32∨x.toNat=34) :
  Calls Tryz.prog 132 #[.pointer (some ⟨b,o,none⟩),.int .u8 x.toNat] w fun e w'=>e= .returned (.tuple #[.string ⟨#[]⟩,.int .i64 2])∧w=w':=by
 obtain⟨⟨hc0,hf0⟩,⟨hc1,hf1⟩,hc2,hf2⟩:=hT.zeros n c 0 rfl rfl (by rw[hh];rfl);have n1:((n:Int)==1)=false:=by rw[beq_eq_false_iff_ne];omega
 clear hT hh hn;by_cases h32:x.toNat<32
 ·have g:(((x.toNat:Nat):Int)<32)=True:=by simp only[eq_iff_iff,iff_true];omega
  clear hx h32;go_enter Tryz.func132,Tryz.ntmps132;go_wp2;go_ret2;exact⟨rfl,rfl⟩
 ·have g:(((x.toNat:Nat):Int)<32)=False:=by simp only[eq_iff_iff,iff_false];omega
  have g2:(((x.toNat:Nat):Int)==34)=true:=by rw[beq_iff_eq];omega
  clear hx h32;go_enter Tryz.func132,Tryz.ntmps132;go_wp2;go_ret2;exact⟨rfl,rfl⟩
theorem zada (w:World) (b o n c:Nat) (hn:2≤n) (hC:CAt w b (o+1) st0) (hT:At w b (o+5) (zba n c 0)) (x:UInt8) (hx:za0 x.toNat=none) :
  Calls Tryz.prog 132 #[.pointer (some ⟨b,o,none⟩),.int .u8 x.toNat] w fun e w'=>e= .returned (.tuple #[.string ⟨#[]⟩,.int .i64 9])∧Sub b (o+1) 4 w w':=by
 obtain⟨⟨hc0,hf0⟩,⟨hc1,hf1⟩,hc2,hf2⟩:=hT.zeros n c 0 rfl rfl rfl;have n1:((n:Int)==1)=false:=by rw[beq_eq_false_iff_ne];omega
 have hlt:¬x.toNat<128:=fun h=>by rw[zc2 h] at hx;cases hx
 have g:(((x.toNat:Nat):Int)<32)=False:=by simp only[eq_iff_iff,iff_false];omega
 have g2:(((x.toNat:Nat):Int)==34)=false:=u8z x 34 (by omega);have hS:=zei hC x;rw[zabi,hx] at hS;have HS:=hid hS;clear hT hn hS hC hx hlt;go_enter Tryz.func132,Tryz.ntmps132;(go_wp2_with fail);refine HS.out.mono ?_;rintro e w' ⟨rfl,hp⟩;have HP:=hid hp.2;simp only[Option.isSome];clear hp;go_wp2;go_ret2;exact⟨rfl,HP.out⟩
theorem zg4 (w:World) (b o n c:Nat) (hn:2≤n) (hC:CAt w b (o+1) st0) (hT:At w b (o+5) (zba n c 0)) (x:UInt8) (p:Nat×Nat×Nat) (hx:za0 x.toNat=some p) (h1:32≤x.toNat) (h2:x.toNat≠34)
  (R:Value×Value) (Q:World→World→Prop)
  (hD:∀w1:World,At w1 b (o+5) (zba n c 0)→Calls Tryz.prog 138 #[.pointer (some ⟨b,o,none⟩),.int .u8 x.toNat] w1 fun e w'=>e= .returned (.tuple #[R.1,R.2])∧Q w1 w') :
  Calls Tryz.prog 132 #[.pointer (some ⟨b,o,none⟩),.int .u8 x.toNat] w fun e w'=>e= .returned (.tuple #[R.1,R.2])∧∃w1,zle w b (o+1) (za0 x.toNat) w1∧Q w1 w':=by
 obtain⟨⟨hc0,hf0⟩,⟨hc1,hf1⟩,hc2,hf2⟩:=hT.zeros n c 0 rfl rfl rfl;obtain⟨R1,R2⟩:=R;simp only[] at hD ⊢;have n1:((n:Int)==1)=false:=by rw[beq_eq_false_iff_ne];omega
 have n0:((n:Int)==0)=false:=by rw[beq_eq_false_iff_ne];omega
 have g:(((x.toNat:Nat):Int)<32)=False:=by simp only[eq_iff_iff,iff_false];omega
 have g2:(((x.toNat:Nat):Int)==34)=false:=u8z x 34 (by omega);have hS:=zei hC x;rw[zabi] at hS;have hq:(za0 x.toNat).isSome=true:=by rw[hx];rfl
 rw[hq] at hS;have HS:=hid hS;have HT:=hid hT;have HD:=hid hD;obtain⟨S,hSS⟩:∃S,za0 x.toNat=S:=⟨_,rfl⟩
 rw[hSS] at HS ⊢;clear hT hn hS hC hx h1 h2 hD hq hSS;go_enter Tryz.func132,Tryz.ntmps132;(go_wp2_with fail);refine HS.out.mono ?_;rintro e w1 ⟨rfl,hp⟩;have hT':=HT.out.sub hp.2 (.inr (by omega));obtain⟨⟨hd0,he0⟩,⟨hd1,he1⟩,hd2,he2⟩:=hT'.zeros n c 0 rfl rfl rfl;have HO:=hid (HD.out w1 hT');have HP:=hid hp;clear hp hT';(go_wp2_with fail);refine HO.out.mono ?_;rintro e w2 ⟨rfl,hq⟩;have HQ:=hid hq;clear hq;go_wp2;go_ret2;exact⟨rfl,w1,HP.out,HQ.out⟩
theorem zzl {c:Nat} (h:c<65536) (h1:¬(56320≤c∧c≤57343)) (h2:¬(55296≤c∧c≤56319)):zcg c:=by
 unfold zcg;omega
theorem zaez (w:World) (b o k v:Nat) (hW:WfI (.hex k v)) (hC:CAt w b (o+1) st0) (hT:At w b (o+5) (zba (k+2) v 0)) (x:UInt8) :
    Calls Tryz.prog 132 #[.pointer (some ⟨b,o,none⟩),.int .u8 x.toNat] w fun e w' =>
      e= .returned (.tuple #[.string ⟨(zaq (.hex k v) x).2.toArray⟩,.int .i64 (errI (zaq (.hex k v) x).1)])∧zfw w b o (zaq (.hex k v) x).1 w':=by
  by_cases h1:x.toNat<32∨x.toNat=34
  · rw[zc1 (zadb (by omega)),zc2 (by omega)]
    refine(ztt w b o (k+2) v 0 (by omega) rfl hT x h1).mono ?_;rintro e w' ⟨rfl,rfl⟩;exact⟨rfl,zgc⟩
  cases hp:za0 x.toNat with
  | none =>
    rw[zc1 (zo7 hp),hp];refine(zada w b o (k+2) v (by omega) hC hT x hp).mono ?_;rintro e w' ⟨rfl,hs⟩;exact⟨rfl,zdg hs (by omega)⟩
  | some p =>
    have hv4:v<4096:=Nat.lt_of_lt_of_le hW.2 (Nat.le_trans (Nat.pow_le_pow_right (by omega) hW.1) (by decide));cases hh:hexV x.toNat with
    | none =>
      rw[zc1 hh,hp];refine(zg4 w b o (k+2) v (by omega) hC hT x p hp (by omega) (by omega) (.string ⟨#[]⟩,.int .i64 2) (fun a c=>a=c) (fun w1 _=>zad9 w1 b o x.toNat hh)).mono ?_;rintro e w' ⟨rfl,w1,hc,rfl⟩;exact⟨rfl,zdg hc.2 (by omega)⟩
    | some d =>
      obtain⟨hd,hx128,_⟩:=zdo hh;have ho:=zc2 hx128;by_cases hk:k<3
      · rw[zhd hh hk]
        refine(zg4 w b o (k+2) v (by omega) hC hT x p hp (by omega) (by omega) (.string ⟨#[]⟩,.int .i64 0) (fun w1 w'=>At w' b (o+5) (zba (k+2+1) (v*16+d) 0)∧Sub b (o+5) 3 w1 w')
          (fun w1 ht=>zn6 w1 b o (k+2) v 0 x.toNat d hh (by omega) (by omega) ht)).mono ?_
        rintro e w' ⟨rfl,w1,hc,ha,hs⟩;rw[ho] at hc;exact⟨rfl,(hc.2.widen (Nat.le_refl _) (by omega)).trans (hs.widen (by omega) (by omega)),fun _=>⟨⟨by omega,zajw hW.2 hd⟩,hc.1.sub hs (.inl (by omega)),ha⟩⟩
      · have hk3:k=3:=by have:=hW.1;omega
        subst hk3;rw[zg7 hh];have go:∀(R:Value×Value) (c:Nat),(∀w1:World,At w1 b (o+5) (zba 6 (v*16+d) 0)→Calls Tryz.prog 145 #[.pointer (some ⟨b,o,none⟩)] w1 fun e w'=>e= .returned (.tuple #[R.1,R.2])∧zd6 w1 b o c w') →
            Calls Tryz.prog 132 #[.pointer (some ⟨b,o,none⟩),.int .u8 x.toNat] w fun e w'=>e= .returned (.tuple #[R.1,R.2])∧CAt w' b (o+1) st0∧At w' b (o+5) (zba 0 0 c)∧Sub b (o+1) 7 w w':=by
          intro R c hE;refine(zg4 w b o (3+2) v (by omega) hC hT x p hp (by omega) (by omega) R (fun w1 w'=>zd6 w1 b o c w') (fun w1 ht=>znw w1 b o v 0 x.toNat d c R hh (by omega) ht hE)).mono ?_;rintro e w' ⟨rfl,w1,hc,ha,hs⟩;rw[ho] at hc;exact⟨rfl,hc.1.sub hs (.inl (by omega)),ha,(hc.2.widen (Nat.le_refl _) (by omega)).trans (hs.widen (by omega) (by omega))⟩
        have hcl:v*16+d<65536:=by omega
        generalize v*16+d=c at *
        unfold endI;by_cases q1:56320≤c∧c≤57343
        · rw[if_pos q1]
          refine(go (.string ⟨#[]⟩,.int .i64 9) 0 (fun w1 ht=>zah6 w1 b o 6 c q1 ht)).mono ?_;rintro e w' ⟨rfl,_,_,hs⟩;exact⟨rfl,zdg hs (by omega)⟩
        · rw[if_neg q1]
          by_cases q2:55296≤c∧c≤56319
          · rw[if_pos q2]
            refine(go (.string ⟨#[]⟩,.int .i64 0) c (fun w1 ht=>zahf w1 b o 6 c (by omega) ht)).mono ?_;rintro e w' ⟨rfl,hc,ha,hs⟩;exact⟨rfl,hs,fun _=>⟨⟨q2.1,q2.2,.inl ⟨by omega,rfl⟩⟩,hc,ha⟩⟩
          · rw[if_neg q2]
            have hE:=fun(w1:World) ht=>zacp w1 b o 6 c (zzl hcl q1 q2) ht
            generalize encL c=l at hE ⊢;refine(go (.string ⟨l.toArray⟩,.int .i64 0) 0 hE).mono ?_;rintro e w' ⟨rfl,hc,ha,hs⟩;exact⟨rfl,hs,fun _=>⟨⟨by omega,rfl,rfl⟩,hc,ha⟩⟩
theorem zg3 {k x:Nat} (h:zc5 k x=true):x<128∧48≤x∧(k=0→x=92)∧(k=1→x=117)∧(2≤k→∃d,hexV x=some d):=by
  match k,h with
  | 0,h =>
    have:x=92:=by simpa [zc5] using h
    exact⟨by omega,by omega,fun _=>this,fun h=>by omega,fun h=>by omega⟩
  | 1,h =>
    have:x=117:=by simpa [zc5] using h
    exact⟨by omega,by omega,fun h=>by omega,fun _=>this,fun h=>by omega⟩
  | 2,h =>
    have:x=100∨x=68:=by simpa [zc5] using h
    refine⟨by omega,by omega,fun h=>by omega,fun h=>by omega,fun _=>⟨13,?_⟩⟩;rcases this with rfl|rfl <;>decide
  | 3,h =>
    cases hh:hexV x with
    | none=>simp[zc5,hh] at h
    | some d =>
      have:=zdo hh;exact⟨by omega,by omega,fun h=>by omega,fun h=>by omega,fun _=>⟨d,rfl⟩⟩
  | k + 4,h =>
    cases hh:hexV x with
    | none=>simp[zc5,hh] at h
    | some d =>
      have:=zdo hh;exact⟨by omega,by omega,fun h=>by omega,fun h=>by omega,fun _=>⟨d,rfl⟩⟩
theorem zai8 {x d:Nat} (h:zc5 2 x=true) (hd:hexV x=some d):d=13:=by
 have:x=100∨x=68:=by simpa [zc5] using h
 rcases this with rfl|rfl
 ·have:hexV 100=some 13:=by decide
  rw[this] at hd
  injection hd with hd
  exact hd.symm
 ·have:hexV 68=some 13:=by decide
  rw[this] at hd
  injection hd with hd
  exact hd.symm
theorem zv8 {x d:Nat} (h:zc5 3 x=true) (hd:hexV x=some d):12≤d:=by
 rw[zaj5 hd] at h;exact of_decide_eq_true h
theorem ztx (w:World) (b o h k c:Nat) (hh:55296≤h) (hT:At w b (o+5) (zba k c h)) (x:UInt8) (hx:zc5 k x.toNat=false) :
  Calls Tryz.prog 132 #[.pointer (some ⟨b,o,none⟩),.int .u8 x.toNat] w fun e w'=>e= .returned (.tuple #[.string ⟨#[]⟩,.int .i64 9])∧w=w':=by
 obtain⟨⟨hc0,hf0⟩,⟨hc1,hf1⟩,hc2,hf2⟩:=hT.zeros k c h rfl rfl rfl;have z:((h:Int)==0)=false:=by rw[beq_eq_false_iff_ne];omega
 have z2:((h:Int)=0)=False:=by simp only[eq_iff_iff,iff_false];omega
 have hM:=zef k x.toNat;rw[hx] at hM;have HM:=hid hM;clear hT hM hx;go_enter Tryz.func132,Tryz.ntmps132;(go_wp2_with fail);refine(HM.out _).mono ?_;rintro e w' ⟨rfl,rfl⟩;go_wp2;go_ret2;exact⟨rfl,rfl⟩
theorem zss (w:World) (b o h:Nat) (hh:55296≤h) (hC:CAt w b (o+1) st0) (hT:At w b (o+5) (zba 0 0 h)) :
  Calls Tryz.prog 132 #[.pointer (some ⟨b,o,none⟩),.int .u8 92] w fun e w'=>e= .returned (.tuple #[.string ⟨#[]⟩,.int .i64 0])∧CAt w' b (o+1) st0∧At w' b (o+5) (zba 1 0 h)∧Sub b (o+1) 7 w w':=by
 obtain⟨⟨hc0,hf0⟩,⟨hc1,hf1⟩,hc2,hf2⟩:=hT.zeros 0 0 h rfl rfl rfl;have z:((h:Int)==0)=false:=by rw[beq_eq_false_iff_ne];omega
 have z2:((h:Int)=0)=False:=by simp only[eq_iff_iff,iff_false];omega
 have hM:=zef 0 92;have HM:Hid (∀w,Calls Tryz.prog 135 #[.int .i64 0,.int .u8 92] w fun e w'=>e= .returned (.bool true)∧w=w'):=hid hM;have hS:Calls Tryz.prog 136 #[.pointer (some ⟨b,o+1,none⟩),.int .u8 92] w fun e w'=>e= .returned (.bool true)∧zle w b (o+1) st0 w':=zei hC 92
 have HS:=hid hS;have HT:=hid hT;clear hT hM hC hS;go_enter Tryz.func132,Tryz.ntmps132;(go_wp2_with fail);refine(HM.out _).mono ?_;rintro e w' ⟨rfl,rfl⟩;(go_wp2_with fail);refine HS.out.mono ?_;rintro e w' ⟨rfl,hp⟩;have hT':=HT.out.sub hp.2 (.inr (by omega));obtain⟨⟨hd0,he0⟩,⟨hd1,he1⟩,hd2,he2⟩:=hT'.zeros 0 0 h rfl rfl rfl;have HP:=hid (And.intro hp (zgu hT' 1));clear hp hT';go_wp2;go_ret2;obtain⟨hp,ha,hs⟩:=HP.out;exact⟨rfl,hp.1.sub hs (.inl (by omega)),ha,(hp.2.widen (Nat.le_refl _) (by omega)).trans (hs.widen (by omega) (by omega))⟩
theorem zty (w:World) (b o h:Nat) (hh:55296≤h) (hC:CAt w b (o+1) st0) (hT:At w b (o+5) (zba 1 0 h)) :
  Calls Tryz.prog 132 #[.pointer (some ⟨b,o,none⟩),.int .u8 117] w fun e w'=>e= .returned (.tuple #[.string ⟨#[]⟩,.int .i64 0])∧CAt w' b (o+1) st0∧At w' b (o+5) (zba 2 0 h)∧Sub b (o+1) 7 w w':=by
 obtain⟨⟨hc0,hf0⟩,⟨hc1,hf1⟩,hc2,hf2⟩:=hT.zeros 1 0 h rfl rfl rfl;have z:((h:Int)==0)=false:=by rw[beq_eq_false_iff_ne];omega
 have z2:((h:Int)=0)=False:=by simp only[eq_iff_iff,iff_false];omega
 have hM:=zef 1 117;have HM:Hid (∀w,Calls Tryz.prog 135 #[.int .i64 1,.int .u8 117] w fun e w'=>e= .returned (.bool true)∧w=w'):=hid hM;have hS:Calls Tryz.prog 136 #[.pointer (some ⟨b,o+1,none⟩),.int .u8 117] w fun e w'=>e= .returned (.bool true)∧zle w b (o+1) st0 w':=zei hC 117
 have HS:=hid hS;have HT:=hid hT;clear hT hM hC hS;go_enter Tryz.func132,Tryz.ntmps132;(go_wp2_with fail);refine(HM.out _).mono ?_;rintro e w' ⟨rfl,rfl⟩;(go_wp2_with fail);refine HS.out.mono ?_;rintro e w' ⟨rfl,hp⟩;have hT':=HT.out.sub hp.2 (.inr (by omega));obtain⟨⟨hd0,he0⟩,⟨hd1,he1⟩,hd2,he2⟩:=hT'.zeros 1 0 h rfl rfl rfl;have HP:=hid hp;have HO:=hid (zafx w' b o 1 0 h hT');clear hp hT';(go_wp2_with fail);refine HO.out.mono ?_;rintro e w2 ⟨rfl,ha,hs⟩;have HA:=hid (And.intro ha hs);clear ha hs;go_wp2;go_ret2;obtain⟨ha,hs⟩:=HA.out;have hp:=HP.out;exact⟨rfl,hp.1.sub hs (.inl (by omega)),ha,(hp.2.widen (Nat.le_refl _) (by omega)).trans (hs.widen (by omega) (by omega))⟩
theorem zru (w:World) (b o n c h:Nat) (hn:2≤n) (hh:55296≤h) (hC:CAt w b (o+1) st0) (hT:At w b (o+5) (zba n c h)) (x:UInt8) (hx:zc5 n x.toNat=true)
  (R:Value×Value) (Q:World→World→Prop)
  (hD:∀w1:World,At w1 b (o+5) (zba n c h)→Calls Tryz.prog 138 #[.pointer (some ⟨b,o,none⟩),.int .u8 x.toNat] w1 fun e w'=>e= .returned (.tuple #[R.1,R.2])∧Q w1 w') :
  Calls Tryz.prog 132 #[.pointer (some ⟨b,o,none⟩),.int .u8 x.toNat] w fun e w'=>e= .returned (.tuple #[R.1,R.2])∧∃w1,zle w b (o+1) st0 w1∧Q w1 w':=by
 obtain⟨⟨hc0,hf0⟩,⟨hc1,hf1⟩,hc2,hf2⟩:=hT.zeros n c h rfl rfl rfl;obtain⟨R1,R2⟩:=R;simp only[] at hD ⊢;obtain⟨hx1,hx2,_,_,_⟩:=zg3 hx;have z:((h:Int)==0)=false:=by rw[beq_eq_false_iff_ne];omega
 have z2:((h:Int)=0)=False:=by simp only[eq_iff_iff,iff_false];omega
 have n1:((n:Int)==1)=false:=by rw[beq_eq_false_iff_ne];omega
 have n0:((n:Int)==0)=false:=by rw[beq_eq_false_iff_ne];omega
 have g:(((x.toNat:Nat):Int)<32)=False:=by simp only[eq_iff_iff,iff_false];omega
 have g2:(((x.toNat:Nat):Int)==34)=false:=u8z x 34 (by omega);have hM:=zef n x.toNat;rw[hx] at hM;have HM:=hid hM;have hS:=zei hC x;rw[zabi,zc2 hx1] at hS;have HS:=hid hS;have HT:=hid hT;have HD:=hid hD;clear hT hn hS hC hx hD hM hx1 hx2;go_enter Tryz.func132,Tryz.ntmps132;(go_wp2_with fail);refine(HM.out _).mono ?_;rintro e w' ⟨rfl,rfl⟩;(go_wp2_with fail);refine HS.out.mono ?_;rintro e w1 ⟨rfl,hp⟩;have hT':=HT.out.sub hp.2 (.inr (by omega));obtain⟨⟨hd0,he0⟩,⟨hd1,he1⟩,hd2,he2⟩:=hT'.zeros n c h rfl rfl rfl;have HO:=hid (HD.out w1 hT');have HP:=hid hp;simp only[Option.isSome];clear hp hT';(go_wp2_with fail);refine HO.out.mono ?_;rintro e w2 ⟨rfl,hq⟩;have HQ:=hid hq;clear hq;go_wp2;go_ret2;exact⟨rfl,w1,HP.out,HQ.out⟩
theorem zg8 {h k c:Nat} {x:UInt8} (hl:zc5 k x.toNat=false):zaq (.high h k c) x=(.bad true,[]):=by
 simp only[zaq];rw[if_neg (by rw[hl];decide)]
theorem zt1 (h:Nat):zaq (.high h 0 0) 92=(.high h 1 0,[]):=zlp (by decide) (by decide) (by decide)
theorem zs8 (h:Nat):zaq (.high h 1 0) 117=(.high h 2 0,[]):=zlp (by decide) (by decide) (by decide)
theorem zx0 (w:World) (b o h k c:Nat) (hW:WfI (.high h k c)) (hC:CAt w b (o+1) st0) (hT:At w b (o+5) (zba k c h)) (x:UInt8) :
  Calls Tryz.prog 132 #[.pointer (some ⟨b,o,none⟩),.int .u8 x.toNat] w fun e w' =>
   e= .returned (.tuple #[.string ⟨(zaq (.high h k c) x).2.toArray⟩,.int .i64 (errI (zaq (.high h k c) x).1)])∧zfw w b o (zaq (.high h k c) x).1 w':=by
 obtain⟨hh1,hh2,hkc⟩:=hW;by_cases hl:zc5 k x.toNat=false
 ·rw[zg8 hl]
  refine(ztx w b o h k c hh1 hT x hl).mono ?_;rintro e w' ⟨rfl,rfl⟩;exact⟨rfl,zgc⟩
 have hl':zc5 k x.toNat=true:=by simpa using hl
 obtain⟨hx1,hx2,e0,e1,e2⟩:=zg3 hl';by_cases k0:k=0
 ·subst k0
  obtain⟨_,rfl⟩:0≤2∧c=0:=by omega
  have hx:x=92:=UInt8.toNat_inj.1 (by rw[e0 rfl];rfl);subst hx;rw[zt1];refine(zss w b o h hh1 hC hT).mono ?_;rintro e w' ⟨rfl,hc,ha,hs⟩;exact⟨rfl,hs,fun _=>⟨⟨hh1,hh2,.inl ⟨by omega,rfl⟩⟩,hc,ha⟩⟩
 by_cases k1:k=1
 ·subst k1
  obtain⟨_,rfl⟩:1≤2∧c=0:=by omega
  have hx:x=117:=UInt8.toNat_inj.1 (by rw[e1 rfl];rfl);subst hx;rw[zs8];refine(zty w b o h hh1 hC hT).mono ?_;rintro e w' ⟨rfl,hc,ha,hs⟩;exact⟨rfl,hs,fun _=>⟨⟨hh1,hh2,.inl ⟨by omega,rfl⟩⟩,hc,ha⟩⟩
 obtain⟨d,hd⟩:=e2 (by omega);have hdl:=(zdo hd).1;by_cases k5:k<5
 ·rw[zlp hl' k5 (zvz (by omega) hd)]
  refine(zru w b o k c h (by omega) hh1 hC hT x hl' (.string ⟨#[]⟩,.int .i64 0) (fun w1 w'=>At w' b (o+5) (zba (k+1) (c*16+d) h)∧Sub b (o+5) 3 w1 w')
   (fun w1 ht=>zn6 w1 b o k c h x.toNat d hd k5 (by omega) ht)).mono ?_
  rintro e w' ⟨rfl,w1,hc,ha,hs⟩;refine⟨rfl,(hc.2.widen (Nat.le_refl _) (by omega)).trans (hs.widen (by omega) (by omega)),fun _=>⟨⟨hh1,hh2,?_⟩,hc.1.sub hs (.inl (by omega)),ha⟩⟩;by_cases k2:k=2
  ·subst k2
   have:=zai8 hl' hd;omega
  by_cases k3:k=3
  ·subst k3
   have:=zv8 hl' hd;omega
  ·omega
 ·have hk:k=5:=by omega
  subst hk;rw[zq1 hl' (zvz (by omega) hd)];have hE:=fun(w1:World) ht=>zace w1 b o 6 (c*16+d) h ⟨hh1,hh2⟩ (by omega) ht
  generalize encL (zhi h (c*16+d))=l at hE ⊢;refine(zru w b o 5 c h (by omega) hh1 hC hT x hl' (.string ⟨l.toArray⟩,.int .i64 0) (fun w1 w'=>zd6 w1 b o 0 w')
   (fun w1 ht=>znw w1 b o c h x.toNat d 0 (.string ⟨l.toArray⟩,.int .i64 0) hd (by omega) ht hE)).mono ?_
  rintro e w' ⟨rfl,w1,hc,ha,hs⟩;exact⟨rfl,(hc.2.widen (Nat.le_refl _) (by omega)).trans (hs.widen (by omega) (by omega)),fun _=>⟨⟨by omega,rfl,rfl⟩,hc.1.sub hs (.inl (by omega)),ha⟩⟩
end
section
open Go.RowKit
open Go.Lib
theorem zmj {w:World} {b:Nat} {c:Array Value} {t:TypeId} (h:w.heap[b]? = some (.cells c t (0,0))):At w b 0 c.toList:=fun j u hj=>by
 refine⟨?_,?_⟩
 ·unfold World.cell?
  simp only[h];simpa using hj
 ·unfold World.frozen?
  simp only[h];simp
end
section
open Go.RowKit
open Go.Lib
def EAt (w:World) (b o:Nat) (s:Ins):Prop:=At w b o [.int .i64 (errI s)]∧(errI s=0→WfI s∧CAt w b (o+1) (utfI s)∧At w b (o+5) (zba (zafk s) (zahw s) (zads s)))
theorem EAt.keep {w w':World} {b o:Nat} {s:Ins} (h:EAt w b o s) (hk:w'.heap[b]? = w.heap[b]?):EAt w' b o s:=⟨h.1.keep hk,fun e=>⟨(h.2 e).1,(h.2 e).2.1.keep hk,(h.2 e).2.2.keep hk⟩⟩
theorem EAt.wf {w:World} {b o:Nat} {s:Ins} (h:EAt w b o s) (e:errI s=0):WfI s:=(h.2 e).1
theorem EAt.sub {w w':World} {b o o' n:Nat} {s:Ins} (h:EAt w b o s) (k:Sub b o' n w w') (hd:o+8≤o'∨o'+n≤o):EAt w' b o s :=
 ⟨h.1.sub k (by simp only[List.length_singleton];omega),fun e=>⟨(h.2 e).1,(h.2 e).2.1.sub k (by omega),(h.2 e).2.2.sub k (by simp only[zba,List.length_cons,List.length_nil];omega)⟩⟩
theorem zajo {s:Ins} (h:errI s≠0):∃u,s= .bad u:=by
 match s with
 | .text _ _ _=>exact absurd rfl h
 | .back=>exact absurd rfl h
 | .hex _ _=>exact absurd rfl h
 | .high _ _ _=>exact absurd rfl h
 | .bad u=>exact⟨u,rfl⟩
theorem zaie {w:World} {b o:Nat} {s:Ins} (he:errI s=0) (hW:WfI s) (hC:CAt w b (o+1) (utfI s)) (hT:At w b (o+5) (zba (zafk s) (zahw s) (zads s))) (x:UInt8) :
  Calls Tryz.prog 132 #[.pointer (some ⟨b,o,none⟩),.int .u8 x.toNat] w fun e w' =>
   e= .returned (.tuple #[.string ⟨(zaq s x).2.toArray⟩,.int .i64 (errI (zaq s x).1)])∧zfw w b o (zaq s x).1 w':=by
 match s with
 | .text n lo hi=>exact zw5 w b o n lo hi hW hC hT x
 | .back=>exact zy2 w b o hC hT x
 | .hex k v=>exact zaez w b o k v hW hC hT x
 | .high h k c=>exact zx0 w b o h k c hW hC hT x
 | .bad u=>cases u <;>cases he
theorem zabj {w:World} {b o:Nat} {s:Ins} (h:EAt w b o s) (x:UInt8) :
  Calls Tryz.prog 124 #[.pointer (some ⟨b,o,none⟩),.int .u8 x.toNat] w fun e w' =>
   e= .returned (.tuple #[.string ⟨(zaq s x).2.toArray⟩,.int .i64 (errI (zaq s x).1)])∧EAt w' b o (zaq s x).1∧Sub b o 8 w w':=by
 by_cases he:errI s=0
 ·obtain⟨hA,hR⟩:=h
  obtain⟨hW,hC,hT⟩:=hR he;have hK:=zaie he hW hC hT x;obtain⟨hc',hf⟩:=hA 0 _ rfl;have hc:w.cell? ⟨b,o,none⟩=some (.int .i64 0):=by rw[he] at hc';exact hc'
  have hP:∀w',zfw w b o (zaq s x).1 w'→(w'.cell? ⟨b,o,none⟩=some (.int .i64 0)∧w'.frozen? ⟨b,o,none⟩=false)∧EAt (w'.setCell ⟨b,o,none⟩ (.int .i64 (errI (zaq s x).1))) b o (zaq s x).1∧Sub b o 8 w (w'.setCell ⟨b,o,none⟩ (.int .i64 (errI (zaq s x).1))):=by
   intro w' hp;have a1:=hA.sub hp.1 (.inl (by simp));have hs:=zac (b:=b) (o:=o) (n:=1) w' o (.int .i64 (errI (zaq s x).1)) (by omega);have a2:=a1 0 _ rfl;rw[he] at a2;refine⟨a2,⟨a1.set 0 (by simp) _,fun e=> ?_⟩,(hp.1.widen (by omega) (by omega)).trans (hs.widen (by omega) (by omega))⟩;obtain⟨q1,q2,q3⟩:=hp.2 e;exact⟨q1,q2.sub hs (.inr (by omega)),q3.sub hs (.inr (by omega))⟩
  have HP:=hid hP;have HK:=hid hK;clear hP hK hA hR hW hC hT hc' he;generalize (zaq s x).1=s' at *
  generalize (zaq s x).2=l at *
  obtain⟨z,hz⟩:∃z:ByteArray,(⟨l.toArray⟩:ByteArray)=z:=⟨_,rfl⟩
  rw[hz] at HK ⊢;clear hz;obtain⟨E,hE⟩:∃E,((errI s':Nat):Int)=E:=⟨_,rfl⟩
  rw[hE] at HP HK ⊢;clear hE;go_enter Tryz.func124,Tryz.ntmps124;(go_wp2_with fail);refine HK.out.mono ?_;rintro e w' ⟨rfl,hp⟩;obtain⟨⟨hc',hf'⟩,hq⟩:=HP.out w' hp;have HQ:=hid hq;clear hp hq;go_wp2;go_ret2;exact⟨rfl,HQ.out⟩
 ·obtain⟨u,rfl⟩:=zajo he
  obtain⟨hc,hf⟩:=h.1 0 _ rfl;have hE:(((errI (.bad u):Nat):Int)==0)=false:=by rw[beq_eq_false_iff_ne];omega
  have hE2:(((errI (.bad u):Nat):Int)=0)=False:=by simp only[eq_iff_iff,iff_false];omega
  have hn:(0:Int)<((errI (.bad u):Nat):Int):=by omega
  simp only[zaq];have HP:Hid (EAt w b o (.bad u)):=hid h;obtain⟨E,hEE⟩:∃E,((errI (.bad u):Nat):Int)=E:=⟨_,rfl⟩
  rw[hEE] at hc hE hE2 hn ⊢;have hc0:w.cell? ⟨b,o,none⟩=some (.int .i64 E):=hc;clear h hc he hEE;go_enter Tryz.func124,Tryz.ntmps124;(go_wp2_with fail)
  go_region
  go_wp2;go_ret2;exact⟨rfl,HP.out,(Sub.refl _ _ _ _).drew⟩
theorem zu5 {w:World} {b o:Nat} {u:Bool} (h:EAt w b o (.bad u)) :
  Calls Tryz.prog 123 #[.pointer (some ⟨b,o,none⟩)] w fun e w'=>e= .returned (.bool false)∧w=w':=by
 obtain⟨hc,hf⟩:=h.1 0 _ rfl;have hE:(((errI (.bad u):Nat):Int)==0)=false:=by cases u <;>rfl
 obtain⟨E,hEE⟩:∃E,((errI (.bad u):Nat):Int)=E:=⟨_,rfl⟩
 rw[hEE] at hc hE;have hc0:w.cell? ⟨b,o,none⟩=some (.int .i64 E):=hc;clear h hc hEE;go_enter Tryz.func123,Tryz.ntmps123;go_wp2;go_ret;exact⟨rfl,rfl⟩
theorem zft {w:World} {b o n c hi:Nat} (h0:At w b o [.int .i64 (0:Nat)]) (hT:At w b (o+5) (zba n c hi)) (hne:n≠0∨hi≠0) :
  Calls Tryz.prog 123 #[.pointer (some ⟨b,o,none⟩)] w fun e w'=>e= .returned (.bool false)∧w=w':=by
 obtain⟨hc',hf⟩:=h0 0 _ rfl;have hc:w.cell? ⟨b,o,none⟩=some (.int .i64 0):=hc';obtain⟨⟨hd0,he0⟩,⟨hd1,he1⟩,hd2,he2⟩:=hT.tail;clear h0 hT hc';by_cases hn:n=0
 ·subst hn
  have hd0':w.cell? ⟨b,o+5,none⟩=some (.int .i64 0):=hd0;have z:((hi:Int)==0)=false:=by rw[beq_eq_false_iff_ne];omega
  clear hd0 hne;go_enter Tryz.func123,Tryz.ntmps123;go_wp2;go_ret;exact⟨rfl,rfl⟩
 ·have z:((n:Int)==0)=false:=by rw[beq_eq_false_iff_ne];omega
  clear hne;go_enter Tryz.func123,Tryz.ntmps123;go_wp2;go_ret;exact⟨rfl,rfl⟩
theorem zp8 {w:World} {b o:Nat} {s:Option (Nat×Nat×Nat)} (h0:At w b o [.int .i64 (0:Nat)]) (hC:CAt w b (o+1) s) (hT:At w b (o+5) (zba 0 0 0)) :
  Calls Tryz.prog 123 #[.pointer (some ⟨b,o,none⟩)] w fun e w'=>e= .returned (.bool (zch s))∧w=w':=by
 obtain⟨hc',hf⟩:=h0 0 _ rfl;have hc:w.cell? ⟨b,o,none⟩=some (.int .i64 0):=hc';obtain⟨⟨hd0,he0⟩,⟨hd1,he1⟩,hd2,he2⟩:=hT.zeros 0 0 0 rfl rfl rfl;have HW:=hid (zlb hC);generalize zch s=q at *
 clear h0 hT hc' hC;go_enter Tryz.func123,Tryz.ntmps123;(go_wp2_with fail);refine HW.out.mono ?_;rintro e w' ⟨rfl,rfl⟩;go_wp2;go_ret;exact⟨rfl,rfl⟩
theorem zog {w:World} {b o:Nat} {s:Ins} (h:EAt w b o s) :
    Calls Tryz.prog 123 #[.pointer (some ⟨b,o,none⟩)] w fun e w'=>e= .returned (.bool (zhe s))∧w=w':=by
  match s with
  | .bad u=>exact zu5 h
  | .back =>
    obtain⟨_,hC,hT⟩:=h.2 rfl;exact zft h.1 hT (.inl (by decide))
  | .hex k v =>
    obtain⟨_,hC,hT⟩:=h.2 rfl;exact zft h.1 hT (.inl (by simp only[zafk];omega))
  | .high a k c =>
    obtain⟨hW,hC,hT⟩:=h.2 rfl;exact zft h.1 hT (.inr (by have:=hW.1;simp only[zads];omega))
  | .text n lo hi =>
    obtain⟨_,hC,hT⟩:=h.2 rfl;have:=zp8 h.1 hC hT;have e:zch (some (n,lo,hi))=zhe (.text n lo hi):=by cases n <;>rfl
    rw[← e];exact this
abbrev rdZero:Array Value:=#[.int .i64 0,.int .i64 0,.int .u8 0,.int .u8 0,.bool false,.int .i64 0,.int .i64 0,.int .i64 0]
theorem zajm {w:World} {b o:Nat} (h:At w b o rdZero.toList):EAt w b o insT:=by
 have h1:At w b o ([.int .i64 (0:Nat)]++(za9 0 0 0 false++zba 0 0 0)):=h;exact⟨h1.left,fun _=>⟨⟨by omega,rfl,rfl⟩,zeb (h1.right).left,(h1.right).right⟩⟩
def RBlk (w:World) (b:Nat):Prop:=∃c fr,w.heap[b]? = some (.cells c 133 fr)
theorem zadi {s:Ins} (hW:WfI s) (x:UInt8):(zaq s x).2.length≤4:=by
  match s with
  | .bad u=>simp[zaq]
  | .text n lo hi =>
    simp only[zaq]
    repeat' split
    all_goals simp
  | .back =>
    simp only[zaq]
    repeat' split
    all_goals simp
  | .hex k v =>
    obtain⟨hk,hv⟩:=hW;cases hh:hexV x.toNat with
    | none=>rw[zc1 hh];simp
    | some d =>
      by_cases h3:k<3
      · rw[zhd hh h3];simp
      · have:k=3:=by omega
        subst this;rw[zg7 hh];have hd:=(zdo hh).1;have hcl:v*16+d<65536:=by omega
        generalize v*16+d=c at *
        unfold endI;by_cases q1:56320≤c∧c≤57343
        · rw[if_pos q1];simp
        · rw[if_neg q1]
          by_cases q2:55296≤c∧c≤56319
          · rw[if_pos q2];simp
          · rw[if_neg q2]
            have h4:=(zaaa (zzl hcl q1 q2)).2;generalize encL c=l at h4 ⊢;exact h4
  | .high h k c =>
    obtain⟨hh1,hh2,hkc⟩:=hW;by_cases hl:zc5 k x.toNat=false
    · rw[zg8 hl];simp
    have hl':zc5 k x.toNat=true:=by simpa using hl
    by_cases k5:k<5
    · rw[zlp hl' k5 rfl];simp
    · have hk:k=5:=by omega
      subst hk;obtain⟨d,hd⟩:=(zg3 hl').2.2.2.2 (by omega);have hdl:=(zdo hd).1;rw[zq1 hl' (zvz (by omega) hd)];have h4:=(zaaa (znp (h:=h) (c:=c*16+d) ⟨hh1,hh2⟩ (by omega))).2;generalize encL (zhi h (c*16+d))=l at h4 ⊢;exact h4
end
section
open Go.Shelf
def zsm:Go.Shelf.Ren:=⟨fun|25=>147|n=>n,fun|22=>41|n=>n,fun|n=>n⟩
theorem zajt:Go.Proofs.Lays7.n25 Tryz.prog zsm:={
 mixed:=by kernel_rfl
 f25:=Tryz.func147.trans (congrArg some (by kernel_rfl))
 t22:=Tryz.underlying41
 a22:=Tryz.isAgg41
 z22:=Tryz.sizeOf41
 v22:=Tryz.zeroValue41
 i22:=by kernel_rfl}
theorem zio (x y c:Nat) (hc:c≤1) (w:World):(callFunc 147 #[.int .u64 x,.int .u64 y,.int .u64 c]).run Tryz.prog w =
   .ok (.value (.tuple #[.int .u64 (((x+y+c)%18446744073709551616:Nat):Int),.int .u64 (((x+y+c)/18446744073709551616:Nat):Int)])) w:=Any7.bits_Add64 zajt x y c hc w
theorem zr1 {B:Nat} {w w':World} (h:Go.RowKit.Below B w w') (q:Nat):Go.RowKit.Below B w (w'.drewN q):=⟨h.os,h.tape,h.output,h.size,h.block⟩
end
section
open Go.Shelf
def zuf:Go.Shelf.Ren:=⟨fun|26=>130|n=>n,fun|22=>41|n=>n,fun|n=>n⟩
theorem zaj3:Go.Proofs.Lays7.n26 Tryz.prog zuf:={
 mixed:=by kernel_rfl
 f26:=Tryz.func130.trans (congrArg some (by kernel_rfl))
 t22:=Tryz.underlying41
 a22:=Tryz.isAgg41
 z22:=Tryz.sizeOf41
 v22:=Tryz.zeroValue41
 i22:=by kernel_rfl}
open Go.RowKit
open Go.Lib
theorem zyp (x y b:Nat) (hb:b≤1) (w:World):(callFunc 130 #[.int .u64 x,.int .u64 y,.int .u64 b]).run Tryz.prog w =
   .ok (.value (.tuple #[.int .u64 (((x+18446744073709551616-y-b)%18446744073709551616:Nat):Int),.int .u64 ((if x<y+b then 1 else 0:Nat):Int)])) w:=Any7.bits_Sub64 zaj3 x y b hb w
end
section
open Go.Shelf
def zpv:Go.Shelf.Ren:=⟨fun|264=>146|n=>n,fun|53=>41|46=>52|n=>n,fun|n=>n⟩
theorem zahj:Go.Proofs.Lays.n264 Tryz.prog zpv:={
 mixed:=by kernel_rfl
 f264:=Tryz.func146.trans (congrArg some (by kernel_rfl))
 t46:=Tryz.underlying52
 a46:=Tryz.isAgg52
 z46:=Tryz.sizeOf52
 v46:=Tryz.zeroValue52
 t53:=Tryz.underlying41
 a53:=Tryz.isAgg41
 z53:=Tryz.sizeOf41
 v53:=Tryz.zeroValue41}
open Go.RowKit Go.Lib in
theorem bits_Mul64 (x y:Nat) (hx:x<18446744073709551616) (hy:y<18446744073709551616) (w:World) :
  Calls Tryz.prog 146 #[.int .u64 x,.int .u64 y] w fun e w'=>e= .returned (.tuple #[.int .u64 ((x*y/18446744073709551616:Nat):Int),.int .u64 ((x*y%18446744073709551616:Nat):Int)])∧w'=w:=Any.bits_Mul64 zahj x y hx hy w
end
end Go.Proofs.YtpaciekgbhoncaaGreat
