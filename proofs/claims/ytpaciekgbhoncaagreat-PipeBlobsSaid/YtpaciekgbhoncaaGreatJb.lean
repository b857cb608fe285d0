/-
  Parts: CinTxtA, HeadRb, HeadRh, PinPure, PinBack, PipAll, PipLa, PipOne, RefWs.
-/
import Derived.Test.YtpaciekgbhoncaaGreatG0c
import Derived.Test.YtpaciekgbhoncaaGreatJa
import Derived.Test.YtpaciekgbhoncaaGreatG0m
import Derived.Test.YtpaciekgbhoncaaGreatG0b
import Derived.Test.YtpaciekgbhoncaaGreatG0f
import Derived.Test.YtpaciekgbhoncaaGreatG0g
import Derived.Test.YtpaciekgbhoncaaGreatHHeadRh
import Derived.Deep.RegionWith
import Derived.Test.YtpaciekgbhoncaaGreatG0l
import Derived.Test.YtpaciekgbhoncaaGreatG1f
import Derived.Test.YtpaciekgbhoncaaGreatG1d
import Derived.Test.YtpaciekgbhoncaaGreatG2c
import Derived.Deep.QuietTactic
set_option maxRecDepth 100000
set_option maxHeartbeats 16000000
open Go.Lib (hid)
namespace Go.Proofs.YtpaciekgbhoncaaGreat
section
open Go.RowKit
open Go.Lib
theorem zano (hH:zaoq) (e:Ev) (hk:e.k=3∨e.k=4) (htx:e.t.size≤1000) (w:World) :
  Calls Tryz.prog 35 #[.int .i64 2,evV e] w fun r w'=>r= .returned (.tuple #[.string ⟨(zbl [] e).toArray⟩,.int .i64 0])∧Below w.heap.size w w':=by
 obtain⟨k,y,m,t,c⟩:=e;simp only[evV] at *
 have HB:=hid (fun x=>(Below.refl w.heap.size w).alloc (Nat.le_refl _) x);have text:∀(k:Int) (n:Int) (j:Nat),(n%8).toNat=j→zbl [] ⟨k,y,m,t,c⟩=zcd j t.data.toList.length++t.data.toList→∃X:ByteArray,X.size≤9∧(∀W,Calls Tryz.prog 33 #[.int .i64 n,.int .u64 t.size] W fun e w'=>e= .returned (.string X)∧Below W.heap.size W w')∧(⟨(zbl [] ⟨k,y,m,t,c⟩).toArray⟩:ByteArray)=X++t:=by
  intro k n j hj hw;refine⟨⟨(zcd j t.size).toArray⟩,?_,?_,?_⟩
  ·rw[zbd]
   exact zf6 _ _
  ·intro W
   have:=hH n t.size (by omega) W;rw[hj] at this;exact this
  ·rw[hw,zb3]
   apply ByteArray.ext;simp
 rcases hk with rfl|rfl
 ·obtain⟨X,hXs,hP,hX⟩:=text 3 3 3 rfl rfl
  rw[hX];have HP:=hid hP;have hw:IntKind.u64.wrap (t.size:Int)=t.size:=by simp[IntKind.wrap,IntKind.bits,IntKind.signed];omega
  have z1:¬9223372036854775807<X.size+t.size:=by omega
  have hb0:=zag w #[.int .i64 3,.bool y,.int .u64 m,.string t,.int .i64 c] 43;have HE:=hid hb0;have k3:=hb0.cell 3;clear text hP hX hb0;go_enter Tryz.func35,Tryz.ntmps35;(go_wp2_with fail)
  go_region_with (go_at_call 33;refine(HP.out _).mono ?_;rintro r w1 ⟨rfl,hb⟩;have hb':Below (w.alloc (.cells #[.int .i64 3,.bool y,.int .u64 m,.string t,.int .i64 c] 43)).heap.size (w.alloc (.cells #[.int .i64 3,.bool y,.int .u64 m,.string t,.int .i64 c] 43)) w1:=⟨hb.os,hb.tape,hb.output,hb.size,hb.block⟩;have g3:=(HE.out.go hb').cell 3;have HB1:=hid (zab (HB.out _) hb');clear hb hb')
  all_goals
   go_wp2;go_ret2;exact⟨rfl,HB1.out⟩
 ·obtain⟨X,hXs,hP,hX⟩:=text 4 2 2 rfl rfl
  rw[hX];have HP:=hid hP;have hw:IntKind.u64.wrap (t.size:Int)=t.size:=by simp[IntKind.wrap,IntKind.bits,IntKind.signed];omega
  have z1:¬9223372036854775807<X.size+t.size:=by omega
  have hb0:=zag w #[.int .i64 4,.bool y,.int .u64 m,.string t,.int .i64 c] 43;have HE:=hid hb0;have k3:=hb0.cell 3;clear text hP hX hb0;go_enter Tryz.func35,Tryz.ntmps35;(go_wp2_with fail)
  go_region_with (go_at_call 33;refine(HP.out _).mono ?_;rintro r w1 ⟨rfl,hb⟩;have hb':Below (w.alloc (.cells #[.int .i64 4,.bool y,.int .u64 m,.string t,.int .i64 c] 43)).heap.size (w.alloc (.cells #[.int .i64 4,.bool y,.int .u64 m,.string t,.int .i64 c] 43)) w1:=⟨hb.os,hb.tape,hb.output,hb.size,hb.block⟩;have g3:=(HE.out.go hb').cell 3;have HB1:=hid (zab (HB.out _) hb');clear hb hb')
  all_goals
   go_wp2;go_ret2;exact⟨rfl,HB1.out⟩
end
section
open Go.RowKit
open Go.Lib
theorem zaos (x:Nat) (h:x<18446744073709551616):bits .and .u64 (x:Int) 255=((x%256:Nat):Int):=by
 have h1:(BitVec.ofInt 64 (x:Int)).toNat=x:=by
  rw[BitVec.ofInt_natCast,BitVec.toNat_ofNat];exact Nat.mod_eq_of_lt (by omega)
 have h2:(BitVec.ofInt 64 (255:Int)).toNat=255:=by decide
 show IntKind.u64.wrap ((BitVec.ofInt 64 (x:Int) &&& BitVec.ofInt 64 (255:Int)).toNat:Int)=_;rw[BitVec.toNat_and,h1,h2,show 255=2^8-1 by decide,Nat.and_two_pow_sub_one_eq_mod,zam _ (by omega) (by omega)]
theorem zanm (v n:Nat) (hv:v<18446744073709551616) (h1:1≤n) (h8:n≤8) (w:World) :
    Calls Tryz.prog 47 #[.int .u64 v,.int .i64 n] w fun e w'=>e= .returned (.string ⟨(bigB n v).toArray⟩)∧Below w.heap.size w w':=by
  have hmk:=zxa n (by omega) n rfl;have g1:((n:Int)<1)=False:=by simp only[eq_iff_iff,iff_false];omega
  have g2:((8:Int)<n)=False:=by simp only[eq_iff_iff,iff_false];omega
  have HN:Hid (At (w.alloc (.cells (Lib.byteCells (List.replicate n 0)).toArray 5)) w.heap.size 0 (zbe (rowB n 0 v))):=hid (by rw[zaa3];exact zaj2 w _);go_enter Tryz.func47,Tryz.ntmps47;go_wp2
  go_loopw [0,6] (fun x i wr=>∃k:Nat,k≤n∧i= .int .i64 ((n:Int)-1-k)∧x= .int .u64 ((v/256^k:Nat):Int)∧Hid (At wr w.heap.size 0 (zbe (rowB n k v))∧Below w.heap.size w wr)) (fun _ i _=>(RowKit.intOf i+1).toNat)
  case atStart=>exact⟨0,Nat.zero_le _,by simp,by simp,hid ⟨HN.out,(Below.refl _ _).alloc (Nat.le_refl _) _⟩⟩
  case round =>
    obtain⟨k,hk,rfl,rfl,HP⟩:=hrel;have hx:v/256^k<18446744073709551616:=Nat.lt_of_le_of_lt (Nat.div_le_self _ _) hv;by_cases hlt:k<n
    · have hc:∃u,wr.cell? ⟨w.heap.size,n-1-k,none⟩=some u∧wr.frozen? ⟨w.heap.size,n-1-k,none⟩=false:=by
        have hl:n-1-k<(zbe (rowB n k v)).length:=by rw[zf7,zq3 _ _ _ hk];omega
        have:=HP.out.1 (n-1-k) _ (List.getElem?_eq_getElem hl);rw[Nat.zero_add] at this;exact⟨_,this⟩
      obtain⟨u,hcell,hfroz⟩:=hc;obtain⟨j,hj⟩:∃j,n-1-k=j:=⟨_,rfl⟩
      rw[hj] at hcell hfroz;rw[show(n:Int)-1-k=(j:Int) by omega];obtain⟨y,hy⟩:∃y,v/256^k=y:=⟨_,rfl⟩
      rw[hy] at hx ⊢;have hand:=zaos y hx;have hw8:IntKind.u8.wrap ((y%256:Nat):Int)=((y%256:Nat):Int):=zgb _ (by omega) (by omega);have hdiv:Hid (((y:Int)/256)=((v/256^(k+1):Nat):Int)):=hid (by
        rw[Nat.pow_succ,← Nat.div_div_eq_div_mul,hy];omega)
      have HQ:Hid (At (wr.setCell ⟨w.heap.size,j,none⟩ (.int .u8 ((y%256:Nat):Int))) w.heap.size 0 (zbe (rowB n (k+1) v))∧Below w.heap.size w (wr.setCell ⟨w.heap.size,j,none⟩ (.int .u8 ((y%256:Nat):Int)))):=hid (by
        refine⟨?_,HP.out.2.setCell (by simp) _⟩;have:=HP.out.1.set (n-1-k) (by rw[zf7,zq3 _ _ _ hk];omega) (.int .u8 ((y%256:Nat):Int));rw[← zag6 y,← hy,zsn,zafa n k v hlt,zag6,hy,hj,Nat.zero_add] at this;exact this)
      obtain⟨z,hz⟩:∃z,y%256=z:=⟨_,rfl⟩
      rw[hz] at hand hw8 HQ;clear hy HP HN;go_wp2
      go_roundw
      case rel=>exact⟨k+1,by omega,by rw[← hj];go_num,by rw[hdiv.out],HQ⟩
      case measure=>simp[RowKit.intOf]
    · have hkn:k=n:=by omega
      subst hkn;rw[show(k:Int)-1-k= -1 by omega];have hcv:(convert 30 9 (.slice (some ⟨w.heap.size,0,none⟩) k k)).run Tryz.prog wr= .ok (.string ⟨(bigB k v).toArray⟩) wr:=by
        have:=HP.out.1;rw[zac3] at this;exact zaha k k (zbo k v) this
      go_wp2;go_ret;exact⟨rfl,HP.out.2⟩
end
section
open Go.RowKit
open Go.Lib
theorem zalx (a:Int):(wrap64 (a.tmod 8+8)).tmod 8=((a%8).toNat:Int):=by
 have h1:=Int.tmod_lt_of_pos a (show(0:Int)<8 by omega);have h2: -(8:Int)<a.tmod 8:=Int.lt_tmod_of_pos a (show(0:Int)<8 by omega);have h0:a.tmod 8=a%8∨a.tmod 8=a%8-8:=by
  rw[Int.tmod_eq_emod];split
  ·exact .inl (by omega)
  ·exact .inr rfl
 have hw:wrap64 (a.tmod 8+8)=a.tmod 8+8:=by unfold wrap64;omega
 rw[hw,Int.tmod_eq_emod_of_nonneg (by omega)];omega
theorem zaml {w:World} {g:Nat} {x:UInt8} {c:Int} (hc:c=((x.toNat:Nat):Int)) (h:w.heap[g]? = some (.cells #[.int .u8 c] 5 (0,0))) :
  (convert 30 9 (.slice (some ⟨g,0,none⟩) 1 1)).run Tryz.prog w= .ok (.string ⟨#[x]⟩) w:=by
 subst hc;exact zaet (w:=w) (g:=g) (l:=[x]) h 0 1 1 (by simp)
theorem zal1 (w:World) (x:Obj):(w.alloc x).heap[w.heap.size]? = some x:=by
 show(w.heap.push _)[_]? = _;rw[Array.getElem?_push,if_pos rfl]
theorem zalr (w:World) (x:UInt8) (c:Int) (hc:c=((x.toNat:Nat):Int)) :
  (convert 30 9 (.slice (some ⟨w.heap.size,0,none⟩) 1 1)).run Tryz.prog (w.alloc (.cells #[.int .u8 c] 5)).drew= .ok (.string ⟨#[x]⟩) (w.alloc (.cells #[.int .u8 c] 5)).drew:=zaml hc (zal1 w _)
theorem zal9 {w w1:World} {O:Obj} (b:Below (w.alloc O).drew.heap.size (w.alloc O).drew w1):Below w.heap.size w w1:=by
 have a:Below w.heap.size w (w.alloc O).drew:=zb5 ((Below.refl w.heap.size w).alloc (Nat.le_refl _) O) 1;exact a.trans (b.mono a.size)
theorem zama {w w1:World} (O:Obj) (b:Below w.drew.heap.size w.drew w1):Below w.heap.size w (w1.alloc O):=by
 have a:Below w.heap.size w w.drew:=zb5 (Below.refl w.heap.size w) 1;have c:=a.trans b;exact c.alloc c.size O
theorem zalu (w:World) (x:UInt8) (c:Int) (hc:c=((x.toNat:Nat):Int)) :
  (convert 30 9 (.slice (some ⟨w.heap.size,0,none⟩) 1 1)).run Tryz.prog (w.alloc (.cells #[.int .u8 c] 5))= .ok (.string ⟨#[x]⟩) (w.alloc (.cells #[.int .u8 c] 5)):=zaml hc (zal1 w _)
theorem zalw {w w2:World} (x:UInt8) (c:Int) (hc:c=((x.toNat:Nat):Int)) (hb:Below (w.alloc (.cells #[.int .u8 c] 5)).drew.heap.size (w.alloc (.cells #[.int .u8 c] 5)).drew w2) :
  (convert 30 9 (.slice (some ⟨w.heap.size,0,none⟩) 1 1)).run Tryz.prog w2= .ok (.string ⟨#[x]⟩) w2:=zaml hc ((hb.block _ (by show w.heap.size<(w.heap.push _).size;simp)).trans (zal1 w _))
theorem zaly (f n:Nat) (z:Int) (hz:z=n) (hf:f<18446744073709551616) (h1:1≤n) (h8:n≤8) (X:ByteArray) (h:X=⟨(bigB n f).toArray⟩) (w:World):Calls Tryz.prog 47 #[.int .u64 f,.int .i64 z] w fun e w'=>e= .returned (.string X)∧Below w.heap.size w w':=by
 subst h hz;exact zanm f n hf h1 h8 w
theorem zamp (n:Int) (v:Nat) (hv:v<24) (w:World) :
  Calls Tryz.prog 33 #[.int .i64 n,.int .u64 v] w fun e w'=>e= .returned (.string ⟨(zcd (n%8).toNat v).toArray⟩)∧Below w.heap.size w w':=by
 have ha:=zalx n;obtain⟨m,hm⟩:∃m,(n%8).toNat=m:=⟨_,rfl⟩
 have hm8:m<8:=by omega
 rw[hm] at ha ⊢;have hw1:IntKind.u8.wrap (m:Int)=(m:Int):=zgb _ (by omega) (by omega);have hw2:IntKind.u8.wrap ((m:Int)*32)=(m:Int)*32:=zgb _ (by omega) (by omega);have hw3:IntKind.u8.wrap (v:Int)=(v:Int):=zgb _ (by omega) (by omega);have hw4:IntKind.u8.wrap ((m:Int)*32+(v:Int))=(m:Int)*32+(v:Int):=zgb _ (by omega) (by omega);have hcv:=zalu w (UInt8.ofNat (m*32+v)) ((m:Int)*32+(v:Int)) (by simp;omega);have e:zcd m v=[UInt8.ofNat (m*32+v)]:=by simp[zcd,sizH,hv,bigB]
 rw[e];have hz:((v:Int)<24)=True:=by simp only[eq_iff_iff,iff_true];omega
 generalize (⟨#[UInt8.ofNat (m*32+v)]⟩:ByteArray)=X at *
 clear e hm;go_enter Tryz.func33,Tryz.ntmps33;go_wp2;go_ret;exact⟨rfl,(Below.refl _ _).alloc (Nat.le_refl _) _⟩
theorem zanx (n:Int) (v:Nat) (hv:v<18446744073709551616) (h24:24≤v) (hK:v<256) (w:World) :
  Calls Tryz.prog 33 #[.int .i64 n,.int .u64 v] w fun e w'=>e= .returned (.string ⟨(zcd (n%8).toNat v).toArray⟩)∧Below w.heap.size w w':=by
 have ha:=zalx n;obtain⟨m,hm⟩:∃m,(n%8).toNat=m:=⟨_,rfl⟩
 have hm8:m<8:=by omega
 rw[hm] at ha ⊢;have hw1:IntKind.u8.wrap (m:Int)=(m:Int):=zgb _ (by omega) (by omega);have hw2:IntKind.u8.wrap ((m:Int)*32)=(m:Int)*32:=zgb _ (by omega) (by omega);have hw4:IntKind.u8.wrap ((m:Int)*32+24)=(m:Int)*32+24:=zgb _ (by omega) (by omega);have hc:(m:Int)*32+24=(((UInt8.ofNat (m*32+24)).toNat:Nat):Int):=by simp;omega
 have hcv:=fun W=>zalu W (UInt8.ofNat (m*32+24)) ((m:Int)*32+24) hc
 have hcd:=zalr w (UInt8.ofNat (m*32+24)) ((m:Int)*32+24) hc;have HO:=hid (fun(W W2:World) hb=>zalw (w:=W) (w2:=W2) (UInt8.ofNat (m*32+24)) ((m:Int)*32+24) hc hb);have HB:=hid (fun W=>zaly v 1 1 rfl hv (by omega) (by omega) _ rfl W);have e:(⟨(zcd m v).toArray⟩:ByteArray)=(⟨#[UInt8.ofNat (m*32+24)]⟩:ByteArray)++⟨(bigB 1 v).toArray⟩:=by
  rw[show(⟨#[UInt8.ofNat (m*32+24)]⟩:ByteArray)=⟨[UInt8.ofNat (m*32+24)].toArray⟩ from rfl,zn8];simp[zcd,zaka v 0 hv h24 (by omega)]
 rw[e];have s2:(⟨(bigB 1 v).toArray⟩:ByteArray).size=1:=by rw[zo6,zbo]
 have s1:(⟨#[UInt8.ofNat (m*32+24)]⟩:ByteArray).size=1:=rfl;generalize (⟨#[UInt8.ofNat (m*32+24)]⟩:ByteArray)=X at *
 generalize (⟨(bigB 1 v).toArray⟩:ByteArray)=Y at *
 have hsum:(9223372036854775807<X.size+Y.size)=False:=by simp only[eq_iff_iff,iff_false];omega
 have hz0:((v:Int)<24)=False:=by simp only[eq_iff_iff,iff_false];omega
 have hz1:((v:Int)<256)=True:=by simp only[eq_iff_iff,iff_true];omega
 clear e hm hc hK;go_enter Tryz.func33,Tryz.ntmps33;(go_wp2_with fail)
 go_region_with ((go_at_call 47);(with_reducible refine(HB.out _).mono ?_);(rintro e w1 ⟨rfl,b1⟩);(first |(have hcx:=HO.out w w1 b1)|skip))
 all_goals
  go_wp2;go_ret;refine⟨rfl,?_⟩
  first
   | exact zal9 b1
   | exact zama _ b1
theorem zany (n:Int) (v:Nat) (hv:v<18446744073709551616) (h24:24≤v) (hK:256≤v∧v<65536) (w:World) :
  Calls Tryz.prog 33 #[.int .i64 n,.int .u64 v] w fun e w'=>e= .returned (.string ⟨(zcd (n%8).toNat v).toArray⟩)∧Below w.heap.size w w':=by
 have ha:=zalx n;obtain⟨m,hm⟩:∃m,(n%8).toNat=m:=⟨_,rfl⟩
 have hm8:m<8:=by omega
 rw[hm] at ha ⊢;have hw1:IntKind.u8.wrap (m:Int)=(m:Int):=zgb _ (by omega) (by omega);have hw2:IntKind.u8.wrap ((m:Int)*32)=(m:Int)*32:=zgb _ (by omega) (by omega);have hw4:IntKind.u8.wrap ((m:Int)*32+25)=(m:Int)*32+25:=zgb _ (by omega) (by omega);have hc:(m:Int)*32+25=(((UInt8.ofNat (m*32+25)).toNat:Nat):Int):=by simp;omega
 have hcv:=fun W=>zalu W (UInt8.ofNat (m*32+25)) ((m:Int)*32+25) hc
 have hcd:=zalr w (UInt8.ofNat (m*32+25)) ((m:Int)*32+25) hc;have HO:=hid (fun(W W2:World) hb=>zalw (w:=W) (w2:=W2) (UInt8.ofNat (m*32+25)) ((m:Int)*32+25) hc hb);have HB:=hid (fun W=>zaly v 2 2 rfl hv (by omega) (by omega) _ rfl W);have e:(⟨(zcd m v).toArray⟩:ByteArray)=(⟨#[UInt8.ofNat (m*32+25)]⟩:ByteArray)++⟨(bigB 2 v).toArray⟩:=by
  rw[show(⟨#[UInt8.ofNat (m*32+25)]⟩:ByteArray)=⟨[UInt8.ofNat (m*32+25)].toArray⟩ from rfl,zn8];simp[zcd,zaka v 1 hv h24 (by omega)]
 rw[e];have s2:(⟨(bigB 2 v).toArray⟩:ByteArray).size=2:=by rw[zo6,zbo]
 have s1:(⟨#[UInt8.ofNat (m*32+25)]⟩:ByteArray).size=1:=rfl;generalize (⟨#[UInt8.ofNat (m*32+25)]⟩:ByteArray)=X at *
 generalize (⟨(bigB 2 v).toArray⟩:ByteArray)=Y at *
 have hsum:(9223372036854775807<X.size+Y.size)=False:=by simp only[eq_iff_iff,iff_false];omega
 have hz0:((v:Int)<24)=False:=by simp only[eq_iff_iff,iff_false];omega
 have hz1:((v:Int)<256)=False:=by simp only[eq_iff_iff,iff_false];omega
 have hz2:((v:Int)<65536)=True:=by simp only[eq_iff_iff,iff_true];omega
 clear e hm hc hK;go_enter Tryz.func33,Tryz.ntmps33;(go_wp2_with fail)
 go_region_with ((go_at_call 47);(with_reducible refine(HB.out _).mono ?_);(rintro e w1 ⟨rfl,b1⟩);(first |(have hcx:=HO.out w w1 b1)|skip))
 all_goals
  go_wp2;go_ret;refine⟨rfl,?_⟩
  first
   | exact zal9 b1
   | exact zama _ b1
theorem zanz (n:Int) (v:Nat) (hv:v<18446744073709551616) (h24:24≤v) (hK:65536≤v∧v<4294967296) (w:World) :
  Calls Tryz.prog 33 #[.int .i64 n,.int .u64 v] w fun e w'=>e= .returned (.string ⟨(zcd (n%8).toNat v).toArray⟩)∧Below w.heap.size w w':=by
 have ha:=zalx n;obtain⟨m,hm⟩:∃m,(n%8).toNat=m:=⟨_,rfl⟩
 have hm8:m<8:=by omega
 rw[hm] at ha ⊢;have hw1:IntKind.u8.wrap (m:Int)=(m:Int):=zgb _ (by omega) (by omega);have hw2:IntKind.u8.wrap ((m:Int)*32)=(m:Int)*32:=zgb _ (by omega) (by omega);have hw4:IntKind.u8.wrap ((m:Int)*32+26)=(m:Int)*32+26:=zgb _ (by omega) (by omega);have hc:(m:Int)*32+26=(((UInt8.ofNat (m*32+26)).toNat:Nat):Int):=by simp;omega
 have hcv:=fun W=>zalu W (UInt8.ofNat (m*32+26)) ((m:Int)*32+26) hc
 have hcd:=zalr w (UInt8.ofNat (m*32+26)) ((m:Int)*32+26) hc;have HO:=hid (fun(W W2:World) hb=>zalw (w:=W) (w2:=W2) (UInt8.ofNat (m*32+26)) ((m:Int)*32+26) hc hb);have HB:=hid (fun W=>zaly v 4 4 rfl hv (by omega) (by omega) _ rfl W);have e:(⟨(zcd m v).toArray⟩:ByteArray)=(⟨#[UInt8.ofNat (m*32+26)]⟩:ByteArray)++⟨(bigB 4 v).toArray⟩:=by
  rw[show(⟨#[UInt8.ofNat (m*32+26)]⟩:ByteArray)=⟨[UInt8.ofNat (m*32+26)].toArray⟩ from rfl,zn8];simp[zcd,zaka v 2 hv h24 (by omega)]
 rw[e];have s2:(⟨(bigB 4 v).toArray⟩:ByteArray).size=4:=by rw[zo6,zbo]
 have s1:(⟨#[UInt8.ofNat (m*32+26)]⟩:ByteArray).size=1:=rfl;generalize (⟨#[UInt8.ofNat (m*32+26)]⟩:ByteArray)=X at *
 generalize (⟨(bigB 4 v).toArray⟩:ByteArray)=Y at *
 have hsum:(9223372036854775807<X.size+Y.size)=False:=by simp only[eq_iff_iff,iff_false];omega
 have hz0:((v:Int)<24)=False:=by simp only[eq_iff_iff,iff_false];omega
 have hz1:((v:Int)<256)=False:=by simp only[eq_iff_iff,iff_false];omega
 have hz2:((v:Int)<65536)=False:=by simp only[eq_iff_iff,iff_false];omega
 have hz3:((v:Int)<4294967296)=True:=by simp only[eq_iff_iff,iff_true];omega
 clear e hm hc hK;go_enter Tryz.func33,Tryz.ntmps33;(go_wp2_with fail)
 go_region_with ((go_at_call 47);(with_reducible refine(HB.out _).mono ?_);(rintro e w1 ⟨rfl,b1⟩);(first |(have hcx:=HO.out w w1 b1)|skip))
 all_goals
  go_wp2;go_ret;refine⟨rfl,?_⟩
  first
   | exact zal9 b1
   | exact zama _ b1
theorem zan0 (n:Int) (v:Nat) (hv:v<18446744073709551616) (h24:24≤v) (hK:4294967296≤v) (w:World) :
  Calls Tryz.prog 33 #[.int .i64 n,.int .u64 v] w fun e w'=>e= .returned (.string ⟨(zcd (n%8).toNat v).toArray⟩)∧Below w.heap.size w w':=by
 have ha:=zalx n;obtain⟨m,hm⟩:∃m,(n%8).toNat=m:=⟨_,rfl⟩
 have hm8:m<8:=by omega
 rw[hm] at ha ⊢;have hw1:IntKind.u8.wrap (m:Int)=(m:Int):=zgb _ (by omega) (by omega);have hw2:IntKind.u8.wrap ((m:Int)*32)=(m:Int)*32:=zgb _ (by omega) (by omega);have hw4:IntKind.u8.wrap ((m:Int)*32+27)=(m:Int)*32+27:=zgb _ (by omega) (by omega);have hc:(m:Int)*32+27=(((UInt8.ofNat (m*32+27)).toNat:Nat):Int):=by simp;omega
 have hcv:=fun W=>zalu W (UInt8.ofNat (m*32+27)) ((m:Int)*32+27) hc
 have hcd:=zalr w (UInt8.ofNat (m*32+27)) ((m:Int)*32+27) hc;have HO:=hid (fun(W W2:World) hb=>zalw (w:=W) (w2:=W2) (UInt8.ofNat (m*32+27)) ((m:Int)*32+27) hc hb);have HB:=hid (fun W=>zaly v 8 8 rfl hv (by omega) (by omega) _ rfl W);have e:(⟨(zcd m v).toArray⟩:ByteArray)=(⟨#[UInt8.ofNat (m*32+27)]⟩:ByteArray)++⟨(bigB 8 v).toArray⟩:=by
  rw[show(⟨#[UInt8.ofNat (m*32+27)]⟩:ByteArray)=⟨[UInt8.ofNat (m*32+27)].toArray⟩ from rfl,zn8];simp[zcd,zaka v 3 hv h24 (by omega)]
 rw[e];have s2:(⟨(bigB 8 v).toArray⟩:ByteArray).size=8:=by rw[zo6,zbo]
 have s1:(⟨#[UInt8.ofNat (m*32+27)]⟩:ByteArray).size=1:=rfl;generalize (⟨#[UInt8.ofNat (m*32+27)]⟩:ByteArray)=X at *
 generalize (⟨(bigB 8 v).toArray⟩:ByteArray)=Y at *
 have hsum:(9223372036854775807<X.size+Y.size)=False:=by simp only[eq_iff_iff,iff_false];omega
 have hz0:((v:Int)<24)=False:=by simp only[eq_iff_iff,iff_false];omega
 have hz1:((v:Int)<256)=False:=by simp only[eq_iff_iff,iff_false];omega
 have hz2:((v:Int)<65536)=False:=by simp only[eq_iff_iff,iff_false];omega
 have hz3:((v:Int)<4294967296)=False:=by simp only[eq_iff_iff,iff_false];omega
 clear e hm hc hK;go_enter Tryz.func33,Tryz.ntmps33;(go_wp2_with fail)
 go_region_with ((go_at_call 47);(with_reducible refine(HB.out _).mono ?_);(rintro e w1 ⟨rfl,b1⟩);(first |(have hcx:=HO.out w w1 b1)|skip))
 all_goals
  go_wp2;go_ret;refine⟨rfl,?_⟩
  first
   | exact zal9 b1
   | exact zama _ b1
theorem zanb (n:Int) (v:Nat) (hv:v<18446744073709551616) (w:World) :
  Calls Tryz.prog 33 #[.int .i64 n,.int .u64 v] w fun e w'=>e= .returned (.string ⟨(zcd (n%8).toNat v).toArray⟩)∧Below w.heap.size w w':=by
 by_cases h:v<24
 ·exact zamp n v h w
 ·obtain⟨K,hK⟩:=zae5 v
  rcases hK with hK|hK|hK|hK
  ·exact zanx n v hv (by omega) hK.2 w
  ·exact zany n v hv (by omega) hK.2 w
  ·exact zanz n v hv (by omega) hK.2 w
  ·exact zan0 n v hv (by omega) hK.2 w
end
section
open Go.Lib
def zaln (D:Nat):Pm→List UInt8→Pm×List Ev
 | s,[]=>(s,[])
 | s,b::t=>((zaln D (zcj D s b).1 t).1,(zcj D s b).2++(zaln D (zcj D s b).1 t).2)
theorem zamg (D:Nat) (s:Pm) (a b:List UInt8):zaln D s (a++b)=((zaln D (zaln D s a).1 b).1,(zaln D s a).2++(zaln D (zaln D s a).1 b).2):=by
 induction a generalizing s with
 | nil=>simp[zaln]
 | cons x t ih=>simp only[List.cons_append,zaln,ih,List.append_assoc]
end
section
open Go.Lib
def zana (s:List Bx) (b:Nat):Pm×List Ev :=
 if b<128 then za1 (putC s (za5 false b))
 else if b<144 then za1 (cntP s true (b-128))
 else if b<160 then za1 (cntP s false (b-144))
 else if b<192 then za1 (lenP s true (b-160))
 else if b=192 then za1 (putC s zcy)
 else if b<196 then za1 (putC s (zbt (decide (b=195))))
 else if b<199 then(.num s 2 (2^(b-196)) (2^(b-196)) 0,[])
 else if b<208 then(.num s 0 (2^(b-204)) (2^(b-204)) 0,[])
 else if b<212 then(.num s 1 (2^(b-208)) (2^(b-208)) 0,[])
 else if b<220 then(.num s 3 (2^(b-217)) (2^(b-217)) 0,[])
 else if b<222 then(.num s 4 (2^(b-219)) (2^(b-219)) 0,[])
 else if b<224 then(.num s 5 (2^(b-221)) (2^(b-221)) 0,[])
 else za1 (putC s (za5 true (255-b)))
theorem zal0 {D:Nat} {s:List Bx} {b:Nat} (h1:b≠193) (h2:keyB s=true→(160≤b∧b≤191)∨(217≤b∧b≤219)) (h3:¬((199≤b∧b≤201)∨(212≤b∧b≤216))) (h4:¬(b=202∨b=203)) (h5:((128≤b∧b≤159)∨(220≤b∧b≤223))→s.length<D):zjo D s false b=zana s b:=by
 unfold zjo zana;rw[if_neg (by rintro (h|h);cases h;exact h1 h),if_neg (fun h=>absurd h.2 (by unfold zabd;rw[decide_eq_false_iff_not];exact fun hn=>hn (h2 h.1))),if_neg (by unfold extP;rw[decide_eq_true_eq];exact h3),if_neg h4,if_neg (fun h=>by
  have h6:=h.1;unfold zacz at h6;rw[decide_eq_true_eq] at h6;have:=h5 h6;have:=h.2;omega)]
theorem zame (D:Nat) (s:List Bx) (k w:Nat):∀(l:List UInt8) (a:Nat),l≠[]→zaln D (.num s k w l.length a) l=za1 (hedP s k w (valB a l))
  | [],_,h=>absurd rfl h
  | [b],a,_=>by
    have h1:zcj D (.num s k w [b].length a) b=za1 (hedP s k w (a*256+b.toNat)):=by
      simp only[zcj];rw[if_pos (by rfl)]
    rw[zaln,h1];simp only[zaln,List.append_nil,valB]
  | b :: c::t,a,_=>by
    have h1:zcj D (.num s k w (b::c::t).length a) b=(.num s k w (c::t).length (a*256+b.toNat),[]):=by
      simp only[zcj];rw[if_neg (by simp)];rfl
    rw[zaln,h1];simp only[List.nil_append];rw[zame D s k w (c::t) _ (by simp)];simp only[valB]
theorem zalq {D:Nat} {s:List Bx} {k w b0 v:Nat} (hb:b0<256) (hw:0<w) (h:zjo D s false b0=(.num s k w w 0,[])):zaln D (.c (.item s false)) (UInt8.ofNat b0::bigB w v)=za1 (hedP s k w (v%256^w)):=by
 have h1:zcj D (.c (.item s false)) (UInt8.ofNat b0)=(.num s k w w 0,[]):=by
  simp only[zcj];rw[zalz _ hb,h]
 rw[zaln,h1];simp only[List.nil_append];have h2:=zame D s k w (bigB w v) 0 (by intro h;have:=congrArg List.length h;rw[zbo] at this;simp at this;omega);rw[zbo,zamx] at h2;rw[h2]
theorem zamq {D:Nat} {s:List Bx} {b0:Nat} {r:Pm×List Ev} (hb:b0<256) (h:zjo D s false b0=r):zaln D (.c (.item s false)) [UInt8.ofNat b0]=r:=by
 have h1:zcj D (.c (.item s false)) (UInt8.ofNat b0)=r:=by
  simp only[zcj];rw[zalz _ hb,h]
 rw[zaln,h1];simp only[zaln,List.append_nil]
theorem zal4 {s:List Bx} {w v:Nat} (m:Bool):hedP s (if m=true then 3 else 2) w v=lenP s m v:=by
 unfold hedP;cases m
 ·rw[if_neg (by decide),if_neg (by decide),if_pos (by decide)]
 ·rw[if_neg (by decide),if_neg (by decide),if_neg (by decide),if_pos (by decide)]
theorem zam2 {D:Nat} {s:List Bx} {m:Bool} {n:Nat} (hk:keyB s=true→m=true) (hn:n<4294967296):zaln D (.c (.item s false)) (txPk m n)=za1 (lenP s m n):=by
  unfold txPk zjs;cases m with
  | true =>
    have first:∀b:Nat,(160≤b∧b<192)∨(217≤b∧b≤219)→zjo D s false b=zana s b:=fun b hb=>zal0 (by omega) (fun _=>by omega) (by omega) (by omega) (by omega)
    rw[if_pos rfl];split
    · refine zamq (by omega) ?_
      rw[first _ (by omega)];unfold zana;rw[if_neg (by omega),if_neg (by omega),if_neg (by omega),if_pos (by omega),show 160+n-160=n by omega]
    split
    · rw[zalq (k:=3) (w:=1) (by decide) (by decide) (by rw[first _ (by decide)];rfl),Nat.mod_eq_of_lt (by omega)]
      exact congrArg za1 (zal4 true)
    split
    · rw[zalq (k:=3) (w:=2) (by decide) (by decide) (by rw[first _ (by decide)];rfl),Nat.mod_eq_of_lt (by omega)]
      exact congrArg za1 (zal4 true)
    · rw[zalq (k:=3) (w:=4) (by decide) (by decide) (by rw[first _ (by decide)];rfl),Nat.mod_eq_of_lt (by omega)]
      exact congrArg za1 (zal4 true)
  | false =>
    have first:∀b:Nat,(196≤b∧b<199)→zjo D s false b=zana s b:=fun b hb=>zal0 (by omega) (fun h=>absurd (hk h) (by decide)) (by omega) (by omega) (by omega)
    rw[if_neg (by decide)];split
    · rw[zalq (k:=2) (w:=1) (by decide) (by decide) (by rw[first _ (by decide)];rfl),Nat.mod_eq_of_lt (by omega)]
      exact congrArg za1 (zal4 false)
    split
    · rw[zalq (k:=2) (w:=2) (by decide) (by decide) (by rw[first _ (by decide)];rfl),Nat.mod_eq_of_lt (by omega)]
      exact congrArg za1 (zal4 false)
    · rw[zalq (k:=2) (w:=4) (by decide) (by decide) (by rw[first _ (by decide)];rfl),Nat.mod_eq_of_lt (by omega)]
      exact congrArg za1 (zal4 false)
theorem zal7 (D:Nat) (s:List Bx) (m:Bool):∀(l t:List UInt8) (u:Option (Nat×Nat×Nat)),l≠[]→(m=true→zch (runS u l)=true)→zaln D (.c (.text s m l.length t u)) l=za1 (putC s (zby m (t++l)))
  | [],_,_,h,_=>absurd rfl h
  | b :: l,t,u,_,hw=>by
    have hn:¬(m=true∧zbq m u b=none):=by
      rintro ⟨rfl,h⟩;have:=hw rfl;simp only[zbq,if_true] at h;rw[ze2,h,zalm] at this;cases this
    cases l with
    | nil =>
      have h2:¬(m=true∧zch (zbq m u b)=false):=by
        rintro ⟨rfl,h⟩;have:=hw rfl;simp only[zbq,if_true] at h;rw[ze2,zami,h] at this;cases this
      have h1:zcj D (.c (.text s m [b].length t u)) b=za1 (putC s (zby m (t++[b]))):=by
        simp only[zcj,za7];rw[if_neg hn,if_pos (by simp),if_neg h2]
      rw[zaln,h1];simp only[zaln,List.append_nil]
    | cons c l =>
      have h1:zcj D (.c (.text s m (b::c::l).length t u)) b=(.c (.text s m (c::l).length (t++[b]) (zbq m u b)),[]):=by
        simp only[zcj,za7];rw[if_neg hn,if_neg (by simp)];rfl
      rw[zaln,h1];simp only[List.nil_append];rw[zal7 D s m (c::l) (t++[b]) (zbq m u b) (by simp) (by rintro rfl;have:=hw rfl;rw[ze2] at this;exact this)];simp
theorem zanp (D:Nat) (s:List Bx) (m:Bool) (l:List UInt8) (hk:keyB s=true→m=true) (hl:l.length≤200) (hw:m=true→zch (runS st0 l)=true):zaln D (.c (.item s false)) (txPk m l.length++l)=za1 (putC s (zby m l)):=by
 rw[zamg,zam2 hk (by omega)];unfold lenP;rw[if_neg (by omega)];by_cases hn:l=[]
 ·subst hn
  rw[if_pos (by rfl)];simp only[zaln,List.append_nil]
 ·have hlen:l.length≠0:=by simpa using hn
  rw[if_neg hlen];simp only[za1,List.nil_append];rw[zal7 D s m l [] st0 hn hw];rfl
end
section
open Go.Lib
def zalt (D:Nat):Rs→List UInt8→Rs×List Ev
 | r,[]=>(r,[])
 | r,b::l=>((zalt D (zaf D r b).1 l).1,(zaf D r b).2++(zalt D (zaf D r b).1 l).2)
def zals (D:Nat) (r:Rs) (b:List UInt8):List Ev×Nat:=((zalt D r b).2++(zcz D (zalt D r b).1).1,(zcz D (zalt D r b).1).2)
theorem zang (D:Nat):∀(l:List UInt8) (s:Ci),zalt D (.cb s) l=(.cb (zalo D s l).1,(zalo D s l).2)
 | [],s=>rfl
 | b::l,s=>by simp only[zalt,zalo,zaf,zang D l]
theorem zanh (D:Nat):∀(l:List UInt8) (s:Pm),zalt D (.pk s) l=(.pk (zaln D s l).1,(zaln D s l).2)
 | [],s=>rfl
 | b::l,s=>by simp only[zalt,zaln,zaf,zanh D l]
theorem zanq {D:Nat} {r:Rs} (h:zbz r≠0):(∀b,zaf D r b=(r,[]))∧zcz D r=([],zbz r):=by
  cases r with
  | js s =>
    obtain⟨lx,p⟩:=s;cases p with
    | at_ st dn=>exact absurd rfl h
    | bad e=>exact⟨fun b=>rfl,rfl⟩
  | cb s =>
    cases s with
    | bad e=>exact⟨fun b=>rfl,rfl⟩
    | _=>exact absurd rfl h
  | pk s =>
    cases s with
    | num _ _ _ _ _=>exact absurd rfl h
    | c x =>
      cases x with
      | bad e=>exact⟨fun b=>rfl,rfl⟩
      | _=>exact absurd rfl h
theorem zani {D:Nat} {r:Rs} (h:zbz r≠0):∀l,zals D r l=([],zbz r):=by
 have hr:∀l,zalt D r l=(r,[]):=by
  intro l
  induction l with
  | nil=>rfl
  | cons b l ih=>simp only[zalt,(zanq (D:=D) h).1 b,ih,List.append_nil]
 intro l;unfold zals;rw[hr l];simp only[(zanq (D:=D) h).2,List.append_nil]
theorem zalv (lim:Nat):∀(L:List Ev) (g:Option Gs) (q:Ws) (K:List Ev) (told:Nat),za3 lim g q (L++K) told =
    if(za3 lim g q L 0).1.2≠0 then za3 lim g q L 0 else(((za3 lim g q L 0).1.1++(za3 lim (za3 lim g q L 0).2.1 (za3 lim g q L 0).2.2 K told).1.1,(za3 lim (za3 lim g q L 0).2.1 (za3 lim g q L 0).2.2 K told).1.2),(za3 lim (za3 lim g q L 0).2.1 (za3 lim g q L 0).2.2 K told).2)
  | [],g,q,K,told=>by simp[za3]
  | e :: L,g,q,K,told=>by
    have c1:∀(M:List Ev) (t:Nat),za3 lim g q (e::M) t=if(zbu lim g q e).1.2≠0 then zbu lim g q e else(((zbu lim g q e).1.1++(za3 lim (zbu lim g q e).2.1 (zbu lim g q e).2.2 M t).1.1,(za3 lim (zbu lim g q e).2.1 (zbu lim g q e).2.2 M t).1.2),(za3 lim (zbu lim g q e).2.1 (zbu lim g q e).2.2 M t).2):=fun M t=>rfl
    have a:=c1 (L++K) told;have b:=c1 L 0;rw[List.cons_append];by_cases h:(zbu lim g q e).1.2≠0
    · rw[if_pos h] at a b
      simp only[a,b,if_pos h]
    · rw[if_neg h,zalv lim L] at a
      rw[if_neg h] at b;simp only[a,b];generalize za3 lim (zbu lim g q e).2.1 (zbu lim g q e).2.2 L 0=T;by_cases h2:T.1.2≠0
      · rw[if_pos h2,if_pos h2]
      · rw[if_neg h2,if_neg h2]
        simp only[List.append_assoc]
theorem zanf (lim:Nat) (L:List Ev) (g:Option Gs) (q:Ws) (told:Nat):za3 lim g q L told=if(za3 lim g q L 0).1.2≠0 then za3 lim g q L 0 else(((za3 lim g q L 0).1.1,told),(za3 lim g q L 0).2):=by
 have h:=zalv lim L g q [] told;rw[List.append_nil] at h;rw[h];split
 ·rfl
 ·simp[za3]
theorem zal3 (D lim:Nat):∀(l:List UInt8) (r:Rs) (g:Option Gs) (q:Ws),zbz r=0→zau D lim (.live r g q) l=(za3 lim g q (zals D r l).1 (zals D r l).2).1
  | [],r,g,q,_=>by simp[zau,zi4,zals,zalt]
  | b :: l,r,g,q,hr=>by
    have ha:zals D r (b::l)=((zaf D r b).2++(zals D (zaf D r b).1 l).1,(zals D (zaf D r b).1 l).2):=by
      simp only[zals,zalt,List.append_assoc]
    rw[ha];simp only;rw[zalv];have ht:=zanf lim (zaf D r b).2 g q (zbz (zaf D r b).1);have hs:zay D lim (.live r g q) b=if(za3 lim g q (zaf D r b).2 (zbz (zaf D r b).1)).1.2≠0 then(.over (za3 lim g q (zaf D r b).2 (zbz (zaf D r b).1)).1.2,(za3 lim g q (zaf D r b).2 (zbz (zaf D r b).1)).1)
      else(.live (zaf D r b).1 (za3 lim g q (zaf D r b).2 (zbz (zaf D r b).1)).2.1 (za3 lim g q (zaf D r b).2 (zbz (zaf D r b).1)).2.2,(za3 lim g q (zaf D r b).2 (zbz (zaf D r b).1)).1):=rfl
    have hb:zau D lim (.live r g q) (b::l)=if(zay D lim (.live r g q) b).2.2≠0 then(zay D lim (.live r g q) b).2 else((zay D lim (.live r g q) b).2.1++(zau D lim (zay D lim (.live r g q) b).1 l).1,(zau D lim (zay D lim (.live r g q) b).1 l).2):=rfl
    rw[hb];by_cases h0:(za3 lim g q (zaf D r b).2 0).1.2≠0
    · rw[if_pos h0] at ht
      simp only[ht] at hs;rw[if_pos h0] at hs;rw[if_pos h0];simp only[hs];rw[if_pos h0]
    · rw[if_neg h0] at ht
      simp only[ht] at hs;rw[if_neg h0];by_cases he:zbz (zaf D r b).1≠0
      · rw[if_pos he] at hs
        simp only[hs];rw[if_pos he,zani he];simp[za3]
      · rw[if_neg he] at hs
        simp only[hs];rw[if_neg he,zal3 D lim l _ _ _ (by simpa using he)]
theorem zanj (f:Int):zbz (rs0 f)=0:=by
 unfold rs0
 repeat' split
 all_goals rfl
end
section
open Go.RowKit
open Go.Lib
theorem zamy (pr:Bool→Nat→List UInt8):zau 2 9 (pp0 pr 1 3) [91,49,93]=([145,1],0):=by kernel_rfl
theorem zamo {w:World} (hP:PrintX w):Calls Tryz.prog 20 #[] w fun r w'=>r= .returned (.bool true)∧Below w.heap.size w w':=by
 obtain⟨pr,hP,_⟩:=hP;have HB:=hid (zi0 hP 1 3 0 2 9 (by decide) [91,49,93] (by decide));rw[zamy] at HB;have H1:=hid (fun W=>zee 1 1 1 0 0 W);have H2:=hid (fun W=>zee 0 0 0 0 0 W);rw[decide_eq_true (by decide)] at H1;rw[decide_eq_false (by decide)] at H2;unfold suV at HB H1 H2;clear hP;go_enter Tryz.func20,Tryz.ntmps20;(go_wp2_with fail);refine HB.out.mono ?_;rintro r w1 ⟨rfl,b1⟩;have B1:=hid b1;clear b1;(go_wp2_with fail);refine(H1.out _).mono ?_;rintro r w2 ⟨rfl,b2⟩;have B2:=hid (zab B1.out b2);clear b2;(go_wp2_with fail);refine(H2.out _).mono ?_;rintro r w3 ⟨rfl,b3⟩;have B3:=hid (zab B2.out b3);clear b3;go_wp2;go_ret;exact⟨rfl,B3.out⟩
end
section
open Go.RowKit
open Go.Lib
def oneT (t:Int) (e:Ev):List UInt8:=if t=1 then outB e else if t=2 then zbl [] e else zcb e
theorem zanv (m:Bool) (l:List UInt8):mayE (zby m l):=⟨by cases m <;>simp[zby],by cases m <;>simp[zby],fun h=>by cases m <;>simp[zby] at h⟩
theorem zamc {t:Int} (pr:Bool→Nat→List UInt8) (m:Bool) (l:List UInt8):∃q,zbk (ws0 pr t) (zby m l)=((oneT t (zby m l),0),q):=by
 have hm:=zanv m l;unfold ws0 oneT;split
 ·refine⟨Ws.js pr (zbb pr ⟨[],false⟩ (zby m l)).2,?_⟩
  show((zbb pr ⟨[],false⟩ _).1,Ws.js pr (zbb pr ⟨[],false⟩ _).2)=_;rw[zuo pr hm (by cases m <;>simp[zby]) (by cases m <;>simp[zby]) (by simp[keyB])];have:zds pr (zby m l)=outB (zby m l):=by
   unfold zds;rw[if_neg (by cases m <;>simp[zby])]
  rw[this];rfl
 ·split
  ·refine⟨Ws.cb (zb0 ⟨[],false⟩ (zby m l)).2,?_⟩
   show((zb0 ⟨[],false⟩ _).1,Ws.cb (zb0 ⟨[],false⟩ _).2)=_;unfold zb0;rw[if_neg (by simp[hm]),if_neg (by cases m <;>simp[zby]),if_neg (by simp[fulT]),if_neg (by simp[keyB]),if_neg (by cases m <;>simp[zby])]
  ·refine⟨Ws.pk (zbp ⟨[],false⟩ (zby m l)).2,?_⟩
   show((zbp ⟨[],false⟩ _).1,Ws.pk (zbp ⟨[],false⟩ _).2)=_;unfold zbp;rw[if_neg (by simp[hm]),if_neg (by cases m <;>simp[zby]),if_neg (by simp[fulT]),if_neg (by simp[keyB]),if_neg (by cases m <;>simp[zby,zde]),if_neg (by cases m <;>simp[zby])]
theorem zanl {lim:Nat} {t:Int} (pr:Bool→Nat→List UInt8) (m:Bool) (l:List UInt8):(za3 lim (if t=3 then some gs0 else none) (ws0 pr t) [zby m l] 0).1=(oneT t (zby m l),0):=by
 obtain⟨q,hq⟩:=zamc (t:=t) pr m l;have hf:(zcm lim (if t=3 then some gs0 else none) (zby m l)).2=([zby m l],0):=by
  split
  ·show((zgh lim gs0 _).l,(zgh lim gs0 _).e)=_
   have:zgh lim gs0 (zby m l)=⟨gs0,[zby m l],0⟩:=if_pos ⟨rfl,fun h=>by have:=h.2;cases m <;>simp[zby] at this⟩;rw[this]
  ·rfl
 simp only[za3,zbu,hf,za6,hq];simp
theorem zal5 {D lim:Nat} {f t:Int} (pr:Bool→Nat→List UInt8) {b:List UInt8} (m:Bool) (l:List UInt8) (h:zals D (rs0 f) b=([zby m l],0)):zau D lim (pp0 pr f t) b=(oneT t (zby m l),0):=by
 unfold pp0;rw[zal3 D lim b _ _ _ (zanj f),h];exact zanl pr m l
theorem zamz (m:Bool) {l:List UInt8} (hl:l.length≤200) (hv:m=true→validD l=true):zals 1 (rs0 2) (zbl [] (zby m l))=([zby m l],0):=by
 have hw:zbl [] (zby m l)=zcd (majT m) l.length++l:=by cases m <;>simp[zbl,zby,majT]
 have hrun:zalo 1 ci0 (zcd (majT m) l.length++l)=(.item [] true,[zby m l]):=by
  have hr:=zamt (D:=1) (s:=[]) (m:=majT m) (v:=l.length) (zanu m) (by omega) (by simp[keyB]) (by cases m <;>simp[majT]);rw[zam3 m hl] at hr;rw[zamf];unfold ci0;rw[hr];by_cases h0:l.length=0
  ·obtain rfl:l=[]:=List.length_eq_zero_iff.1 h0
   cases m <;>rfl
  ·rw[if_neg h0]
   have:=zamh 1 [] m l [] st0 (fun h=>h0 (by rw[h];rfl)) (fun hm=>by rw[← zal2];exact hv hm);simp only[this,List.nil_append];rfl
 rw[hw];unfold zals;rw[show rs0 2= .cb ci0 from rfl,zang,hrun];rfl
theorem zam0 (m:Bool) {l:List UInt8} (hl:l.length≤200) (hv:m=true→validD l=true):zals 1 (rs0 3) (zcb (zby m l))=([zby m l],0):=by
 have hw:zcb (zby m l)=txPk m l.length++l:=by cases m <;>simp[zcb,zby]
 have hrun:=zanp 1 [] m l (by simp[keyB]) hl (fun hm=>by rw[← zal2];exact hv hm);rw[hw];unfold zals;rw[show rs0 3= .pk (.c (.item [] false)) from rfl,zanh,hrun];rfl
end
section
open Go.RowKit
open Go.Lib
theorem zaob {M B b:Nat} {w:World} (h:WrAt M B w b [] false) (e:Ev) (hk:e.k=0∨e.k=1∨e.k=2∨e.k=3∨e.k=4) (X:ByteArray) (hX:X.size≤100000)
  (hP:∀W,Calls Tryz.prog 35 #[.int .i64 1,evV e] W fun r w'=>r= .returned (.tuple #[.string X,.int .i64 0])∧Below W.heap.size W w') :
  Calls Tryz.prog 21 #[.pointer (some ⟨b,0,none⟩),evV e] w fun q w'=>q= .returned (.tuple #[.string X,.int .i64 0])∧WrAt M B w' b [] true∧Bew B b w w':=by
 obtain⟨a,cp,hA,hS⟩:=h.cells;have hBw:B≤w.heap.size:=h.low;have HM:Hid (∀X,Calls Tryz.prog 32 #[evV e] (w.alloc X) fun r w'=>r= .returned (.bool true)∧Below (w.alloc X).heap.size (w.alloc X) w'):=hid fun X=>by
  have:=zamn e (w.alloc X)
  rwa [decide_eq_true (show mayE e from⟨by omega,by omega,by omega⟩)] at this
 have HP:=hid hP;obtain⟨k,y,m,t,c⟩:=e;simp only[evV] at HM HP hk ⊢;have n7:(k==7)=false:=by rw[beq_eq_false_iff_ne];omega
 have n5:(k==5)=false:=by rw[beq_eq_false_iff_ne];omega
 have n6:(k==6)=false:=by rw[beq_eq_false_iff_ne];omega
 have HH:=hid h;have HS:=hid hS;have HA:=hid hA;have hA0:=(hA.alloc (by simp) (.cells #[.int .i64 k,.bool y,.int .u64 m,.string t,.int .i64 c] 43))
 obtain⟨⟨k0,_⟩,⟨k1,_⟩,⟨k2,_⟩⟩:=zalp hA0;simp only[List.length_nil] at k1 HA HS;clear h hA hS hA0 hP hk;go_enter Tryz.func21,Tryz.ntmps21;(go_wp2_with fail);refine(HM.out _).mono ?_;rintro e w1 ⟨rfl,hb1⟩;have E1:=hid ((zag w _ _).go hb1);obtain⟨⟨e0,e1,e2,e3,e4⟩,ef⟩:=E1.out.ev;have hbw1:=zab (zaa (Below.refl w.heap.size w) (.cells #[.int .i64 k,.bool y,.int .u64 m,.string t,.int .i64 c] 43)) hb1;have A1:=hid (HA.out.keep (hbw1.block b HH.out.lt));have HB1:=hid hbw1;clear hb1 ef k0 k1 k2 hbw1;obtain⟨⟨k0,q0⟩,⟨k1,q1⟩,⟨k2,q2⟩⟩:=zalp A1.out;go_wp2
 go_region_with (go_at_call 35;refine(HP.out _).mono ?_;rintro r w2 ⟨rfl,hb2⟩)
 all_goals
  have hW1:=HH.out.go HB1.out;have hb2':Below w1.heap.size w1 w2:=⟨hb2.os,hb2.tape,hb2.output,hb2.size,hb2.block⟩
  have A2:=A1.out.keep (hb2'.block b hW1.lt);have HW2:=hid (hW1.go hb2');have HBB:=hid (zab HB1.out hb2');have HA2:=hid A2;obtain⟨⟨p0,r0⟩,⟨p1,r1⟩,⟨p2,r2⟩⟩:=zalp A2;have hcat:(⟨#[]⟩:ByteArray)++X=X:=by apply ByteArray.ext;simp
  have HC:=hid hcat;have hE2:w2.cell? ⟨w.heap.size,0,none⟩=some (.int .i64 k):=(World.cell?_of_block (w:=w1) (a:=⟨w.heap.size,0,none⟩) (hb2'.block _ E1.out.lt)).trans e0;have hne:w.heap.size≠b:=by have:=HH.out.lt;omega
  have hE3:(w2.setCell ⟨b,2,none⟩ (.bool true)).cell? ⟨w.heap.size,0,none⟩=some (.int .i64 k):=by
   rw[World.cell?_setCell_other _ _ _ _ (fun e=>hne (congrArg Addr.block e).symm)];exact hE2
  clear A2 hb2 hb2' hW1 hcat e0 e1 e2 e3 e4 k0 k1 k2 q0 q1 q2 hE2;go_wp2;go_ret2;refine⟨by rw[HC.out];rfl,(HW2.out.fin true).1,?_⟩;exact(HBB.out.mono hBw).bew.trans (HW2.out.fin true).2
end
end Go.Proofs.YtpaciekgbhoncaaGreat
