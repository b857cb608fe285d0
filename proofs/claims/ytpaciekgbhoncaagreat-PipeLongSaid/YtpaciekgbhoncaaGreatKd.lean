/-
  Parts: RefPpl, PipOwL, PipLi.
-/
import Derived.Test.YtpaciekgbhoncaaGreatKa
import Derived.Test.YtpaciekgbhoncaaGreatKb
import Derived.Test.YtpaciekgbhoncaaGreatKc
import Derived.Test.YtpaciekgbhoncaaGreatHHeadRh
import Derived.Test.YtpaciekgbhoncaaGreatG2c
set_option maxRecDepth 100000
set_option maxHeartbeats 16000000
open Go.Lib (hid)
namespace Go.Proofs.YtpaciekgbhoncaaGreat
section
open Go.RowKit
open Go.Lib
theorem zapt (y:Bool) (m:Nat) (t:ByteArray) (c:Int) (h0:t.size<32) (w:World) :
  Calls Tryz.prog 35 #[.int .i64 3,evV ⟨3,y,m,t,c⟩] w fun e w'=>e= .returned (.tuple #[.string ⟨(txPk true t.size++t.data.toList).toArray⟩,.int .i64 0])∧Below w.heap.size w w':=by
 simp only[evV];have HW:=hid (fun x y=>((Below.refl w.heap.size w).alloc (Nat.le_refl _) x).alloc (by show w.heap.size≤(w.heap.push _).size;simp) y);have HWd:=hid (fun x y=>(zb5 ((Below.refl w.heap.size w).alloc (Nat.le_refl _) x) 1).alloc (by show w.heap.size≤(w.heap.push _).size;simp) y);have e:txPk true t.size=[UInt8.ofNat (160+t.size)]:=by
  unfold txPk;rw[if_pos rfl,if_pos h0]
 have hX:(⟨([UInt8.ofNat (160+t.size)]++t.data.toList).toArray⟩:ByteArray)=⟨#[UInt8.ofNat (160+t.size)]⟩++t:=by
  apply ByteArray.ext;simp
 rw[e,hX];have hc:((160:Int)+(t.size:Int))=(((UInt8.ofNat (160+t.size)).toNat:Nat):Int):=by simp;omega
 have hsz:(w.alloc (.cells #[.int .i64 3,.bool y,.int .u64 m,.string t,.int .i64 c] 43)).heap.size=w.heap.size+1:=by
  show(w.heap.push _).size=_;simp
 have hcv:=zalu (w.alloc (.cells #[.int .i64 3,.bool y,.int .u64 m,.string t,.int .i64 c] 43)) (UInt8.ofNat (160+t.size)) ((160:Int)+(t.size:Int)) hc;rw[hsz] at hcv;have hw:IntKind.u8.wrap (wrap64 (160+(t.size:Int)))=((160+t.size:Nat):Int):=by unfold wrap64;simp[IntKind.wrap,IntKind.bits,IntKind.signed];omega
 have hw1:wrap64 (160+(t.size:Int))=((160+t.size:Nat):Int):=by unfold wrap64;omega
 have hw2:IntKind.u8.wrap ((160+t.size:Nat):Int)=((160+t.size:Nat):Int):=by simp[IntKind.wrap,IntKind.bits,IntKind.signed];omega
 have z0:((t.size:Int)<32)=True:=by simp only[eq_iff_iff,iff_true];omega
 have s1:(⟨#[UInt8.ofNat (160+t.size)]⟩:ByteArray).size=1:=rfl;generalize (⟨#[UInt8.ofNat (160+t.size)]⟩:ByteArray)=X at *
 have z1:(9223372036854775807<X.size+t.size)=False:=by simp only[eq_iff_iff,iff_false];omega
 have hb0:=zag w #[.int .i64 3,.bool y,.int .u64 m,.string t,.int .i64 c] 43;have k3:=hb0.cell 3;clear e hc hX hsz hb0 s1;go_enter Tryz.func35,Tryz.ntmps35;go_wp2;go_ret2;exact⟨rfl,HW.out _ _⟩
end
section
open Go.RowKit
open Go.Lib
theorem zaom (y:Bool) (m:Nat) (t:ByteArray) (c:Int) (ht:t.size≤1000) (w:World) :
  Calls Tryz.prog 35 #[.int .i64 1,evV ⟨3,y,m,t,c⟩] w fun r w'=>r= .returned (.tuple #[.string ⟨(outW ⟨3,y,m,t,c⟩).toArray⟩,.int .i64 0])∧Below w.heap.size w w':=by
 simp only[evV];have HB:=hid (fun x=>(Below.refl w.heap.size w).alloc (Nat.le_refl _) x);have ho:outW ⟨3,y,m,t,c⟩=34::escW t.data.toList++[34]:=by simp[outW]
 rw[ho];have hWr:=fun W0=>zaon t ht W0
 obtain⟨X,hX⟩:∃X:ByteArray,(⟨(escW t.data.toList).toArray⟩:ByteArray)=X:=⟨_,rfl⟩
 have hXs:X.size≤6000:=by
  rw[← hX,zbd];have h1:=zht t.data.toList;rw[zb3] at h1;omega
 obtain⟨U,hU⟩:∃U,(⟨#[34]⟩:ByteArray)++X=U:=⟨_,rfl⟩
 obtain⟨Y,hY⟩:∃Y,U++(⟨#[34]⟩:ByteArray)=Y:=⟨_,rfl⟩
 have hUs:U.size≤6001:=by rw[← hU,ByteArray.size_append];show 1+X.size≤6001;omega
 have hYe:(⟨(34::escW t.data.toList++[34]).toArray⟩:ByteArray)=Y:=by
  rw[← hY,← hU,← hX];have e1:=zc8 [34] (escW t.data.toList);have e2:=zc8 ([34]++escW t.data.toList) [34];exact(by rw[show(⟨#[34]⟩:ByteArray)=⟨[(34:UInt8)].toArray⟩ from rfl,e1,e2];rfl)
 rw[hYe];rw[hX] at hWr;have HWr:=hid hWr;have z1:¬9223372036854775807<1+X.size:=by omega
 have z2:¬9223372036854775807<U.size+1:=by omega
 clear ho hWr hX hYe;go_enter Tryz.func35,Tryz.ntmps35;(go_wp2_with fail);refine(HWr.out _).mono ?_;rintro r w1 ⟨rfl,hb⟩;have HB1:=hid (zab (HB.out _) hb);clear hb;go_wp2;go_ret2;exact⟨rfl,HB1.out⟩
theorem zaod {t:Int} (ht:fmtP t) (l:List UInt8) (hl:l.length≤1000) (w:World) {n:Nat} (hn:w.heap.size=n) :
  Calls Tryz.prog 21 #[.pointer (some ⟨n,0,none⟩),evV (zby true l)] (w.alloc (.cells #[.int .i64 t,.slice none 0 0,.bool false] 47)) fun q w' =>
   q= .returned (.tuple #[.string ⟨(oneT t (zby true l)).toArray⟩,.int .i64 0])∧Below w.heap.size w w':=by
 refine zao1 ht true l hl (fun W=> ?_) w hn;have hz:=zans true l;have hs:(⟨l.toArray⟩:ByteArray).size≤1000:=by rw[zbd];exact hl
 rcases ht with rfl|rfl|rfl
 ·exact zaom false 0 ⟨l.toArray⟩ 0 hs W
 ·exact zano zanb (zby true l) (zamb true l) (by omega) W
 ·have hw:oneT 3 (zby true l)=txPk true l.length++l:=by simp[oneT,zcb,zby]
  rw[hw];by_cases h0:l.length<32
  ·have h:=zapt false 0 ⟨l.toArray⟩ 0 (by rw[zbd];exact h0) W
   rw[zbd] at h;exact h
  ·have h:=zapz false 0 ⟨l.toArray⟩ 0 hs (by rw[zbd];omega) W
   rw[zbd] at h;exact h
theorem zao8 (n:Nat):(escW (List.replicate n 0)).length=6*n:=by
  induction n with
  | zero=>rfl
  | succ n ih =>
    rw[List.replicate_succ,zi7,List.length_append,ih,show(escB 0).length=6 by decide];omega
theorem zaol {f t:Int} (hf:fmtP f) (lim:Nat) (pr:Bool→Nat→List UInt8) {n:Nat} (hn:n≤400):zau 1 lim (pp0 pr f t) (oneT f (zby true (List.replicate n 0)))=if n≤200 then(oneT t (zby true (List.replicate n 0)),0) else([],5):=by
 rcases hf with rfl|rfl|rfl
 ·exact zapd lim t pr n
 ·exact zapr lim t pr hn
 ·exact zaps lim t pr hn
theorem zape {f:Int} (hf:fmtP f) (t:Int) {lim:Nat} (hlim:lim≤2000) {pr:Bool→Nat→List UInt8} (hpr:∀y m,(pr y m).length≤100) {n:Nat} (hn:n≤400) :
  (oneT f (zby true (List.replicate n 0))).length≤3000∧MayP 1 lim (pp0 pr f t) (oneT f (zby true (List.replicate n 0))):=by
 rcases hf with rfl|rfl|rfl
 ·refine⟨?_,zapx hlim t hpr n⟩
  show(34::escW (List.replicate n 0)++[34]).length≤3000;have:=zao8 n;simp only[List.length_append,List.length_cons,List.length_nil];omega
 ·have h:(oneT 2 (zby true (List.replicate n 0))).length≤425:=by
   have hw:oneT 2 (zby true (List.replicate n 0))=zcd 3 n++List.replicate n 0:=by simp[oneT,zbl,zby]
   have:=zf6 3 n;rw[hw,List.length_append,List.length_replicate];omega
  exact⟨by omega,zz3 (by decide) hlim (zy4 1 lim pr 2 t) (zakg hpr 2 t) (by omega)⟩
 ·have h:(oneT 3 (zby true (List.replicate n 0))).length≤425:=by
   have hw:oneT 3 (zby true (List.replicate n 0))=txPk true n++List.replicate n 0:=by simp[oneT,zcb,zby]
   have h1:=zl2 true n;rw[hw,List.length_append,List.length_replicate];omega
  exact⟨by omega,zz3 (by decide) hlim (zy4 1 lim pr 3 t) (zakg hpr 3 t) (by omega)⟩
end
section
open Go.RowKit
open Go.Lib
theorem zapc (k f t:Int) (w:World) (hP:PrintX w) :
  Calls Tryz.prog 10 #[.int .i64 k,.int .i64 f,.int .i64 t] w fun r w'=>r= .returned (.bool true)∧Below w.heap.size w w':=by
 have HAL:=hid (fun(W:World) (k:Below w.heap.size w W)=>zamo (hP.up k));by_cases hc0:k<0
 ·clear hP
  go_enter Tryz.func10,Tryz.ntmps10;(go_wp2_with fail);refine(HAL.out _ (Below.refl _ _)).mono ?_;rintro r w1 ⟨rfl,b1⟩;have B1:=hid b1;clear b1;go_wp2;go_ret;exact⟨rfl,B1.out⟩
 by_cases hc1:400<k
 ·clear hP
  go_enter Tryz.func10,Tryz.ntmps10;(go_wp2_with fail);refine(HAL.out _ (Below.refl _ _)).mono ?_;rintro r w1 ⟨rfl,b1⟩;have B1:=hid b1;clear b1;go_wp2;go_ret;exact⟨rfl,B1.out⟩
 by_cases hc2:f<1
 ·clear hP
  go_enter Tryz.func10,Tryz.ntmps10;(go_wp2_with fail);refine(HAL.out _ (Below.refl _ _)).mono ?_;rintro r w1 ⟨rfl,b1⟩;have B1:=hid b1;clear b1;go_wp2;go_ret;exact⟨rfl,B1.out⟩
 by_cases hc3:3<f
 ·clear hP
  go_enter Tryz.func10,Tryz.ntmps10;(go_wp2_with fail);refine(HAL.out _ (Below.refl _ _)).mono ?_;rintro r w1 ⟨rfl,b1⟩;have B1:=hid b1;clear b1;go_wp2;go_ret;exact⟨rfl,B1.out⟩
 by_cases hc4:t<1
 ·clear hP
  go_enter Tryz.func10,Tryz.ntmps10;(go_wp2_with fail);refine(HAL.out _ (Below.refl _ _)).mono ?_;rintro r w1 ⟨rfl,b1⟩;have B1:=hid b1;clear b1;go_wp2;go_ret;exact⟨rfl,B1.out⟩
 by_cases hc5:3<t
 ·clear hP
  go_enter Tryz.func10,Tryz.ntmps10;(go_wp2_with fail);refine(HAL.out _ (Below.refl _ _)).mono ?_;rintro r w1 ⟨rfl,b1⟩;have B1:=hid b1;clear b1;go_wp2;go_ret;exact⟨rfl,B1.out⟩
 obtain⟨pr,hPr,_⟩:=hP;obtain⟨n,rfl⟩:∃n:Nat,k=n:=⟨k.toNat,by omega⟩
 have hn:n≤400:=by omega
 have hff:fmtP f:=by unfold fmtP;omega
 have htt:fmtP t:=by unfold fmtP;omega
 have hR:zbf f t (1:Nat) (0:Nat) 0:=⟨hff,htt,by unfold inP3;omega,by unfold inP3;omega,by unfold inP3;omega⟩
 obtain⟨Z,hZ⟩:∃Z:ByteArray,Z=⟨(List.replicate n (0:UInt8)).toArray⟩:=⟨_,rfl⟩
 have hev:evV (zby true (List.replicate n 0))= .agg #[.int .i64 3,.bool false,.int .u64 0,.string Z,.int .i64 0]:=by
  rw[hZ];simp[evV,zby]
 have hmk:=zxa n (by omega) (n:Int) rfl;have hcv:∀W:World,(convert 30 9 (.slice (some ⟨W.heap.size,0,none⟩) n n)).run Tryz.prog (W.alloc (.cells (Lib.byteCells (List.replicate n 0)).toArray 5))= .ok (.string Z) (W.alloc (.cells (Lib.byteCells (List.replicate n 0)).toArray 5)):=fun W=>zhu W (List.replicate n 0) _ n (by simp) rfl Z hZ
 have hbb:=zaol (t:=t) hff 0 pr hn;obtain⟨hm1,hm2⟩:=zape hff t (lim:=0) (by omega) hPr.size hn;have HS1:=hid (fun(W:World) (i:Nat) (hi:W.heap.size=i)=>zaod hff (List.replicate n 0) (by simp;omega) W hi);have HS2:=hid (fun(W:World) (i:Nat) (hi:W.heap.size=i)=>zaod htt (List.replicate n 0) (by simp;omega) W hi);have HB:=hid (fun(W:World) (k:Below w.heap.size w W)=>zps (hPr.up k) f t 0 1 0 hR _ hm1 hm2);rw[hbb] at HB;rw[hev] at HS1 HS2;generalize (⟨(oneT f (zby true (List.replicate n 0))).toArray⟩:ByteArray)=S at *
 obtain⟨C,hC⟩:∃C:Array Value,(Lib.byteCells (List.replicate n 0)).toArray=C:=⟨_,rfl⟩
 rw[hC] at hmk hcv;simp only[suV,show((1:Nat):Int)=1 from rfl,show((0:Nat):Int)=0 from rfl] at HB;by_cases h2:n≤200
 ·rw[if_pos h2] at HB
  simp only[show((0:Nat):Int)=0 from rfl] at HB;generalize (⟨(oneT t (zby true (List.replicate n 0))).toArray⟩:ByteArray)=T at *
  have h2':(200<(n:Int))=False:=by
   apply eq_false;omega
  clear hPr hR hev hbb hff htt hm1 hm2 hZ hC h2;go_enter Tryz.func10,Tryz.ntmps10;(go_wp2_with fail);refine(HAL.out _ (Below.refl _ _)).mono ?_;rintro r w1 ⟨rfl,b1⟩;have B1:=hid (zaa (zaa b1 (.cells C 5)) (.cells #[.int .i64 3,.bool false,.int .u64 0,.string Z,.int .i64 0] 43));have E1:Hid (Blk ((w1.alloc (.cells C 5)).alloc (.cells #[.int .i64 3,.bool false,.int .u64 0,.string Z,.int .i64 0] 43)) (w1.heap.size+1) #[.int .i64 3,.bool false,.int .u64 0,.string Z,.int .i64 0] 43):=hid (by
   have:=zag (w1.alloc (.cells C 5)) #[.int .i64 3,.bool false,.int .u64 0,.string Z,.int .i64 0] 43;simpa using this)
  clear b1;(go_wp2_with fail);refine(HS1.out ((w1.alloc (.cells C 5)).alloc (.cells #[.int .i64 3,.bool false,.int .u64 0,.string Z,.int .i64 0] 43)) _ (by simp)).mono ?_;rintro r w2 ⟨rfl,b2⟩;have B2:=hid (zab B1.out b2);have E2:=hid (E1.out.go b2);clear b2 E1;(go_wp2_with fail);refine(HB.out _ B2.out).mono ?_;rintro r w3 ⟨rfl,b3⟩;have B3:=hid (zab B2.out b3);obtain⟨c0,c1,c2,c3,c4⟩:=((E2.out.go b3).alloc (.cells #[.int .i64 t,.slice none 0 0,.bool false] 47)).ev.1;clear b3 E2;(go_wp2_with fail);refine(HS2.out w3 _ rfl).mono ?_;rintro r w4 ⟨rfl,b4⟩;have B4:=hid (zab B3.out b4);clear b4;go_wp2;go_ret;exact⟨rfl,B4.out⟩
 ·rw[if_neg h2] at HB
  simp only[show((5:Nat):Int)=5 from rfl] at HB;have h2':(200<(n:Int))=True:=by
   apply eq_true;omega
  clear hPr hR hev hbb hff htt hm1 hm2 hZ hC h2 HS2;go_enter Tryz.func10,Tryz.ntmps10;(go_wp2_with fail);refine(HAL.out _ (Below.refl _ _)).mono ?_;rintro r w1 ⟨rfl,b1⟩;have B1:=hid (zaa (zaa b1 (.cells C 5)) (.cells #[.int .i64 3,.bool false,.int .u64 0,.string Z,.int .i64 0] 43));have E1:Hid (Blk ((w1.alloc (.cells C 5)).alloc (.cells #[.int .i64 3,.bool false,.int .u64 0,.string Z,.int .i64 0] 43)) (w1.heap.size+1) #[.int .i64 3,.bool false,.int .u64 0,.string Z,.int .i64 0] 43):=hid (by
   have:=zag (w1.alloc (.cells C 5)) #[.int .i64 3,.bool false,.int .u64 0,.string Z,.int .i64 0] 43;simpa using this)
  clear b1;(go_wp2_with fail);refine(HS1.out ((w1.alloc (.cells C 5)).alloc (.cells #[.int .i64 3,.bool false,.int .u64 0,.string Z,.int .i64 0] 43)) _ (by simp)).mono ?_;rintro r w2 ⟨rfl,b2⟩;have B2:=hid (zab B1.out b2);have E2:=hid (E1.out.go b2);clear b2 E1;(go_wp2_with fail);refine(HB.out _ B2.out).mono ?_;rintro r w3 ⟨rfl,b3⟩;have B3:=hid (zab B2.out b3);clear b3 E2;go_wp2;go_ret;exact⟨rfl,B3.out⟩
end
end Go.Proofs.YtpaciekgbhoncaaGreat
