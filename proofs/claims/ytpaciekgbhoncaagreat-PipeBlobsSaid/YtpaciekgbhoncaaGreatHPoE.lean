/-
  Parts: PoE.
-/
import Derived.Test.YtpaciekgbhoncaaGreatHPoD
set_option maxRecDepth 100000
set_option maxHeartbeats 16000000
open Go.Lib (hid)
namespace Go.Proofs.YtpaciekgbhoncaaGreat
section
open Go.RowKit
open Go.Lib
theorem zzt (m:Nat) (hm:m<18446744073709551616):bits BinOp.xor IntKind.u64 IntKind.u64.max (m:Int)=((18446744073709551615-m:Nat):Int):=by
 have e1:BitVec.ofInt 64 IntKind.u64.max=BitVec.allOnes 64:=by decide
 have e2:(BitVec.ofInt 64 (m:Int)).toNat=m:=by
  rw[BitVec.toNat_ofInt];omega
 show IntKind.u64.wrap ((BitVec.ofInt 64 IntKind.u64.max ^^^ BitVec.ofInt 64 (m:Int)).toNat:Nat)=_;rw[e1,BitVec.allOnes_xor,BitVec.toNat_not,e2,IntKind.wrap_u64];omega
theorem zgn (f0 a v:Nat) (hf:f0≤300) (ha:a≤1) (hv:v<4294967296) (fa na:Int) (hfa:fa=((f0+a:Nat):Int)) (hna:na=((2^a:Nat):Int)) (T:ByteArray)
  (hT:T=⟨(if a=0∧v<256 then UInt8.ofNat f0::bigB 1 v else if v<65536 then UInt8.ofNat (f0+1)::bigB 2 v else UInt8.ofNat (f0+2)::bigB 4 v).toArray⟩) (w:World) :
  Calls Tryz.prog 299 #[.int .u64 fa,.int .i64 na,.int .u64 v,.int .i64 (Lib.bitLen v)] w fun e w'=>e= .returned (.string T)∧Below w.heap.size w w':=by
 subst hT;have l8:=zav v 8 (by omega);have l16:=zav v 16 (by omega);have l32:=zav v 32 (by omega);by_cases h1:a=0∧v<256
 ·rw[if_pos h1]
  obtain⟨rfl,h⟩:=h1;exact zc9 f0 0 0 v _ hf (by omega) (by omega) (fun i _ hi=>by omega) (by have:=l8.2 (by omega);omega) fa hfa na hna w
 ·rw[if_neg h1]
  by_cases h2:v<65536
  ·rw[if_pos h2]
   refine zc9 f0 a 1 v _ hf ha (by omega) (fun i hi hk=> ?_) (by have:=l16.2 (by omega);omega) fa hfa na hna w;obtain rfl:i=0:=by omega
   have:¬Lib.bitLen v≤8:=fun h=>by have:=l8.1 h;omega
   omega
  ·rw[if_neg h2]
   refine zc9 f0 a 2 v _ hf (by omega) (by omega) (fun i hi hk=> ?_) (by have:=l32.2 (by omega);omega) fa hfa na hna w;have h16:¬Lib.bitLen v≤16:=fun h=>by have:=l16.1 h;omega
   have hd:i=0∨i=1:=by omega
   rcases hd with rfl|rfl <;>omega
theorem zacy (v:Nat) (hv:v<18446744073709551616) (h0:128≤v) (w:World) :
    Calls Tryz.prog 299 #[.int .u64 204,.int .i64 1,.int .u64 v,.int .i64 (Lib.bitLen v)] w fun e w'=>e= .returned (.string ⟨(zdw false v).toArray⟩)∧Below w.heap.size w w':=by
  have l8:=zav v 8 hv;have l16:=zav v 16 hv;have l32:=zav v 32 hv;have l64:=zav v 64 hv;unfold zdw;rw[if_pos rfl,if_neg (by omega)];by_cases h1:v<256
  · rw[if_pos h1]
    exact zc9 204 0 0 v _ (by omega) (by omega) (by omega) (fun i _ hi=>by omega) (by have:=l8.2 (by omega);omega) _ rfl _ rfl w
  · rw [if_neg h1]
    have n8:¬Lib.bitLen v≤8:=fun h=>by have:=l8.1 h;omega
    by_cases h2:v<65536
    · rw[if_pos h2]
      refine zc9 204 0 1 v _ (by omega) (by omega) (by omega) (fun i _ hi=> ?_) (by have:=l16.2 (by omega);omega) _ rfl _ rfl w;obtain rfl:i=0:=by omega
      omega
    · rw[if_neg h2]
      have n16:¬Lib.bitLen v≤16:=fun h=>by have:=l16.1 h;omega
      by_cases h3:v<4294967296
      · rw[if_pos h3]
        refine zc9 204 0 2 v _ (by omega) (by omega) (by omega) (fun i _ hi=> ?_) (by have:=l32.2 (by omega);omega) _ rfl _ rfl w;have hd:i=0∨i=1:=by omega
        rcases hd with rfl|rfl <;>omega
      · rw[if_neg h3]
        have n32:¬Lib.bitLen v≤32:=fun h=>by have:=l32.1 h;omega
        refine zc9 204 0 3 v _ (by omega) (by omega) (by omega) (fun i _ hi=> ?_) (by have:=l64.2 (by omega);omega) _ rfl _ rfl w;have hd:i=0∨i=1∨i=2:=by omega
        rcases hd with rfl|rfl|rfl <;>omega
theorem zadg (v:Nat) (hv:v<9223372036854775808) (h0:32≤v) (u:Nat) (hu:u=18446744073709551615-v) (need:Int) (hn:need=((Lib.bitLen v+1:Nat):Int)) (w:World) :
    Calls Tryz.prog 299 #[.int .u64 208,.int .i64 1,.int .u64 u,.int .i64 need] w fun e w'=>e= .returned (.string ⟨(zdw true v).toArray⟩)∧Below w.heap.size w w':=by
  subst hn hu;have l7:=zav v 7 (by omega);have l15:=zav v 15 (by omega);have l31:=zav v 31 (by omega);have l63:=zav v 63 (by omega);unfold zdw;rw[if_neg (by decide),if_neg (by omega)];by_cases h1:v<128
  · rw[if_pos h1]
    exact zc9 208 0 0 _ _ (by omega) (by omega) (by omega) (fun i _ hi=>by omega) (by have:=l7.2 (by omega);omega) _ rfl _ rfl w
  · rw [if_neg h1]
    have n8:¬Lib.bitLen v≤7:=fun h=>by have:=l7.1 h;omega
    by_cases h2:v<32768
    · rw[if_pos h2]
      refine zc9 208 0 1 _ _ (by omega) (by omega) (by omega) (fun i _ hi=> ?_) (by have:=l15.2 (by omega);omega) _ rfl _ rfl w;obtain rfl:i=0:=by omega
      omega
    · rw[if_neg h2]
      have n16:¬Lib.bitLen v≤15:=fun h=>by have:=l15.1 h;omega
      by_cases h3:v<2147483648
      · rw[if_pos h3]
        refine zc9 208 0 2 _ _ (by omega) (by omega) (by omega) (fun i _ hi=> ?_) (by have:=l31.2 (by omega);omega) _ rfl _ rfl w;have hd:i=0∨i=1:=by omega
        rcases hd with rfl|rfl <;>omega
      · rw[if_neg h3]
        have n32:¬Lib.bitLen v≤31:=fun h=>by have:=l31.1 h;omega
        refine zc9 208 0 3 _ _ (by omega) (by omega) (by omega) (fun i _ hi=> ?_) (by have:=l63.2 (by omega);omega) _ rfl _ rfl w;have hd:i=0∨i=1∨i=2:=by omega
        rcases hd with rfl|rfl|rfl <;>omega
theorem zhp (a b c v:Nat):(zjs a b c v).length≤5:=by
 unfold zjs;split
 ·simp[zbo]
 ·split <;>simp[zbo]
theorem zl2 (m:Bool) (v:Nat):(txPk m v).length≤9:=by
 unfold txPk;have h1:=zhp 217 218 219 v;have h2:=zhp 196 197 198 v;split
 ·split
  ·simp
  ·omega
 ·omega
theorem ztd (v:Nat) (hv:v<18446744073709551616) (w:World) :
  Calls Tryz.prog 292 #[.agg #[.int .u64 0,.int .u64 128,.int .u64 204,.int .i64 1],.int .u64 v] w fun e w'=>e= .returned (.string ⟨(zdw false v).toArray⟩)∧Below w.heap.size w w':=by
 by_cases h:v<128
 ·unfold zdw
  rw[if_pos rfl,if_pos h];exact zfe 0 128 204 1 v (by omega) (by omega) (by omega) v (by omega) w
 ·exact zep 0 128 204 1 v _ hv (by omega) rfl _ (fun W=>zacy v hv (by omega) W) w
theorem zn2 (m:Bool) (v:Nat) (hv:v<4294967296) (S B L N:Int) (h:(S,B,L,N)=if m=true then((160:Int),(32:Int),(217:Int),(1:Int)) else(0,0,196,1)) (w:World) :
  Calls Tryz.prog 292 #[.agg #[.int .u64 S,.int .u64 B,.int .u64 L,.int .i64 N],.int .u64 v] w fun e w'=>e= .returned (.string ⟨(txPk m v).toArray⟩)∧Below w.heap.size w w':=by
 cases m
 ·cases h
  refine zep 0 0 196 1 v _ (by omega) (by omega) rfl _ (fun W=>zgn 196 0 v (by omega) (by omega) hv 196 1 rfl rfl _ ?_ W) w;unfold txPk zjs;simp
 ·cases h
  by_cases hs:v<32
  ·unfold txPk
   rw[if_pos rfl,if_pos hs];exact zfe 160 32 217 1 v (by omega) (by omega) (by omega) (160+v) (by omega) w
  ·refine zep 160 32 217 1 v _ (by omega) (by omega) rfl _ (fun W=>zgn 217 0 v (by omega) (by omega) hv 217 1 rfl rfl _ ?_ W) w
   unfold txPk zjs;rw[if_pos rfl,if_neg hs];simp
theorem zkk (m:Bool) (v:Nat) (hv:v<4294967296) (S B L N:Int) (h:(S,B,L,N)=if m=true then((128:Int),(16:Int),(222:Int),(2:Int)) else(144,16,220,2)) (w:World) :
  Calls Tryz.prog 292 #[.agg #[.int .u64 S,.int .u64 B,.int .u64 L,.int .i64 N],.int .u64 v] w fun e w'=>e= .returned (.string ⟨(zfh m v).toArray⟩)∧Below w.heap.size w w':=by
 cases m
 ·cases h
  by_cases hs:v<16
  ·unfold zfh
   rw[if_neg (by decide),if_pos hs];exact zfe 144 16 220 2 v (by omega) (by omega) (by omega) (144+v) (by omega) w
  ·refine zep 144 16 220 2 v _ (by omega) (by omega) rfl _ (fun W=>zgn 219 1 v (by omega) (by omega) hv 220 2 rfl rfl _ ?_ W) w
   unfold zfh zjs;rw[if_neg (by decide),if_neg hs];simp
 ·cases h
  by_cases hs:v<16
  ·unfold zfh
   rw[if_pos rfl,if_pos hs];exact zfe 128 16 222 2 v (by omega) (by omega) (by omega) (128+v) (by omega) w
  ·refine zep 128 16 222 2 v _ (by omega) (by omega) rfl _ (fun W=>zgn 221 1 v (by omega) (by omega) hv 222 2 rfl rfl _ ?_ W) w
   unfold zfh zjs;rw[if_pos rfl,if_neg hs];simp
theorem zadc (y:Bool) (w:World):Calls Tryz.prog 294 #[.bool y] w fun r w'=>r= .returned (.string ⟨#[if y=true then 195 else 194]⟩)∧w=w':=by
 cases y
 all_goals
  go_enter Tryz.func294,Tryz.ntmps294;go_wp2;go_ret;exact⟨rfl,rfl⟩
theorem zpc (m:Nat) (hm:m<18446744073709551616) (w:World):Calls Tryz.prog 295 #[.agg #[.bool false,.int .u64 m]] w fun r w'=>r= .returned (.string ⟨(zdw false m).toArray⟩)∧Below w.heap.size w w':=by
 have HS:=hid (fun W=>zp1 W);have HP:=hid (fun W=>ztd m hm W);generalize (⟨(zdw false m).toArray⟩:ByteArray)=Z at *
 have EB:Hid (∀W,Below (w.alloc (.cells #[.bool false,.int .u64 m] 93)).heap.size (w.alloc (.cells #[.bool false,.int .u64 m] 93)) W→W.cell? ⟨w.heap.size,1,none⟩=some (.int .u64 m)∧Below w.heap.size w W):=hid (fun W k=>by
  have hb:=(zag w #[.bool false,.int .u64 m] 93).go k;exact⟨hb.cell 1,zab (zaa (Below.refl _ _) _) k⟩)
 have x1:=(EB.out _ (Below.refl _ _)).1;go_enter Tryz.func295,Tryz.ntmps295;(go_wp2_with fail)
 go_region_with (first
  |(go_at_call 300;refine(HS.out _).mono ?_;rintro r w1 ⟨rfl,b1⟩;obtain⟨y1,y2⟩:=EB.out _ (⟨b1.os,b1.tape,b1.output,b1.size,b1.block⟩);have B1:=hid y2;clear b1 y2)
  |(go_at_call 292;refine(HP.out _).mono ?_;rintro r w2 ⟨rfl,b2⟩))
 all_goals
  have B2:=hid (zab B1.out b2);clear b2;go_wp2;go_ret;exact⟨rfl,B2.out⟩
theorem zma (m:Nat) (hm:m<32) (w:World):Calls Tryz.prog 295 #[.agg #[.bool true,.int .u64 m]] w fun r w'=>r= .returned (.string ⟨(zdw true m).toArray⟩)∧Below w.heap.size w w':=by
 have HO:=hid (fun W=>zif (18446744073709551615-m) ⟨(zdw true m).toArray⟩ (by
  unfold zdw;rw[if_neg (by decide),if_pos hm];show _=(⟨#[_]⟩:ByteArray)
  rw[show UInt8.ofNat (18446744073709551615-m)=UInt8.ofNat (255-m) by
   apply UInt8.toNat.inj;simp only[UInt8.toNat_ofNat'];omega]) W)
 have hx:=zzt m (by omega);generalize (⟨(zdw true m).toArray⟩:ByteArray)=Z at *
 generalize (18446744073709551615-m)=u at *
 have hz:((m:Int)<32)=True:=by simp only[eq_iff_iff,iff_true];omega
 clear hm;go_enter Tryz.func295,Tryz.ntmps295;(go_wp2_with fail);refine(HO.out _).mono ?_;rintro r w1 ⟨rfl,b1⟩;have B1:=hid (zab (zaa (Below.refl _ _) _) b1);clear b1;go_wp2;go_ret;exact⟨rfl,B1.out⟩
theorem zmn (m:Nat) (h0:32≤m) (hm:m<9223372036854775808) (w:World):Calls Tryz.prog 295 #[.agg #[.bool true,.int .u64 m]] w fun r w'=>r= .returned (.string ⟨(zdw true m).toArray⟩)∧Below w.heap.size w w':=by
 have HL:=hid (fun W=>zgd m (by omega) W);obtain⟨N,hN⟩:∃N:Int,N=((Lib.bitLen m+1:Nat):Int):=⟨_,rfl⟩
 have HB:=hid (fun W=>zadg m hm h0 _ rfl N hN W);have hl:Lib.bitLen m≤64:=(zav m 64 (by omega)).2 (by omega);have hx:=zzt m (by omega);generalize (⟨(zdw true m).toArray⟩:ByteArray)=Z at *
 generalize (18446744073709551615-m)=u at *
 generalize Lib.bitLen m=L at *
 have hz:((m:Int)<32)=False:=by simp only[eq_iff_iff,iff_false];omega
 have hsg:IntKind.u64.signed=false:=rfl;have hw:IntKind.i64.wrap (1+(L:Int))=N:=by simp only[IntKind.wrap_i64];omega
 have hb0:=zag w #[.bool true,.int .u64 m] 93;have x1:=hb0.cell 1;have B0:=hid (zaa (Below.refl w.heap.size w) (.cells #[.bool true,.int .u64 m] 93));clear hm h0 hl hb0 hN;go_enter Tryz.func295,Tryz.ntmps295;(go_wp2_with fail)
 go_region_with (first
  |(go_at_call 247;refine(HL.out _).mono ?_;rintro r w1 ⟨rfl,rfl⟩)
  |(go_at_call 299;refine(HB.out _).mono ?_;rintro r w2 ⟨rfl,b2⟩))
 all_goals
  have B2:=hid (zab (zbj B0.out) b2);clear b2;go_wp2;go_ret;exact⟨rfl,B2.out⟩
theorem zv3 (y:Bool) (m:Nat) (hm:m<18446744073709551616) (hy:y=true→m<9223372036854775808) (w:World):Calls Tryz.prog 295 #[.agg #[.bool y,.int .u64 m]] w fun r w'=>r= .returned (.string ⟨(zdw y m).toArray⟩)∧Below w.heap.size w w':=by
 cases y
 ·exact zpc m hm w
 ·by_cases h:m<32
  ·exact zma m h w
  ·exact zmn m (by omega) (hy rfl) w
theorem zaek (c:Nat) (hc:c<4294967296) (w:World):Calls Tryz.prog 289 #[.agg #[.bool false,.int .i64 (c:Int)]] w fun r w'=>r= .returned (.string ⟨(zfh false c).toArray⟩)∧Below w.heap.size w w':=by
 have HS:=hid (fun W=>zo1 W);have HP:=hid (fun W=>zkk false c hc _ _ _ _ rfl W);generalize (⟨(zfh false c).toArray⟩:ByteArray)=Z at *
 have hw:IntKind.u64.wrap (c:Int)=(c:Int):=by simp only[IntKind.wrap_u64];omega
 have EB:Hid (∀W,Below (w.alloc (.cells #[.bool false,.int .i64 (c:Int)] 166)).heap.size (w.alloc (.cells #[.bool false,.int .i64 (c:Int)] 166)) W→W.cell? ⟨w.heap.size,1,none⟩=some (.int .i64 (c:Int))∧Below w.heap.size w W):=hid (fun W k=>by
  have hb:=(zag w #[.bool false,.int .i64 (c:Int)] 166).go k;exact⟨hb.cell 1,zab (zaa (Below.refl _ _) _) k⟩)
 have x1:=(EB.out _ (Below.refl _ _)).1;clear hc;go_enter Tryz.func289,Tryz.ntmps289;(go_wp2_with fail)
 go_region_with (first
  |(go_at_call 293;refine(HS.out _).mono ?_;rintro r w1 ⟨rfl,b1⟩;obtain⟨y1,y2⟩:=EB.out _ (⟨b1.os,b1.tape,b1.output,b1.size,b1.block⟩);have B1:=hid y2;clear b1 y2)
  |(go_at_call 292;refine(HP.out _).mono ?_;rintro r w2 ⟨rfl,b2⟩))
 all_goals
  have B2:=hid (zab B1.out b2);clear b2;go_wp2;go_ret;exact⟨rfl,B2.out⟩
theorem zaes (c:Nat) (hc:c<4294967296) (w:World):Calls Tryz.prog 289 #[.agg #[.bool true,.int .i64 (c:Int)]] w fun r w'=>r= .returned (.string ⟨(zfh true c).toArray⟩)∧Below w.heap.size w w':=by
 have HS:=hid (fun W=>zzu W);have HP:=hid (fun W=>zkk true c hc _ _ _ _ rfl W);generalize (⟨(zfh true c).toArray⟩:ByteArray)=Z at *
 have hw:IntKind.u64.wrap (c:Int)=(c:Int):=by simp only[IntKind.wrap_u64];omega
 have EB:Hid (∀W,Below (w.alloc (.cells #[.bool true,.int .i64 (c:Int)] 166)).heap.size (w.alloc (.cells #[.bool true,.int .i64 (c:Int)] 166)) W→W.cell? ⟨w.heap.size,1,none⟩=some (.int .i64 (c:Int))∧Below w.heap.size w W):=hid (fun W k=>by
  have hb:=(zag w #[.bool true,.int .i64 (c:Int)] 166).go k;exact⟨hb.cell 1,zab (zaa (Below.refl _ _) _) k⟩)
 have x1:=(EB.out _ (Below.refl _ _)).1;clear hc;go_enter Tryz.func289,Tryz.ntmps289;(go_wp2_with fail)
 go_region_with (first
  |(go_at_call 291;refine(HS.out _).mono ?_;rintro r w1 ⟨rfl,b1⟩;obtain⟨y1,y2⟩:=EB.out _ (⟨b1.os,b1.tape,b1.output,b1.size,b1.block⟩);have B1:=hid y2;clear b1 y2)
  |(go_at_call 292;refine(HP.out _).mono ?_;rintro r w2 ⟨rfl,b2⟩))
 all_goals
  have B2:=hid (zab B1.out b2);clear b2;go_wp2;go_ret;exact⟨rfl,B2.out⟩
theorem zxd (m:Bool) (c:Int) (hc:0≤c∧c≤4294967295) (w:World):Calls Tryz.prog 289 #[.agg #[.bool m,.int .i64 c]] w fun r w'=>r= .returned (.string ⟨(zfh m c.toNat).toArray⟩)∧Below w.heap.size w w':=by
 obtain⟨n,rfl⟩:∃n:Nat,c=n:=⟨c.toNat,by omega⟩
 rw[Int.toNat_natCast];cases m
 ·exact zaek n (by omega) w
 ·exact zaes n (by omega) w
theorem zwq (e:Ev) (hk:e.k=0∨e.k=1∨e.k=2∨e.k=3∨e.k=4) (hm:e.m<18446744073709551616) (hr:¬zde e) (ht:e.t.size≤100000) (w:World) :
  Calls Tryz.prog 290 #[valE e] w fun r w'=>r= .returned (.string ⟨(zcb e).toArray⟩)∧Below w.heap.size w w':=by
 have a1:=zjn;have a2:=ze7;have a3:=zfq;have a4:=zik;have b1:=fun d h=>zf3 d h
 have b2:=fun d h=>zbv d h
 have b3:=fun d h=>zb4 d h
 have b4:=fun d h=>zf2 d h
 have hB:=hid (Below.refl w.heap.size w);obtain⟨k,y,m,t,c⟩:=e;simp only at hk hm ht;rcases hk with rfl|rfl|rfl|rfl|rfl
 ·have ho:zcb ⟨0,y,m,t,c⟩=[192]:=by simp[zcb]
  rw[ho];have p1:∀W,(Instr.typeAssert .nilIface 20 4 true).run Tryz.prog W= .ok (.tuple #[.bool false,.bool false]) W:=fun W=>by kernel_rfl
  have p2:∀W,(Instr.typeAssert .nilIface 20 93 true).run Tryz.prog W= .ok (.tuple #[.agg #[.bool false,.int .u64 0],.bool false]) W:=fun W=>by kernel_rfl
  have p3:∀W,(Instr.typeAssert .nilIface 20 179 true).run Tryz.prog W= .ok (.tuple #[.string ⟨#[]⟩,.bool false]) W:=fun W=>by kernel_rfl
  have p4:∀W,(Instr.typeAssert .nilIface 20 181 true).run Tryz.prog W= .ok (.tuple #[.string ⟨#[]⟩,.bool false]) W:=fun W=>by kernel_rfl
  clear ho hm ht hr;simp only[valE];go_enter Tryz.func290,Tryz.ntmps290;go_wp2;go_ret;exact⟨rfl,by repeat (first | exact Below.refl _ _|refine zaa ?_ _)⟩
 ·have ho:zcb ⟨1,y,m,t,c⟩=[if y=true then 195 else 194]:=by simp[zcb]
  rw[ho];have HQ:=hid (fun W=>zadc y W);have hZ:(⟨[if y=true then(195:UInt8) else 194].toArray⟩:ByteArray)=⟨#[if y=true then 195 else 194]⟩:=rfl;rw[hZ];clear ho hm ht hZ hr;generalize (⟨#[if y=true then(195:UInt8) else 194]⟩:ByteArray)=Z at *
  simp only[valE];go_enter Tryz.func290,Tryz.ntmps290;(go_wp2_with fail);refine(HQ.out _).mono ?_;rintro r w1 ⟨rfl,rfl⟩;go_wp2;go_ret;exact⟨rfl,hB.out⟩
 ·have ho:zcb ⟨2,y,m,t,c⟩=zdw y m:=by simp[zcb]
  rw[ho];have HP:=hid (fun W=>zv3 y m hm (fun hy=>by
   refine Classical.byContradiction fun h=>hr (.inl ⟨rfl,hy,by show 9223372036854775808≤m;omega⟩)) W)
  generalize (⟨(zdw y m).toArray⟩:ByteArray)=Z at *
  clear ho ht hr;simp only[valE];go_enter Tryz.func290,Tryz.ntmps290;(go_wp2_with fail);refine(HP.out _).mono ?_;rintro r w1 ⟨rfl,hb⟩;have HB1:=hid (zab (zaa hB.out _) hb);clear hb;go_wp2;go_ret;exact⟨rfl,HB1.out⟩
 ·have ho:zcb ⟨3,y,m,t,c⟩=txPk true t.data.toList.length++t.data.toList:=by simp[zcb]
  rw[ho];have hl:t.data.toList.length=t.size:=Array.length_toList;have HS:=hid (fun W=>zsx W);have HP:=hid (fun W=>zn2 true t.size (by omega) _ _ _ _ rfl W);have hcat:(⟨(txPk true t.data.toList.length++t.data.toList).toArray⟩:ByteArray)=⟨(txPk true t.size).toArray⟩++t:=by
   rw[hl,← zc8]
  have hsz:(⟨(txPk true t.size).toArray⟩:ByteArray).size≤9:=by rw[zbd];exact zl2 _ _
  rw[hcat];generalize (⟨(txPk true t.size).toArray⟩:ByteArray)=Z at *
  have z1:¬9223372036854775807<Z.size+t.size:=by omega
  have hw:IntKind.u64.wrap (t.size:Int)=(t.size:Int):=by simp only[IntKind.wrap_u64];omega
  clear ho hl hcat hsz hm hr;simp only[valE];go_enter Tryz.func290,Tryz.ntmps290;(go_wp2_with fail);refine(HS.out _).mono ?_;rintro r w1 ⟨rfl,hb⟩;have HB1:=hid (zab (zaa hB.out _) hb);clear hb;(go_wp2_with fail);refine(HP.out _).mono ?_;rintro r w2 ⟨rfl,hb⟩;have HB2:=hid (zab HB1.out hb);clear hb;go_wp2;go_ret;exact⟨rfl,HB2.out⟩
 ·have ho:zcb ⟨4,y,m,t,c⟩=txPk false t.data.toList.length++t.data.toList:=by simp[zcb]
  rw[ho];have hl:t.data.toList.length=t.size:=Array.length_toList;have HS:=hid (fun W=>ztp W);have HP:=hid (fun W=>zn2 false t.size (by omega) _ _ _ _ rfl W);have hcat:(⟨(txPk false t.data.toList.length++t.data.toList).toArray⟩:ByteArray)=⟨(txPk false t.size).toArray⟩++t:=by
   rw[hl,← zc8]
  have hsz:(⟨(txPk false t.size).toArray⟩:ByteArray).size≤9:=by rw[zbd];exact zl2 _ _
  rw[hcat];generalize (⟨(txPk false t.size).toArray⟩:ByteArray)=Z at *
  have z1:¬9223372036854775807<Z.size+t.size:=by omega
  have hw:IntKind.u64.wrap (t.size:Int)=(t.size:Int):=by simp only[IntKind.wrap_u64];omega
  clear ho hl hcat hsz hm hr;simp only[valE];go_enter Tryz.func290,Tryz.ntmps290;(go_wp2_with fail);refine(HS.out _).mono ?_;rintro r w1 ⟨rfl,hb⟩;have HB1:=hid (zab (zaa hB.out _) hb);clear hb;(go_wp2_with fail);refine(HP.out _).mono ?_;rintro r w2 ⟨rfl,hb⟩;have HB2:=hid (zab HB1.out hb);clear hb;go_wp2;go_ret;exact⟨rfl,HB2.out⟩
end
end Go.Proofs.YtpaciekgbhoncaaGreat
