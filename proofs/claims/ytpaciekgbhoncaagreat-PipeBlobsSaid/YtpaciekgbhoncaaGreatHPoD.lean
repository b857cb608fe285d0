/-
  Parts: PoD.
-/
import Derived.Test.YtpaciekgbhoncaaGreatG0m
import Derived.Test.YtpaciekgbhoncaaGreatHHeadRh
import Derived.Deep.RegionWith
set_option maxRecDepth 100000
set_option maxHeartbeats 16000000
open Go.Lib (hid)
namespace Go.Proofs.YtpaciekgbhoncaaGreat
section
open Go.RowKit
open Go.Lib
theorem zif (v:Nat) (X:ByteArray) (h:X=⟨#[UInt8.ofNat v]⟩) (w:World):Calls Tryz.prog 298 #[.int .u64 v] w fun e w'=>e= .returned (.string X)∧Below w.heap.size w w':=by
 have HB:=hid (fun W=>zagl v X (by rw[h,zqj]) W);clear h;go_enter Tryz.func298,Tryz.ntmps298;(go_wp2_with fail);refine(HB.out _).mono ?_;rintro e w1 ⟨rfl,b1⟩;have B1:=hid b1;clear b1;go_wp2;go_ret;exact⟨rfl,B1.out⟩
theorem zc9 (f0 a E v need:Nat) (hf:f0≤300) (ha:a≤E) (hE:E≤3) (h1:∀i,a≤i→i<E→2^i*8<need) (h2:need≤2^E*8) (fa:Int) (hfa:fa=((f0+a:Nat):Int)) (na:Int) (hna:na=((2^a:Nat):Int)) (w:World) :
    Calls Tryz.prog 299 #[.int .u64 fa,.int .i64 na,.int .u64 v,.int .i64 need] w fun e w'=>e= .returned (.string ⟨(UInt8.ofNat (f0+E)::bigB (2^E) v).toArray⟩)∧Below w.heap.size w w':=by
  subst hfa hna;have hP1:1≤2^E:=Nat.pow_pos (by decide);have hP8:2^E≤8:=by
    have:=Nat.pow_le_pow_right (n:=2) (by decide) hE;omega
  have hB2:=hid (fun W=>zqf v (2^E) hP1 hP8 W);have e:(⟨(UInt8.ofNat (f0+E)::bigB (2^E) v).toArray⟩:ByteArray)=(⟨#[UInt8.ofNat (f0+E)]⟩:ByteArray)++⟨(bigB (2^E) v).toArray⟩:=by
    rw[show(⟨#[UInt8.ofNat (f0+E)]⟩:ByteArray)=⟨[UInt8.ofNat (f0+E)].toArray⟩ from rfl,zn8];rfl
  have hB1:=hid (fun W=>zif (f0+E) _ rfl W);rw[e];have s1:(⟨#[UInt8.ofNat (f0+E)]⟩:ByteArray).size=1:=rfl;have s2:(⟨(bigB (2^E) v).toArray⟩:ByteArray).size≤8:=by rw[zo6,zbo];exact hP8
  generalize (⟨#[UInt8.ofNat (f0+E)]⟩:ByteArray)=X at *
  generalize (⟨(bigB (2^E) v).toArray⟩:ByteArray)=Y at *
  have hsum:(9223372036854775807<X.size+Y.size)=False:=by simp only[eq_iff_iff,iff_false];omega
  have H1:=hid h1;have H2:=hid h2;clear e hP1 s1 s2 h1 h2;have HP8:=hid hP8;clear hP8;go_enter Tryz.func299,Tryz.ntmps299;(go_wp2_with fail)
  go_loopw [0,1] (fun l q wr=>∃i:Nat,a≤i∧i≤E∧l= .int .u64 ((f0+i:Nat):Int)∧q= .int .i64 ((2^i:Nat):Int)∧w=wr) (fun l _ _=>f0+E-(RowKit.intOf l).toNat)
  case atStart=>exact⟨a,Nat.le_refl _,ha,rfl,rfl,rfl⟩
  case round =>
    obtain⟨i,hi,hk,rfl,rfl,rfl⟩:=hrel;by_cases hlt:i<E
    · have hd:i=0∨i=1∨i=2:=by omega
      rcases hd with rfl|rfl|rfl
      · have hgt:((8:Int)<(need:Int))=True:=by
          have:=H1.out 0 hi hlt;simp only[eq_iff_iff,iff_true];omega
        have hwf:IntKind.u64.wrap (((f0+0:Nat):Int)+1)=((f0+1:Nat):Int):=by simp only[IntKind.wrap_u64];omega
        clear hB1 hB2;(go_wp2_with fail)
        go_roundw
        case rel=>exact⟨1,by omega,hlt,by go_num,rfl,by first | rfl|trivial⟩
        case measure=>simp[RowKit.intOf];omega
      · have hgt:((16:Int)<(need:Int))=True:=by
          have:=H1.out 1 hi hlt;simp only[eq_iff_iff,iff_true];omega
        have hwf:IntKind.u64.wrap (((f0+1:Nat):Int)+1)=((f0+2:Nat):Int):=by simp only[IntKind.wrap_u64];omega
        clear hB1 hB2;(go_wp2_with fail)
        go_roundw
        case rel=>exact⟨2,by omega,hlt,by go_num,rfl,by first | rfl|trivial⟩
        case measure=>simp[RowKit.intOf];omega
      · have hgt:((32:Int)<(need:Int))=True:=by
          have:=H1.out 2 hi hlt;simp only[eq_iff_iff,iff_true];omega
        have hwf:IntKind.u64.wrap (((f0+2:Nat):Int)+1)=((f0+3:Nat):Int):=by simp only[IntKind.wrap_u64];omega
        clear hB1 hB2;(go_wp2_with fail)
        go_roundw
        case rel=>exact⟨3,by omega,hlt,by go_num,rfl,by first | rfl|trivial⟩
        case measure=>simp[RowKit.intOf];omega
    · obtain rfl:i=E:=by omega
      have hgt:(((2^i:Nat):Int)*8<(need:Int))=False:=by
        have:=H2.out;simp only[eq_iff_iff,iff_false];omega
      have hmul:wrap64 (((2^i:Nat):Int)*8)=((2^i:Nat):Int)*8:=by
        have hp8:((2^i:Nat):Int)≤8:=by have:=HP8.out;omega
        have hp0:0≤((2^i:Nat):Int):=Int.natCast_nonneg _;unfold wrap64;generalize ((2^i:Nat):Int)=P at *
        omega
      clear H1 H2 HP8;generalize 2^i=P at *
      generalize f0+i=low at *
      (go_wp2_with fail);refine(hB1.out _).mono ?_;rintro e w2 ⟨rfl,b2⟩;have B2:=hid b2;clear b2;(go_wp2_with fail);refine(hB2.out _).mono ?_;rintro e w3 ⟨rfl,b3⟩;have B3:=hid (zab B2.out b3);clear b3;go_wp2;go_ret;exact⟨rfl,B3.out⟩
theorem zfe (S B L N:Int) (v:Nat) (hv:(v:Int)<B) (hS:0≤S∧S≤300) (hB:B≤300) (b:Nat) (hb:(b:Int)=S+v) (w:World) :
  Calls Tryz.prog 292 #[.agg #[.int .u64 S,.int .u64 B,.int .u64 L,.int .i64 N],.int .u64 v] w fun e w'=>e= .returned (.string ⟨#[UInt8.ofNat b]⟩)∧Below w.heap.size w w':=by
 have HO:=hid (fun W=>zif b _ rfl W);generalize (⟨#[UInt8.ofNat b]⟩:ByteArray)=X at *
 have hw:IntKind.u64.wrap (S+(v:Int))=S+(v:Int):=by simp only[IntKind.wrap_u64];omega
 rw[hb] at HO;have hz:((v:Int)<B)=True:=by simp[hv]
 clear hb hv hS hB;go_enter Tryz.func292,Tryz.ntmps292;(go_wp2_with fail);refine(HO.out _).mono ?_;rintro e w2 ⟨rfl,b2⟩;have B2:=hid (zab (zaa (Below.refl _ _) _) b2);clear b2;go_wp2;go_ret;exact⟨rfl,B2.out⟩
theorem zep (S B L N:Int) (v need:Nat) (hv:v<18446744073709551616) (hB:¬(v:Int)<B) (hn:Lib.bitLen v=need) (T:ByteArray)
  (hH:∀W,Calls Tryz.prog 299 #[.int .u64 L,.int .i64 N,.int .u64 v,.int .i64 need] W fun e w'=>e= .returned (.string T)∧Below W.heap.size W w') (w:World) :
  Calls Tryz.prog 292 #[.agg #[.int .u64 S,.int .u64 B,.int .u64 L,.int .i64 N],.int .u64 v] w fun e w'=>e= .returned (.string T)∧Below w.heap.size w w':=by
 have HL:=hid (fun W=>zgd v hv W);rw[hn] at HL;have HH:=hid hH;have hz:((v:Int)<B)=False:=by simp only[eq_iff_iff,iff_false];exact hB
 have hb0:=zag w #[.int .u64 S,.int .u64 B,.int .u64 L,.int .i64 N] 291;have x0:=hb0.cell 0;have x1:=hb0.cell 1;have x2:=hb0.cell 2;have x3:=hb0.cell 3;have B0:=hid (zaa (Below.refl w.heap.size w) (.cells #[.int .u64 S,.int .u64 B,.int .u64 L,.int .i64 N] 291));clear hv hB hn hH hb0;go_enter Tryz.func292,Tryz.ntmps292;(go_wp2_with fail)
 go_region_with (first
  |(go_at_call 247;refine(HL.out _).mono ?_;rintro r w1 ⟨rfl,rfl⟩)
  |(go_at_call 299;refine(HH.out _).mono ?_;rintro r w2 ⟨rfl,b2⟩))
 all_goals
  have B2:=hid (zab (zbj B0.out) b2);clear b2;go_wp2;go_ret;exact⟨rfl,B2.out⟩
theorem zzu (w:World):Calls Tryz.prog 291 #[] w fun e w'=>e= .returned (.agg #[.int .u64 128,.int .u64 16,.int .u64 222,.int .i64 2])∧Below w.heap.size w w':=by
 go_enter Tryz.func291,Tryz.ntmps291;go_wp2;simp[bodyPost,results,Tryz.results291,go_sem];exact zaa (Below.refl _ _) _
theorem zo1 (w:World):Calls Tryz.prog 293 #[] w fun e w'=>e= .returned (.agg #[.int .u64 144,.int .u64 16,.int .u64 220,.int .i64 2])∧Below w.heap.size w w':=by
 go_enter Tryz.func293,Tryz.ntmps293;go_wp2;simp[bodyPost,results,Tryz.results293,go_sem];exact zaa (Below.refl _ _) _
theorem zsx (w:World):Calls Tryz.prog 296 #[] w fun e w'=>e= .returned (.agg #[.int .u64 160,.int .u64 32,.int .u64 217,.int .i64 1])∧Below w.heap.size w w':=by
 go_enter Tryz.func296,Tryz.ntmps296;go_wp2;simp[bodyPost,results,Tryz.results296,go_sem];exact zaa (Below.refl _ _) _
theorem ztp (w:World):Calls Tryz.prog 297 #[] w fun e w'=>e= .returned (.agg #[.int .u64 0,.int .u64 0,.int .u64 196,.int .i64 1])∧Below w.heap.size w w':=by
 go_enter Tryz.func297,Tryz.ntmps297;go_wp2;simp[bodyPost,results,Tryz.results297,go_sem];exact zaa (Below.refl _ _) _
theorem zp1 (w:World):Calls Tryz.prog 300 #[] w fun e w'=>e= .returned (.agg #[.int .u64 0,.int .u64 128,.int .u64 204,.int .i64 1])∧Below w.heap.size w w':=by
 go_enter Tryz.func300,Tryz.ntmps300;go_wp2;simp[bodyPost,results,Tryz.results300,go_sem];exact zaa (Below.refl _ _) _
end
end Go.Proofs.YtpaciekgbhoncaaGreat
