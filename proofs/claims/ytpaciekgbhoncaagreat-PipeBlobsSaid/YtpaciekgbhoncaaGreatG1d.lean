/-
  Parts: PipPure, HeadPut, CoD, CoF, CoG, CoSz, PoF, PoG, PoSz.
-/
import Derived.Test.YtpaciekgbhoncaaGreatG0f
import Derived.Test.YtpaciekgbhoncaaGreatG1a
import Derived.Test.YtpaciekgbhoncaaGreatG1c
import Derived.Test.YtpaciekgbhoncaaGreatG0l
import Derived.Test.YtpaciekgbhoncaaGreatG0m
import Derived.Test.YtpaciekgbhoncaaGreatHHeadRh
import Derived.Deep.RegionWith
import Derived.Test.YtpaciekgbhoncaaGreatG0j
import Derived.Test.YtpaciekgbhoncaaGreatHPoE
set_option maxRecDepth 100000
set_option maxHeartbeats 16000000
open Go.Lib (hid)
namespace Go.Proofs.YtpaciekgbhoncaaGreat
section
open Go.Lib
inductive Rs
 | js (s:Js)
 | cb (s:Ci)
 | pk (s:Pm)
inductive Ws
 | js (pr:Bool→Nat→List UInt8) (q:Os)
 | cb (q:Kq)
 | pk (q:Kq)
def zaf (D:Nat):Rs→UInt8→Rs×List Ev
 | .js s,b=>(.js (zel D s b).1,(zel D s b).2)
 | .cb s,b=>(.cb (za7 D s b).1,(za7 D s b).2)
 | .pk s,b=>(.pk (zcj D s b).1,(zcj D s b).2)
def zbz:Rs→Nat
 | .js s=>errP s.p
 | .cb s=>zbs s
 | .pk s=>zcw s
def zcz (D:Nat):Rs→List Ev×Nat
 | .js s=>endJ D s
 | .cb s=>([],zl8 s)
 | .pk s=>([],ztq s)
def zbk:Ws→Ev→(List UInt8×Nat)×Ws
 | .js pr q,e=>((zbb pr q e).1,.js pr (zbb pr q e).2)
 | .cb q,e=>((zb0 q e).1,.cb (zb0 q e).2)
 | .pk q,e=>((zbp q e).1,.pk (zbp q e).2)
def za6:Ws→List Ev→(List UInt8×Nat)×Ws
 | q,[]=>(([],0),q)
 | q,e::l=>if(zbk q e).1.2≠0 then(([],(zbk q e).1.2),(zbk q e).2) else(((zbk q e).1.1++(za6 (zbk q e).2 l).1.1,(za6 (zbk q e).2 l).1.2),(za6 (zbk q e).2 l).2)
def zcm (lim:Nat):Option Gs→Ev→Option Gs×List Ev×Nat
 | none,e=>(none,[e],0)
 | some g,e=>(some (zgh lim g e).s,(zgh lim g e).l,(zgh lim g e).e)
def zbu (lim:Nat) (g:Option Gs) (q:Ws) (e:Ev):(List UInt8×Nat)×(Option Gs×Ws) :=
 if(zcm lim g e).2.2≠0 then(([],(zcm lim g e).2.2),((zcm lim g e).1,q)) else((za6 q (zcm lim g e).2.1).1,((zcm lim g e).1,(za6 q (zcm lim g e).2.1).2))
def za3 (lim:Nat):Option Gs→Ws→List Ev→Nat→(List UInt8×Nat)×(Option Gs×Ws)
 | g,q,[],told=>(([],told),(g,q))
 | g,q,e::l,told=>if(zbu lim g q e).1.2≠0 then zbu lim g q e else(((zbu lim g q e).1.1++(za3 lim (zbu lim g q e).2.1 (zbu lim g q e).2.2 l told).1.1,(za3 lim (zbu lim g q e).2.1 (zbu lim g q e).2.2 l told).1.2),(za3 lim (zbu lim g q e).2.1 (zbu lim g q e).2.2 l told).2)
inductive Pp
 | over (e:Nat)
 | live (r:Rs) (g:Option Gs) (q:Ws)
def zhj (e:Nat):Nat:=if e=0 then 14 else e
def zay (D lim:Nat):Pp→UInt8→Pp×(List UInt8×Nat)
  | .over e,_=>(.over e,([],zhj e))
  | .live r g q,b =>
    if(za3 lim g q (zaf D r b).2 (zbz (zaf D r b).1)).1.2≠0 then(.over (za3 lim g q (zaf D r b).2 (zbz (zaf D r b).1)).1.2,(za3 lim g q (zaf D r b).2 (zbz (zaf D r b).1)).1)
    else(.live (zaf D r b).1 (za3 lim g q (zaf D r b).2 (zbz (zaf D r b).1)).2.1 (za3 lim g q (zaf D r b).2 (zbz (zaf D r b).1)).2.2,(za3 lim g q (zaf D r b).2 (zbz (zaf D r b).1)).1)
def zi4 (D lim:Nat):Pp→Pp×(List UInt8×Nat)
 | .over e=>(.over e,([],zhj e))
 | .live r g q=>(.over (za3 lim g q (zcz D r).1 (zcz D r).2).1.2,(za3 lim g q (zcz D r).1 (zcz D r).2).1)
def zdz (D lim:Nat):Pp→List UInt8→Pp×List UInt8
 | s,[]=>(s,[])
 | s,b::l=>((zdz D lim (zay D lim s b).1 l).1,(zay D lim s b).2.1++(zdz D lim (zay D lim s b).1 l).2)
def zau (D lim:Nat):Pp→List UInt8→List UInt8×Nat
 | s,[]=>(zi4 D lim s).2
 | s,b::l=>if(zay D lim s b).2.2≠0 then(zay D lim s b).2 else((zay D lim s b).2.1++(zau D lim (zay D lim s b).1 l).1,(zau D lim (zay D lim s b).1 l).2)
def rs0 (f:Int):Rs:=if f=1 then .js j0 else if f=2 then .cb ci0 else .pk pm0
def ws0 (pr:Bool→Nat→List UInt8) (t:Int):Ws:=if t=1 then .js pr ⟨[],false⟩ else if t=2 then .cb ⟨[],false⟩ else .pk ⟨[],false⟩
def pp0 (pr:Bool→Nat→List UInt8) (f t:Int):Pp:= .live (rs0 f) (if t=3 then some gs0 else none) (ws0 pr t)
def WfRs (D M:Nat):Rs→Prop
  | .js s=>match s.p with
    | .bad _=>True
    | .at_ st dn=>WfX s.lx∧WfJ D st dn
  | .cb s=>WfK D M s∧WfCi D s
  | .pk s=>WfPm D s
def zvj:Rs→Nat
 | .js _=>0
 | .cb s=>stkC s
 | .pk s=>stkN s
theorem zajc (D : Nat) (p:Pj) (t:Tk):∀e∈(tokJ D p t).2,e.t.size≤t.t.length:=by
  have hv:∀(st:List FrJ) (dn:Bool) (x:Ev),x.t.size≤t.t.length→∀e∈(valJ st dn x).2,e.t.size≤t.t.length:=by
    intro st dn x hx e he;unfold valJ at he;split at he
    · simp only[List.mem_singleton] at he
      exact he▸hx
    · simp at he
  have h0:∀e:Ev,e.t=⟨#[]⟩→e.t.size≤t.t.length:=fun e h=>by rw[h];exact Nat.zero_le _
  have ht:(zce t.t).t.size≤t.t.length:=by simp[zce,ByteArray.size]
  have hshut:∀(m:Bool) (st:List FrJ),∀e∈(zdq m st).2,e.t.size≤t.t.length:=by
    intro m st e he;unfold zdq at he;split at he
    · rename_i b p r
      by_cases hc:b=m∧(p=0∨p=if m then 3 else 1)
      · rw[if_pos hc] at he
        have h9:e=zbm:=by simpa using he
        rw[h9];exact h0 _ rfl
      · rw[if_neg hc] at he
        cases he
    · cases he
  have hopen:∀(st:List FrJ) (dn m:Bool),∀e∈(zer D st dn m (zda m)).2,e.t.size≤t.t.length:=by
    intro st dn m e he;unfold zer at he;split at he
    · split at he
      · cases he
      · have h9:e=zda m:=by simpa using he
        rw[h9];exact h0 _ rfl
    · cases he
  intro e he;cases p with
  | bad f=>simp[tokJ] at he
  | at_ st dn =>
    simp only[tokJ] at he;split at he
    · unfold zek at he;split at he <;>cases he
    · split at he
      · unfold zd3 at he;split at he <;>cases he
      · split at he
        · exact hshut _ _ e he
        · split at he
          · exact hshut _ _ e he
          · split at he
            · exact hopen _ _ _ e he
            · split at he
              · exact hopen _ _ _ e he
              · split at he
                · unfold strJ at he
                  split at he
                  · simp only[List.mem_singleton] at he
                    exact he▸ht
                  · simp only[List.mem_singleton] at he
                    exact he▸ht
                  · exact hv _ _ _ ht e he
                · split at he
                  · exact hv _ _ _ (h0 _ rfl) e he
                  · split at he
                    · exact hv _ _ _ (h0 _ rfl) e he
                    · split at he
                      · exact hv _ _ _ (h0 _ rfl) e he
                      · exact hv _ _ _ (h0 _ rfl) e he
theorem zpw (D:Nat):∀(l:List Tk) (p:Pj),(∀t∈l,zi3 t)→∀e∈(zaw D p l).2,e.t.size≤200
  | [],_,_,e,he=>by simp[zaw] at he
  | t::l,p,h,e,he=>by
    simp only[zaw,List.mem_append] at he;rcases he with he|he
    · exact Nat.le_trans (zajc D p t e he) (h t (by simp)).2.1
    · exact zpw D l _ (fun x hx=>h x (by simp[hx])) e he
theorem zw7 {D:Nat} {s:Js} {M:Nat} (h:WfRs D M (.js s)) (b:UInt8):WfRs D M (.js (zel D s b).1)∧(∀e∈(zel D s b).2,zfl e):=by
  obtain⟨lx,p⟩:=s;cases p with
  | bad e=>exact⟨trivial,by simp[zel]⟩
  | at_ st dn =>
    have hw:=zpe lx h.1 b;have ht:=zgk D (zak lx b).2 (.at_ st dn) hw.2;have hz:=zpw D (zak lx b).2 (.at_ st dn) hw.2;have hp:=zln (D:=D) (zak lx b).2 (p:= .at_ st dn) h.2;simp only[zel];cases hb:badX (zak lx b).1 with
    | some e=>exact⟨trivial,by simp⟩
    | none =>
      refine⟨?_,fun e he=>⟨(ht e he).1,(ht e he).2.1,(ht e he).2.2,hz e he⟩⟩;simp only[WfRs];revert hp;cases (zaw D (.at_ st dn) (zak lx b).2).1 with
      | bad e=>exact fun _=>trivial
      | at_ st' dn'=>exact fun hp=>⟨hw.1,hp⟩
theorem zxg (D:Nat) (s:Js):∀e∈(endJ D s).1,zfl e:=by
  intro e he;have h1:=zab0 D s e he;refine⟨h1.1,h1.2.1,h1.2.2,?_⟩;unfold endJ at he;split at he
  · simp at he
  · split at he
    · simp at he
    · have:=zpw D (endX s.lx).1 s.p (zww _)
      split at he
      all_goals
        rename_i h;rw[h] at this;exact this e he
theorem zh6 {D M:Nat} (hD:D≤16) {r:Rs} (h:WfRs D M r) (b:UInt8):WfRs D (M+1) (zaf D r b).1∧(∀e∈(zaf D r b).2,zfl e)∧(zaf D r b).2.length+zvj (zaf D r b).1≤zvj r+2:=by
  cases r with
  | js s=>exact⟨(zw7 h b).1,(zw7 h b).2,by have:=zxo D s b;simpa [zaf,zvj] using this⟩
  | cb s =>
    have hf:=zv5 b h.2;exact⟨⟨zaat hD h.1 b,hf.wf⟩,hf.told,hf.len⟩
  | pk s =>
    have hf:=zxw hD h b;exact⟨zac4 hD h b,hf.told,hf.len⟩
theorem zic (D:Nat) (r:Rs):(∀e∈(zcz D r).1,zfl e)∧(zcz D r).1.length≤1:=by
 cases r with
 | js s=>exact⟨zxg D s,zact D s⟩
 | cb s=>exact⟨by simp[zcz],by simp[zcz]⟩
 | pk s=>exact⟨by simp[zcz],by simp[zcz]⟩
end
section
open Go.RowKit
open Go.Lib
theorem and7 (n:Int):bits .and .i64 n 7=((n%8).toNat:Int):=by
 have h127:(BitVec.ofInt 64 7).toNat=2^3-1:=by decide
 have key:(BitVec.ofInt 64 n &&& BitVec.ofInt 64 7).toNat=(n%((2^64:Nat):Int)).toNat%2^3:=by
  rw[BitVec.toNat_and,BitVec.toNat_ofInt,h127,Nat.and_two_pow_sub_one_eq_mod]
 show IntKind.i64.wrap ((BitVec.ofInt 64 n &&& BitVec.ofInt 64 7).toNat:Nat)=_;rw[key,IntKind.wrap_i64];omega
theorem zy6 (n:Int) (v:Nat) (hv:v<24) (w:World) :
  Calls Tryz.prog 272 #[.int .i64 n,.int .u64 v] w fun e w'=>e= .returned (.string ⟨(zcd (n%8).toNat v).toArray⟩)∧Below w.heap.size w w':=by
 have ha:=and7 n;obtain⟨m,hm⟩:∃m,(n%8).toNat=m:=⟨_,rfl⟩
 have hm8:m<8:=by omega
 rw[hm] at ha ⊢;have hw1:IntKind.u64.wrap (m:Int)=(m:Int):=zam _ (by omega) (by omega);have hw2:(m:Int)*32=((m*2^5:Nat):Int):=by omega
 have ho:=zv2 m v 5 (by omega) (by omega);rw[← hw2] at ho;clear hw2;have HB:=hid (fun W=>zagl (m*2^5+v) _ rfl W);have e:zcd m v=bigB 1 (m*2^5+v):=by
  rw[zqj];simp[zcd,sizH,hv,bigB]
 rw[e];have hz:((v:Int)<24)=True:=by simp only[eq_iff_iff,iff_true];omega
 generalize (⟨(bigB 1 (m*2^5+v)).toArray⟩:ByteArray)=X at *
 generalize m*2^5+v=f at *
 clear e hm hv;go_enter Tryz.func272,Tryz.ntmps272;(go_wp2_with fail);refine(HB.out _).mono ?_;rintro e w1 ⟨rfl,b1⟩;go_wp2;go_ret;exact⟨rfl,b1⟩
theorem zaai (n:Int) (v K:Nat) (hv:v<18446744073709551616) (h24:24≤v) (hK:K=0∧v<256∨K=1∧256≤v∧v<65536∨K=2∧65536≤v∧v<4294967296∨K=3∧4294967296≤v) (w:World) :
    Calls Tryz.prog 272 #[.int .i64 n,.int .u64 v] w fun e w'=>e= .returned (.string ⟨(zcd (n%8).toNat v).toArray⟩)∧Below w.heap.size w w':=by
  have ha:=and7 n;obtain⟨m,hm⟩:∃m,(n%8).toNat=m:=⟨_,rfl⟩
  have hm8:m<8:=by omega
  rw[hm] at ha ⊢;have hK3:K≤3:=by omega
  have hw1:IntKind.u64.wrap (m:Int)=(m:Int):=zam _ (by omega) (by omega);have hw2:(m:Int)*32=((m*2^5:Nat):Int):=by omega
  have ho:=zv2 m (24+K) 5 (by omega) (by omega);rw[← hw2] at ho;clear hw2;have HL:=hid (fun W=>zgd v hv W);have l8:=zav v 8 hv;have l16:=zav v 16 hv;have l32:=zav v 32 hv;have l64:=zav v 64 hv;have hB1:=hid (fun W=>zagl (m*2^5+(24+K)) _ rfl W);have hP1:1≤2^K:=Nat.pow_pos (by decide);have hP8:2^K≤8:=by
    have:=Nat.pow_le_pow_right (n:=2) (by decide) hK3;omega
  have hB2:=hid (fun W=>zqf v (2^K) hP1 hP8 W);have e:(⟨(zcd m v).toArray⟩:ByteArray)=(⟨(bigB 1 (m*2^5+(24+K))).toArray⟩:ByteArray)++⟨(bigB (2^K) v).toArray⟩:=by
    rw[zn8,zqj];simp[zcd,zaka v K hv h24 hK]
  rw[e];have s1:(⟨(bigB 1 (m*2^5+(24+K))).toArray⟩:ByteArray).size=1:=by rw[zo6,zbo]
  have s2:(⟨(bigB (2^K) v).toArray⟩:ByteArray).size≤8:=by rw[zo6,zbo];exact hP8
  generalize (⟨(bigB 1 (m*2^5+(24+K))).toArray⟩:ByteArray)=X at *
  generalize (⟨(bigB (2^K) v).toArray⟩:ByteArray)=Y at *
  generalize m*2^5+(24+K)=f at *
  generalize Lib.bitLen v=L at *
  have hz:((v:Int)<24)=False:=by simp only[eq_iff_iff,iff_false];omega
  have hsum:(9223372036854775807<X.size+Y.size)=False:=by simp only[eq_iff_iff,iff_false];omega
  clear e hm hP1;go_enter Tryz.func272,Tryz.ntmps272;(go_wp2_with fail)
  go_loopw [6,7] (fun l q wr=>∃k:Nat,k≤K∧l= .int .u64 ((24+k:Nat):Int)∧q= .int .i64 ((2^k:Nat):Int)∧w=wr) (fun l _ _=>24+K-(RowKit.intOf l).toNat)
  case atStart=>exact⟨0,Nat.zero_le _,rfl,rfl,rfl⟩
  case round =>
    obtain⟨k,hk,rfl,rfl,rfl⟩:=hrel;by_cases hlt:k<K
    · have hd:k=0∨k=1∨k=2:=by omega
      rcases hd with rfl|rfl|rfl
      · have hgt:((8:Int)<(L:Int))=True:=by
          simp only[eq_iff_iff,iff_true];have:¬L≤8:=by rw[l8];simp;omega
          omega
        clear l8 l16 l32 l64 hB1 hB2;(go_wp2_with fail);refine(HL.out _).mono ?_;rintro e w1 ⟨rfl,rfl⟩;(go_wp2_with fail)
        go_roundw
        case rel=>exact⟨1,hlt,rfl,rfl,by first | rfl|trivial⟩
        case measure=>simp[RowKit.intOf];omega
      · have hgt:((16:Int)<(L:Int))=True:=by
          simp only[eq_iff_iff,iff_true];have:¬L≤16:=by rw[l16];simp;omega
          omega
        clear l8 l16 l32 l64 hB1 hB2;(go_wp2_with fail);refine(HL.out _).mono ?_;rintro e w1 ⟨rfl,rfl⟩;(go_wp2_with fail)
        go_roundw
        case rel=>exact⟨2,hlt,rfl,rfl,by first | rfl|trivial⟩
        case measure=>simp[RowKit.intOf];omega
      · have hgt:((32:Int)<(L:Int))=True:=by
          simp only[eq_iff_iff,iff_true];have:¬L≤32:=by rw[l32];simp;omega
          omega
        clear l8 l16 l32 l64 hB1 hB2;(go_wp2_with fail);refine(HL.out _).mono ?_;rintro e w1 ⟨rfl,rfl⟩;(go_wp2_with fail)
        go_roundw
        case rel=>exact⟨3,hlt,rfl,rfl,by first | rfl|trivial⟩
        case measure=>simp[RowKit.intOf];omega
    · obtain rfl:k=K:=by omega
      have hgt:(((2^k:Nat):Int)*8<(L:Int))=False:=by
        simp only[eq_iff_iff,iff_false];have h8:L≤8*2^k:=by
          rcases hK with ⟨rfl,h⟩|⟨rfl,h⟩|⟨rfl,h⟩|⟨rfl,h⟩
          · exact l8.2 (by omega)
          · exact l16.2 (by omega)
          · exact l32.2 (by omega)
          · exact l64.2 (by omega)
        omega
      have hmul:wrap64 (((2^k:Nat):Int)*8)=((2^k:Nat):Int)*8:=by
        have hp8:((2^k:Nat):Int)≤8:=by omega
        have hp0:0≤((2^k:Nat):Int):=Int.natCast_nonneg _;unfold wrap64;generalize ((2^k:Nat):Int)=P at *
        omega
      clear l8 l16 l32 l64 hK;generalize 2^k=P at *
      generalize 24+k=low at *
      (go_wp2_with fail);refine(HL.out _).mono ?_;rintro e w1 ⟨rfl,rfl⟩;(go_wp2_with fail);refine(hB1.out _).mono ?_;rintro e w2 ⟨rfl,b2⟩;have B2:=hid b2;clear b2;(go_wp2_with fail);refine(hB2.out _).mono ?_;rintro e w3 ⟨rfl,b3⟩;have B3:=hid (B2.out.trans (b3.mono B2.out.size));clear b3;go_wp2;go_ret;exact⟨rfl,B3.out⟩
theorem zfy (n:Int) (v:Nat) (hv:v<18446744073709551616) (w:World) :
  Calls Tryz.prog 272 #[.int .i64 n,.int .u64 v] w fun e w'=>e= .returned (.string ⟨(zcd (n%8).toNat v).toArray⟩)∧Below w.heap.size w w':=by
 by_cases h:v<24
 ·exact zy6 n v h w
 ·obtain⟨K,hK⟩:=zae5 v
  exact zaai n v K hv (by omega) hK w
end
section
open Go.RowKit
open Go.Lib
theorem zaed (y:Bool) (w:World):Calls Tryz.prog 273 #[.bool y] w fun r w'=>r= .returned (.string ⟨#[if y=true then 245 else 244]⟩)∧w=w':=by
 cases y
 all_goals
  go_enter Tryz.func273,Tryz.ntmps273;go_wp2;go_ret;exact⟨rfl,rfl⟩
theorem zahx (y:Bool) (w:World):Calls Tryz.prog 271 #[.bool y] w fun r w'=>r= .returned (.string ⟨(if y=true then [] else [(255:UInt8)]).toArray⟩)∧w=w':=by
 cases y
 all_goals
  go_enter Tryz.func271,Tryz.ntmps271;go_wp2;go_ret;exact⟨rfl,rfl⟩
theorem zy5 (y:Bool) (m:Nat) (hm:m<18446744073709551616) (w:World):Calls Tryz.prog 274 #[.agg #[.bool y,.int .u64 m]] w fun r w'=>r= .returned (.string ⟨(zcd (if y=true then 1 else 0) m).toArray⟩)∧Below w.heap.size w w':=by
 cases y
 ·have HP:=hid (fun W=>zfy 0 m hm W)
  rw[show((0:Int)%8).toNat=0 from rfl] at HP;simp only[Bool.false_eq_true,if_false];generalize (⟨(zcd 0 m).toArray⟩:ByteArray)=Z at *
  go_enter Tryz.func274,Tryz.ntmps274;(go_wp2_with fail);refine(HP.out _).mono ?_;rintro r w1 ⟨rfl,b1⟩;have B1:=hid (zab (zaa (Below.refl _ _) _) b1);clear b1;go_wp2;go_ret;exact⟨rfl,B1.out⟩
 ·have HP:=hid (fun W=>zfy 1 m hm W)
  rw[show((1:Int)%8).toNat=1 from rfl] at HP;simp only[if_true];generalize (⟨(zcd 1 m).toArray⟩:ByteArray)=Z at *
  go_enter Tryz.func274,Tryz.ntmps274;(go_wp2_with fail);refine(HP.out _).mono ?_;rintro r w1 ⟨rfl,b1⟩;have B1:=hid (zab (zaa (Below.refl _ _) _) b1);clear b1;go_wp2;go_ret;exact⟨rfl,B1.out⟩
theorem zr2 (j:Nat) (hj:j<8) (t:ByteArray) (ht:t.size≤100000) (w:World):Calls Tryz.prog 275 #[.int .i64 (j:Int),.string t] w fun r w'=>r= .returned (.string ⟨(zcd j t.data.toList.length++t.data.toList).toArray⟩)∧Below w.heap.size w w':=by
 have hl:t.data.toList.length=t.size:=Array.length_toList;have HP:=hid (fun W=>zfy j t.size (by omega) W);rw[show((j:Int)%8).toNat=j by omega] at HP;have hz:=zf6 j t.size;have hcat:(⟨(zcd j t.data.toList.length++t.data.toList).toArray⟩:ByteArray)=⟨(zcd j t.size).toArray⟩++t:=by
  rw[hl,← zc8]
 have hsz:(⟨(zcd j t.size).toArray⟩:ByteArray).size≤9:=by rw[zbd];exact hz
 rw[hcat];generalize (⟨(zcd j t.size).toArray⟩:ByteArray)=Z at *
 have z1:¬9223372036854775807<Z.size+t.size:=by omega
 have hw:IntKind.u64.wrap (t.size:Int)=(t.size:Int):=by simp only[IntKind.wrap_u64];omega
 clear hl hz hcat hsz;go_enter Tryz.func275,Tryz.ntmps275;(go_wp2_with fail);refine(HP.out _).mono ?_;rintro r w1 ⟨rfl,b1⟩;have B1:=hid b1;clear b1;go_wp2;go_ret;exact⟨rfl,B1.out⟩
def begB (m:Bool) (c:Int):List UInt8:=if c<0 then [if m=true then 191 else 159] else zcd (if m=true then 5 else 4) c.toNat
theorem zaaq (m:Bool) (c:Int) (hc: -1≤c∧c≤9223372036854775807) (w:World):Calls Tryz.prog 265 #[.agg #[.bool m,.int .i64 c]] w fun r w'=>r= .returned (.string ⟨(begB m c).toArray⟩)∧Below w.heap.size w w':=by
 by_cases hn:c= -1
 ·subst hn
  cases m
  all_goals
   unfold begB;rw[if_pos (by omega)];go_enter Tryz.func265,Tryz.ntmps265;go_wp2;go_ret;exact⟨rfl,zaa (Below.refl _ _) _⟩
 ·obtain⟨n,rfl⟩:∃n:Nat,c=n:=⟨c.toNat,by omega⟩
  have hz:((n:Int)== -1)=false:=by rw[beq_eq_false_iff_ne];exact hn
  have hw:IntKind.u64.wrap (n:Int)=(n:Int):=by simp only[IntKind.wrap_u64];omega
  unfold begB;rw[if_neg (by omega),Int.toNat_natCast];cases m
  ·have HP:=hid (fun W=>zfy 4 n (by omega) W)
   rw[show((4:Int)%8).toNat=4 from rfl] at HP;simp only[Bool.false_eq_true,if_false];generalize (⟨(zcd 4 n).toArray⟩:ByteArray)=Z at *
   clear hn;go_enter Tryz.func265,Tryz.ntmps265;(go_wp2_with fail);refine(HP.out _).mono ?_;rintro r w1 ⟨rfl,b1⟩;have B1:=hid (zab (zaa (Below.refl _ _) _) b1);clear b1;go_wp2;go_ret;exact⟨rfl,B1.out⟩
  ·have HP:=hid (fun W=>zfy 5 n (by omega) W)
   rw[show((5:Int)%8).toNat=5 from rfl] at HP;simp only[if_true];generalize (⟨(zcd 5 n).toArray⟩:ByteArray)=Z at *
   clear hn;go_enter Tryz.func265,Tryz.ntmps265;(go_wp2_with fail);refine(HP.out _).mono ?_;rintro r w1 ⟨rfl,b1⟩;have B1:=hid (zab (zaa (Below.refl _ _) _) b1);clear b1;go_wp2;go_ret;exact⟨rfl,B1.out⟩
theorem zzi (e:Ev) (hk:e.k=0∨e.k=1∨e.k=2∨e.k=3∨e.k=4) (hm:e.m<18446744073709551616) (ht:e.t.size≤1000) (w:World) :
  Calls Tryz.prog 266 #[valE e] w fun r w'=>r= .returned (.string ⟨(zbl [] e).toArray⟩)∧Below w.heap.size w w':=by
 have a1:=zjn;have a2:=ze7;have a3:=zfq;have a4:=zik;have b1:=fun d h=>zf3 d h
 have b2:=fun d h=>zbv d h
 have b3:=fun d h=>zb4 d h
 have b4:=fun d h=>zf2 d h
 have hB:=hid (Below.refl w.heap.size w);obtain⟨k,y,m,t,c⟩:=e;simp only at hk hm ht;rcases hk with rfl|rfl|rfl|rfl|rfl
 ·have ho:zbl [] ⟨0,y,m,t,c⟩=[246]:=by simp[zbl]
  rw[ho];have p1:∀W,(Instr.typeAssert .nilIface 20 4 true).run Tryz.prog W= .ok (.tuple #[.bool false,.bool false]) W:=fun W=>by kernel_rfl
  have p2:∀W,(Instr.typeAssert .nilIface 20 93 true).run Tryz.prog W= .ok (.tuple #[.agg #[.bool false,.int .u64 0],.bool false]) W:=fun W=>by kernel_rfl
  have p3:∀W,(Instr.typeAssert .nilIface 20 179 true).run Tryz.prog W= .ok (.tuple #[.string ⟨#[]⟩,.bool false]) W:=fun W=>by kernel_rfl
  have p4:∀W,(Instr.typeAssert .nilIface 20 181 true).run Tryz.prog W= .ok (.tuple #[.string ⟨#[]⟩,.bool false]) W:=fun W=>by kernel_rfl
  clear ho hm ht;simp only[valE];go_enter Tryz.func266,Tryz.ntmps266;go_wp2;go_ret;exact⟨rfl,by repeat (first | exact Below.refl _ _|refine zaa ?_ _)⟩
 ·have ho:zbl [] ⟨1,y,m,t,c⟩=[if y=true then 245 else 244]:=by simp[zbl]
  rw[ho];have HQ:=hid (fun W=>zaed y W);have hZ:(⟨[if y=true then(245:UInt8) else 244].toArray⟩:ByteArray)=⟨#[if y=true then 245 else 244]⟩:=rfl;rw[hZ];clear ho hm ht hZ;generalize (⟨#[if y=true then(245:UInt8) else 244]⟩:ByteArray)=Z at *
  simp only[valE];go_enter Tryz.func266,Tryz.ntmps266;(go_wp2_with fail);refine(HQ.out _).mono ?_;rintro r w1 ⟨rfl,rfl⟩;go_wp2;go_ret;exact⟨rfl,hB.out⟩
 ·have ho:zbl [] ⟨2,y,m,t,c⟩=zcd (if y=true then 1 else 0) m:=by simp[zbl]
  rw[ho];have HP:=hid (fun W=>zy5 y m hm W);generalize (⟨(zcd (if y=true then 1 else 0) m).toArray⟩:ByteArray)=Z at *
  clear ho ht;simp only[valE];go_enter Tryz.func266,Tryz.ntmps266;(go_wp2_with fail);refine(HP.out _).mono ?_;rintro r w1 ⟨rfl,hb⟩;have HB1:=hid (zab (zaa hB.out _) hb);clear hb;go_wp2;go_ret;exact⟨rfl,HB1.out⟩
 ·have ho:zbl [] ⟨3,y,m,t,c⟩=zcd 3 t.data.toList.length++t.data.toList:=by simp[zbl]
  rw[ho];have HP:=hid (fun W=>zr2 3 (by omega) t (by omega) W);generalize (⟨(zcd 3 t.data.toList.length++t.data.toList).toArray⟩:ByteArray)=Z at *
  clear ho hm;simp only[valE];go_enter Tryz.func266,Tryz.ntmps266;(go_wp2_with fail);refine(HP.out _).mono ?_;rintro r w1 ⟨rfl,hb⟩;have HB1:=hid (zab (zaa hB.out _) hb);clear hb;go_wp2;go_ret;exact⟨rfl,HB1.out⟩
 ·have ho:zbl [] ⟨4,y,m,t,c⟩=zcd 2 t.data.toList.length++t.data.toList:=by simp[zbl]
  rw[ho];have HP:=hid (fun W=>zr2 2 (by omega) t (by omega) W);generalize (⟨(zcd 2 t.data.toList.length++t.data.toList).toArray⟩:ByteArray)=Z at *
  clear ho hm;simp only[valE];go_enter Tryz.func266,Tryz.ntmps266;(go_wp2_with fail);refine(HP.out _).mono ?_;rintro r w1 ⟨rfl,hb⟩;have HB1:=hid (zab (zaa hB.out _) hb);clear hb;go_wp2;go_ret;exact⟨rfl,HB1.out⟩
end
section
open Go.RowKit
open Go.Lib
theorem QAt.whole {w:World} {b o:Nat} {F:List Nat} {s:List Bx} {d:Bool} (h:QAt w b o F ⟨s,d⟩) (D:Bool) (hD:D=true→s=[]):QAt (w.setCell ⟨b,o+1,none⟩ (.bool D)) b o F ⟨s,D⟩∧Jf b o F F w (w.setCell ⟨b,o+1,none⟩ (.bool D)):=by
 obtain⟨a,cp,hA,hW,hF⟩:=h.cells;obtain⟨cs,t,fr,hc,ht⟩:=h.blk;have hap:b∉Value.owner (.slice a s.length cp):=hW.apart hc (fun e=>ht e.symm);have hset:=hA.set 1 (by simp) (.bool D);exact⟨⟨⟨a,cp,by simpa using hset,hW.setCell_far hap _,hF⟩,⟨_,t,fr,zai w ⟨b,o+1,none⟩ _ _ _ _ rfl hc,ht⟩,hD,h.wf⟩,(Jf.refl b o F w).set (o+1) _ (by omega)⟩
theorem QAt.pair {w:World} {b o:Nat} {F:List Nat} {q:Kq} (h:QAt w b o F q):∃a cp,(w.cell? ⟨b,o,none⟩=some (.slice a q.s.length cp)∧w.frozen? ⟨b,o,none⟩=false)∧(∃u,w.cell? ⟨b,o+1,none⟩=some u)∧w.frozen? ⟨b,o+1,none⟩=false:=by
 obtain⟨a,cp,hA,_,_⟩:=h.cells;obtain⟨⟨c0,f0⟩,⟨c1,f1⟩⟩:=zb6 hA;exact⟨a,cp,⟨c0,f0⟩,⟨_,c1⟩,f1⟩
theorem zvr (s:List Bx):((s.length:Int)==0)=s.isEmpty:=by
  cases s with
  | nil=>rfl
  | cons x r =>
    rw[Bool.eq_iff_iff];simp;omega
theorem endQ {w:World} {b o:Nat} {F:List Nat} {x:Bx} {r:List Bx} (h:QAt w b o F ⟨x::r,false⟩) (hs:r.length≤999) :
  Calls Tryz.prog 262 #[.pointer (some ⟨b,o,none⟩)] w fun q w'=>q= .returned (.string ⟨(if x.c<0 then [(255:UInt8)] else []).toArray⟩)∧QAt w' b o F ⟨r,r.isEmpty⟩∧Jf b o F F w w':=by
 have HL:=hid (zakw h hs);have hx:=h.wf x (by simp);have hO:(⟨(if x.c<0 then [(255:UInt8)] else []).toArray⟩:ByteArray)=⟨(if(x.c != -1)=true then [] else [(255:UInt8)]).toArray⟩:=by
  by_cases hc:x.c= -1
  ·rw[if_pos (by omega),if_neg (by simp[hc])]
  ·rw[if_neg (by omega),if_pos (by simpa using hc)]
 rw[hO];generalize (x.c != -1)=C at *
 have HE:=hid (fun W=>zahx C W);generalize (⟨(if C=true then [] else [(255:UInt8)]).toArray⟩:ByteArray)=Z at *
 have he:=zvr r;have hE0:r.isEmpty=true→r=[]:=fun e=>by simpa using e
 generalize r.isEmpty=E at *
 have HE0:=hid hE0;clear h hx hO hE0;go_enter Tryz.func262,Tryz.ntmps262;(go_wp2_with fail);refine HL.out.mono ?_;rintro e w1 ⟨rfl,hj,hf⟩;obtain⟨a,cp,⟨c0,f0⟩,⟨u,c1⟩,f1⟩:=hj.pair;have hw:=hj.whole E HE0.out;have HW:=hid (And.intro hw.1 (hf.trans hw.2));simp only at c0;generalize r.length=n' at *
 clear hj hf hw;(go_wp2_with fail);refine(HE.out _).mono ?_;rintro e w2 ⟨rfl,rfl⟩;go_wp2;go_ret;exact⟨rfl,HW.out⟩
theorem QAt.count {w:World} {b o:Nat} {F:List Nat} {s:List Bx} (h:QAt w b o F ⟨s,false⟩) (hs:dpQ s≤1000) (hf:fulT s=false):∃a cp,(∀w',Below w.heap.size w w'→w'.cell? ⟨b,o,none⟩=some (.slice a s.length cp)) ∧
  (∀w',Below w.heap.size w w'→Calls Tryz.prog 263 #[.slice a s.length cp] w' fun r w2=>r= .returned (.tuple #[])∧QAt w2 b o F ⟨incB s,false⟩∧Jf b o F F w w2):=by
 obtain⟨a,cp,hA,hW,hF⟩:=h.cells;obtain⟨cs,t,fr,hc,ht⟩:=h.blk;have hlt:=h.lt;refine⟨a,cp,fun w' k=>(hA.keep (k.block b hlt) 0 _ rfl).1,fun w' k=> ?_⟩;have hWk:Win w' 284 3 (.slice a s.length cp) s.length (kcL s):=hW.keep fun i hi=>k.block i (hW.lt i hi)
 refine(zud hWk hs).mono ?_;rintro r w2 ⟨h1,h2,h3⟩;have hbF:b∉F:=fun hk=>(h.row b hk).2.1 rfl
 rw[hF] at h3;have hlt':b<w'.heap.size:=Nat.lt_of_lt_of_le hlt k.size;have hblk:w2.heap[b]? = w.heap[b]? :=(h3.block b hlt' hbF).trans (k.block b hlt);have hl:(incB s).length=s.length:=by cases s <;>rfl
 refine⟨h1,⟨⟨a,cp,?_,?_,?_⟩,⟨cs,t,fr,hblk.trans hc,ht⟩,fun e=>(by cases e),h.wf.inc hf⟩,?_⟩
 ·simp only[hl]
  exact hA.keep hblk
 ·simp only[hl]
  exact h2
 ·simp only[hl]
  exact hF
 ·have hj:Jf b o F F w' w2:=⟨⟨h3.os,h3.tape,h3.output,h3.size,fun i hi hn=>h3.block i hi (fun e=>hn (List.mem_cons_of_mem _ e)),fun i hi=> .inl hi⟩,fun c1 t1 fr1 h1=>⟨c1,(h3.block b hlt' hbF).trans h1,rfl⟩,fun i _=>World.cell?_of_block (w:=w') (h3.block b hlt' hbF)⟩
  exact(Jf.of k hlt).trans hj
theorem zuv {w:World} {b o:Nat} {F:List Nat} {x:Bx} {r:List Bx} (h:QAt w b o F ⟨x::r,false⟩) (hs:r.length≤999) (v:Value)
  (hC:∀W,(Instr.typeAssert v 20 169 true).run Tryz.prog W= .ok (.tuple #[.agg #[],.bool true]) W) :
  Calls Tryz.prog 258 #[.pointer (some ⟨b,o,none⟩),v] w fun q w'=>q= .returned (.string ⟨(if x.c<0 then [(255:UInt8)] else []).toArray⟩)∧QAt w' b o F ⟨r,r.isEmpty⟩∧Jf b o F F w w':=by
 have HE:Hid (∀X,Calls Tryz.prog 262 #[.pointer (some ⟨b,o,none⟩)] (w.alloc X) fun q w'=>q= .returned (.string ⟨(if x.c<0 then [(255:UInt8)] else []).toArray⟩)∧QAt w' b o F ⟨r,r.isEmpty⟩∧Jf b o F F w w'):=hid (fun X=>by
  refine(endQ (h.alloc X) hs).mono ?_;rintro q w' ⟨h1,h2,h3⟩;exact⟨h1,h2,(Jf.of (zaa (Below.refl _ _) X) h.lt).trans h3⟩)
 generalize (⟨(if x.c<0 then [(255:UInt8)] else []).toArray⟩:ByteArray)=Z at *
 clear h;go_enter Tryz.func258,Tryz.ntmps258;(go_wp2_with fail);refine(HE.out _).mono ?_;rintro q w1 ⟨rfl,hj⟩;have HJ:=hid hj;clear hj;go_wp2;go_ret;exact⟨rfl,HJ.out⟩
theorem zqk {w:World} {b o:Nat} {F:List Nat} {s:List Bx} (h:QAt w b o F ⟨s,false⟩) (hs:dpQ s≤900) (hf:fulT s=false) (v:Value) (m:Bool) (c:Int) (hc: -1≤c∧c≤9223372036854775807)
    (hC:∀W,(Instr.typeAssert v 20 169 true).run Tryz.prog W= .ok (.tuple #[.agg #[],.bool false]) W)
    (hB:∀W,(Instr.typeAssert v 20 166 true).run Tryz.prog W= .ok (.tuple #[.agg #[.bool m,.int .i64 c],.bool true]) W) :
    Calls Tryz.prog 258 #[.pointer (some ⟨b,o,none⟩),v] w fun r w'=>r= .returned (.string ⟨(begB m c).toArray⟩)∧∃F',QAt w' b o F' ⟨⟨m,c,0⟩::incB s,false⟩∧Jf b o F F' w w':=by
  obtain⟨a,cp,hc0,hN⟩:=h.count (by omega) hf;have hb:=h.lt;have HC0:=hid hc0;have HN:=hid hN;have HB0:=hid hb;have hlen:(incB s).length≤1000:=Nat.le_trans (zj0 _) (Nat.le_trans (zaf2 s) (by omega));have hE:∀w2,QAt w2 b o F ⟨incB s,false⟩→Jf b o F F w w2→Calls Tryz.prog 264 #[.pointer (some ⟨b,o,none⟩),.agg #[.bool m,.int .i64 c]] (w2.alloc (.cells #[.bool m,.int .i64 c] 166)).drew fun e w'=>e= .returned (.tuple #[])∧(w'.cell? ⟨w2.heap.size,0,none⟩=some (.bool m)∧w'.cell? ⟨w2.heap.size,1,none⟩=some (.int .i64 c)) ∧
      Hid (∀w3,Below w'.heap.size w' w3→∃F',QAt w3 b o F' ⟨⟨m,c,0⟩::incB s,false⟩∧Jf b o F F' w w3):=by
    intro w2 q2 j2;have q3:=(q2.alloc (.cells #[.bool m,.int .i64 c] 166)).drewN 1;refine(zaju q3 hlen m c hc).mono ?_;rintro e w' ⟨h1,F',h2,h3⟩;have hblk:w'.heap[w2.heap.size]? =(w2.alloc (.cells #[.bool m,.int .i64 c] 166)).heap[w2.heap.size]? := by
      refine h3.step.block w2.heap.size (by show w2.heap.size<(w2.alloc _).heap.size;simp) ?_;intro hm;rcases List.mem_cons.1 hm with e|hm
      · have:=q2.lt
        omega
      · have:=(q2.row _ hm).1
        omega
    have hB:=zag w2 #[.bool m,.int .i64 c] 166;refine⟨h1,⟨(World.cell?_of_block (w:=(w2.alloc (.cells #[.bool m,.int .i64 c] 166))) hblk).trans (hB.cell 0),(World.cell?_of_block (w:=(w2.alloc (.cells #[.bool m,.int .i64 c] 166))) hblk).trans (hB.cell 1)⟩,hid fun w3 k=>⟨F',h2.go k,?_⟩⟩;have j3:Jf b o F F w (w2.alloc (.cells #[.bool m,.int .i64 c] 166)).drew:=(j2.up HB0.out (zaa (Below.refl _ _) _)).drewN 1;exact(j3.trans h3).up HB0.out k
  have HE:=hid hE;have HG:=hid (fun W=>zaaq m c hc W);generalize (⟨(begB m c).toArray⟩:ByteArray)=Z at *
  clear h hs hf hc hc0 hN hb hlen hE;go_enter Tryz.func258,Tryz.ntmps258;have B0:=hid (zaa (Below.refl w.heap.size w) (.cells #[] 169));have d0:=HC0.out _ B0.out;(go_wp2_with fail);refine(HN.out _ B0.out).mono ?_;rintro r w2 ⟨rfl,q2,j2⟩;have H2:=hid (HE.out w2 q2 j2);have EB:Hid (Blk (w2.alloc (.cells #[.bool m,.int .i64 c] 166)) w2.heap.size #[.bool m,.int .i64 c] 166):=hid (zag w2 #[.bool m,.int .i64 c] 166);have x0:(w2.alloc (.cells #[.bool m,.int .i64 c] 166)).cell? ⟨w2.heap.size,0,none⟩=some (.bool m):=EB.out.cell 0;have x1:(w2.alloc (.cells #[.bool m,.int .i64 c] 166)).cell? ⟨w2.heap.size,1,none⟩=some (.int .i64 c):=EB.out.cell 1;clear q2 j2 EB;(go_wp2_with fail)
  go_region_with (go_at_call 264;refine(H2.out).mono ?_;rintro r w3 ⟨rfl,⟨y0,y1⟩,HF⟩)
  all_goals
    clear x0 x1;(go_wp2_with fail);refine(HG.out _).mono ?_;rintro r w4 ⟨rfl,b4⟩;have HF2:=hid (HF.out _ b4);clear b4;go_wp2;go_ret;exact⟨rfl,HF2.out⟩
end
section
open Go.RowKit
open Go.Lib
theorem zuh {w:World} {b o:Nat} {F:List Nat} {s:List Bx} (h:QAt w b o F ⟨s,false⟩) (hs:dpQ s≤900) (hf:fulT s=false) (v:Value) (T:ByteArray)
  (hC:∀W,(Instr.typeAssert v 20 169 true).run Tryz.prog W= .ok (.tuple #[.agg #[],.bool false]) W)
  (hB:∀W,(Instr.typeAssert v 20 166 true).run Tryz.prog W= .ok (.tuple #[.agg #[.bool false,.int .i64 0],.bool false]) W)
  (hX:∀W,Calls Tryz.prog 266 #[v] W fun r w'=>r= .returned (.string T)∧Below W.heap.size W w') :
  Calls Tryz.prog 258 #[.pointer (some ⟨b,o,none⟩),v] w fun r w'=>r= .returned (.string T)∧QAt w' b o F ⟨incB s,s.isEmpty⟩∧Jf b o F F w w':=by
 obtain⟨a,cp,hc0,hN⟩:=h.count (by omega) hf;have hb:=h.lt;have HC0:=hid hc0;have HN:=hid hN;have HB0:=hid hb;have he:=zvr s;have hl:(incB s).length=s.length:=by cases s <;>rfl
 have hE0:s.isEmpty=true→incB s=[]:=fun e=>by
  have:s=[]:=by simpa using e
  rw[this];rfl
 have HE0:=hid hE0;have HX:=hid hX;generalize s.isEmpty=E at *
 have HL:=hid hl;clear h hs hf hc0 hN hb hE0 hX hl;go_enter Tryz.func258,Tryz.ntmps258;have B0:=hid (zaa (Below.refl w.heap.size w) (.cells #[] 169));have d0:=HC0.out _ B0.out;(go_wp2_with fail);refine(HN.out _ B0.out).mono ?_;rintro r w2 ⟨rfl,q2,j2⟩;have q3:=q2.alloc (.cells #[.bool false,.int .i64 0] 166);have j3:=j2.up HB0.out (zaa (Below.refl _ _) (.cells #[.bool false,.int .i64 0] 166));obtain⟨a2,cp2,⟨c0,f0⟩,⟨u,c1⟩,f1⟩:=q3.pair;simp only[HL.out] at c0;have hw:=q3.whole E HE0.out;have HW:Hid (∀w',Below ((w2.alloc (.cells #[.bool false,.int .i64 0] 166)).setCell ⟨b,o+1,none⟩ (.bool E)).heap.size ((w2.alloc (.cells #[.bool false,.int .i64 0] 166)).setCell ⟨b,o+1,none⟩ (.bool E)) w'→QAt w' b o F ⟨incB s,E⟩∧Jf b o F F w w'):=hid (fun w' k=>⟨hw.1.go k,(j3.trans hw.2).up HB0.out k⟩);generalize s.length=n' at *
 clear hw q2 q3 j2 j3;(go_wp2_with fail);refine(HX.out _).mono ?_;rintro r w4 ⟨rfl,b4⟩;have H4:=hid (HW.out _ b4);clear b4;go_wp2;go_ret;exact⟨rfl,H4.out⟩
theorem zaj4 {w:World} {b o:Nat} {F:List Nat} {q:Kq} (h:QAt w b o F q) (v:Value) (n:Nat) (hn:n=14∨n=8)
  (hR:Calls Tryz.prog 257 #[.pointer (some ⟨b,o,none⟩),v] w fun r w'=>r= .returned (.int .i64 n)∧Below w.heap.size w w') :
  Calls Tryz.prog 256 #[.pointer (some ⟨b,o,none⟩),v] w fun r w'=>r= .returned (.tuple #[.string ⟨#[]⟩,.int .i64 n])∧QAt w' b o F q∧Jf b o F F w w':=by
 have HR:=hid hR;have HF:Hid (∀w',Below w.heap.size w w'→QAt w' b o F q∧Jf b o F F w w'):=hid (fun w' k=>⟨h.go k,Jf.of k h.lt⟩);clear h hR;rcases hn with rfl|rfl
 all_goals
  go_enter Tryz.func256,Tryz.ntmps256;(go_wp2_with fail);refine HR.out.mono ?_;rintro r w1 ⟨rfl,b1⟩;have H1:=hid (HF.out _ b1);clear b1;go_wp2;go_ret2;exact⟨rfl,H1.out⟩
theorem zag5 {w:World} {b o:Nat} {F:List Nat} {q:Kq} (h:QAt w b o F q) (v:Value) (T:ByteArray) (q':Kq)
  (hR:Calls Tryz.prog 257 #[.pointer (some ⟨b,o,none⟩),v] w fun r w'=>r= .returned (.int .i64 0)∧Below w.heap.size w w')
  (hW:∀W,Below w.heap.size w W→Calls Tryz.prog 258 #[.pointer (some ⟨b,o,none⟩),v] W fun r w'=>r= .returned (.string T)∧∃F',QAt w' b o F' q'∧Jf b o F F' W w') :
  Calls Tryz.prog 256 #[.pointer (some ⟨b,o,none⟩),v] w fun r w'=>r= .returned (.tuple #[.string T,.int .i64 0])∧∃F',QAt w' b o F' q'∧Jf b o F F' w w':=by
 have HR:=hid hR;have HW:=hid hW;have hb:=h.lt;clear h hR hW;have HB:=hid hb;clear hb;go_enter Tryz.func256,Tryz.ntmps256;(go_wp2_with fail);refine HR.out.mono ?_;rintro r w1 ⟨rfl,b1⟩;have H1:=hid b1;clear b1;(go_wp2_with fail);refine(HW.out _ H1.out).mono ?_;rintro r w2 ⟨rfl,F',hj,hf⟩;have H2:Hid (∃F',QAt w2 b o F' q'∧Jf b o F F' w w2):=hid ⟨F',hj,(Jf.of H1.out HB.out).trans hf⟩;clear hj hf;go_wp2;go_ret2;exact⟨rfl,H2.out⟩
theorem zs6 {e:Ev} (h56:e.k=5∨e.k=6) (s:List Bx):zbl s e=begB (decide (e.k=6)) e.c:=by
 unfold zbl begB;rw[if_neg (by omega),if_neg (by omega),if_neg (by omega),if_neg (by omega),if_neg (by omega)];by_cases h6:e.k=6
 ·simp[h6]
 ·simp[h6]
theorem zais {w:World} {b o:Nat} {F:List Nat} {q:Kq} (h:QAt w b o F q) (hs:dpQ q.s≤900) (e:Ev) (hm:mayE e) (hok:EvOk e) (ht:e.t.size≤1000) :
    Calls Tryz.prog 256 #[.pointer (some ⟨b,o,none⟩),valE e] w fun r w'=>r= .returned (.tuple #[.string ⟨(zb0 q e).1.1.toArray⟩,.int .i64 ((zb0 q e).1.2:Nat)])∧∃F',QAt w' b o F' (zb0 q e).2∧Jf b o F F' w w':=by
  have hR:=zadx h (by omega) e hm;have bad:∀n:Nat,(n=14∨n=8)→zb0 q e=(([],n),q)→Calls Tryz.prog 256 #[.pointer (some ⟨b,o,none⟩),valE e] w fun r w'=>r= .returned (.tuple #[.string ⟨(zb0 q e).1.1.toArray⟩,.int .i64 ((zb0 q e).1.2:Nat)])∧∃F',QAt w' b o F' (zb0 q e).2∧Jf b o F F' w w':=by
    intro n hn hq;rw[hq] at hR ⊢;refine(zaj4 h (valE e) n hn hR).mono ?_;rintro r w' ⟨h1,h2,h3⟩;exact⟨h1,F,h2,h3⟩
  have hC:=zct e hm;have hB:=zdi e hm;obtain⟨s,dn⟩:=q;simp only at hs;have hl:=zj0 s;cases dn with
  | true=>exact bad 14 (.inl rfl) (zok ⟨s,true⟩ e (.inr rfl))
  | false =>
    by_cases h7:e.k=7
    · cases s with
      | nil=>exact bad 14 (.inl rfl) (zjx hm h7)
      | cons x r =>
        by_cases ho:zet x
        · exact bad 14 (.inl rfl) (zkn hm h7 ho)
        · rw[znv hm h7 ho] at hR ⊢
          rw[decide_eq_true h7] at hC;refine zag5 h (valE e) _ _ hR (fun W k=> ?_);refine(zuv (h.go k) (by simp only[List.length_cons] at hl;omega) (valE e) hC).mono ?_;rintro q w' ⟨h1,h2,h3⟩;refine⟨?_,F,h2,h3⟩;rw[h1];unfold zbl;rw[if_pos h7]
    · rw [decide_eq_false h7] at hC
      by_cases hf:fulT s=true
      · exact bad 14 (.inl rfl) (zk1 hm h7 hf)
      · have hf:fulT s=false:=by simpa using hf
        by_cases hk:keyB s=true∧e.k≠3
        · exact bad 8 (.inr rfl) (zn9 hm h7 hf hk.1 hk.2)
        · by_cases h56:e.k=5∨e.k=6
          · have hkf:keyB s=false:=by
              cases hq:keyB s with
              | false=>rfl
              | true=>exact absurd ⟨hq,by omega⟩ hk
            rw[decide_eq_true h56,if_pos h56] at hB;rw[zj7 hm h56 hf hkf] at hR ⊢;refine zag5 h (valE e) _ _ hR (fun W k=> ?_);refine(zqk (h.go k) hs hf (valE e) (decide (e.k=6)) e.c ⟨hm.2.2 h56,hok.2.2.1.2⟩ hC hB).mono ?_;rintro q w' ⟨h1,F',h2,h3⟩;exact⟨by rw[h1,zs6 h56],F',h2,h3⟩
          · rw[decide_eq_false h56,if_neg h56,decide_eq_false (by omega:¬e.k=6)] at hB
            have hk5:e.k=0∨e.k=1∨e.k=2∨e.k=3∨e.k=4:=by
              have:=zm6 hm;omega
            rw[zm0 hm h7 h56 hf hk] at hR ⊢;refine zag5 h (valE e) _ _ hR (fun W k=> ?_);refine(zuh (h.go k) hs hf (valE e) _ hC hB (fun W'=>zzi e hk5 hok.2.1 ht W')).mono ?_;rintro q w' ⟨h1,h2,h3⟩;exact⟨by rw[h1,ztm h7 s],F,h2,h3⟩
structure QW (w0 w:World) (b:Nat) (F:List Nat) (q:Kq):Prop where
 at_:QAt w b 0 F q
 lo:w0.heap.size≤b
 row:∀k∈F,w0.heap.size≤k
 bel:Below w0.heap.size w0 w
 typ:∃cs fr,w.heap[b]? = some (.cells cs 108 fr)
theorem QW.next {w0 w w':World} {b:Nat} {F F':List Nat} {q q':Kq} (h:QW w0 w b F q) (hj:QAt w' b 0 F' q') (k:Jf b 0 F F' w w'):QW w0 w' b F' q':=by
 have h1:=k.step.low (B:=w0.heap.size) (fun i hi=>(List.mem_cons.1 hi).elim (fun e=>e▸h.lo) (fun hi=>h.row i hi)) h.bel.size;obtain⟨cs,fr,hc⟩:=h.typ;obtain⟨c',hc',_⟩:=k.shape _ _ _ hc;exact⟨hj,h.lo,fun i hi=>h1 i (List.mem_cons_of_mem _ hi),h.bel.trans (k.below h.lo h.row h.bel.size),c',fr,hc'⟩
theorem zahl {w0 w:World} {b:Nat} {F:List Nat} {q:Kq} (h:QW w0 w b F q) (hs:dpQ q.s≤900) (e:Ev) (hm:mayE e) (hok:EvOk e) (ht:e.t.size≤1000) :
  Calls Tryz.prog 256 #[.pointer (some ⟨b,0,none⟩),valE e] w fun r w'=>r= .returned (.tuple #[.string ⟨(zb0 q e).1.1.toArray⟩,.int .i64 ((zb0 q e).1.2:Nat)])∧∃F',QW w0 w' b F' (zb0 q e).2∧Jf b 0 F F' w w':=by
 refine(zais h.at_ hs e hm hok ht).mono ?_;rintro r w' ⟨h1,F',h2,h3⟩;exact⟨h1,F',h.next h2 h3,h3⟩
theorem zajs (w0 w:World) (hb:Below w0.heap.size w0 w):QW w0 (w.alloc (.cells #[.slice none 0 0,.bool false] 108)) w.heap.size [] ⟨[],false⟩ :=
 ⟨⟨⟨none,0,zjf (heap_alloc_new w _),Win.nil_ _ _ _,rfl⟩,⟨_,_,_,heap_alloc_new w _,by decide⟩,fun e=>(by cases e),fun x hx=>(by simp at hx)⟩,hb.size,fun k hk=>(by simp at hk),zaa hb _,_,_,heap_alloc_new w _⟩
theorem QW.off {w0 w w':World} {b:Nat} {F F':List Nat} {q:Kq} (h:QW w0 w b F q) (k:Jf b 0 F F' w w'):Off [108,284] w w':=by
 intro i c t fr hi ht;have hlt:=(Array.getElem?_eq_some_iff.1 hi).1;rw[k.step.block i hlt ?_]
 ·exact hi
 ·intro hm
  rcases List.mem_cons.1 hm with e|hm
  ·subst e
   obtain⟨cs,fr',hc⟩:=h.typ;rw[hi] at hc;cases hc;exact ht (by simp)
  ·obtain⟨_,_,cur,hc⟩:=h.at_.row i hm
   rw[hi] at hc;cases hc;exact ht (by simp)
end
section
open Go.RowKit
open Go.Lib
theorem zjl (s:List Bx) (e:Ev) (ht:e.t.size≤1000):(zbl s e).length≤2000:=by
 have h1:e.t.data.toList.length=e.t.size:=Array.length_toList;unfold zbl;split
 ·split
  ·simp
  ·split <;>simp
 split
 ·simp
 split
 ·simp
 split
 ·exact Nat.le_trans (zf6 _ _) (by decide)
 split
 ·rw[List.length_append]
  have:=zf6 (if e.k=3 then 3 else 2) e.t.data.toList.length;omega
 split
 ·simp
 ·exact Nat.le_trans (zf6 _ _) (by decide)
theorem zu7 (q:Kq) (e:Ev) (ht:e.t.size≤1000):(zb0 q e).1.1.length≤2000:=by
  unfold zb0;split
  · simp
  · split
    · split
      · simp
      · split
        · simp
        · dsimp only
          exact zjl _ _ ht
    · split
      · simp
      · split
        · simp
        · split <;>exact zjl _ _ ht
end
section
open Go.RowKit
open Go.Lib
theorem PoAt.whole {w:World} {b o:Nat} {F:List Nat} {s:List Bx} {d:Bool} (h:PoAt w b o F ⟨s,d⟩) (D:Bool) (hD:D=true→s=[]):PoAt (w.setCell ⟨b,o+1,none⟩ (.bool D)) b o F ⟨s,D⟩∧Jf b o F F w (w.setCell ⟨b,o+1,none⟩ (.bool D)):=by
 obtain⟨a,cp,hA,hW,hF⟩:=h.cells;obtain⟨cs,t,fr,hc,ht⟩:=h.blk;have hap:b∉Value.owner (.slice a s.length cp):=hW.apart hc (fun e=>ht e.symm);have hset:=hA.set 1 (by simp) (.bool D);exact⟨⟨⟨a,cp,by simpa using hset,hW.setCell_far hap _,hF⟩,⟨_,t,fr,zai w ⟨b,o+1,none⟩ _ _ _ _ rfl hc,ht⟩,hD,h.wf⟩,(Jf.refl b o F w).set (o+1) _ (by omega)⟩
theorem PoAt.pair {w:World} {b o:Nat} {F:List Nat} {q:Kq} (h:PoAt w b o F q):∃a cp,(w.cell? ⟨b,o,none⟩=some (.slice a q.s.length cp)∧w.frozen? ⟨b,o,none⟩=false)∧(∃u,w.cell? ⟨b,o+1,none⟩=some u)∧w.frozen? ⟨b,o+1,none⟩=false:=by
 obtain⟨a,cp,hA,_,_⟩:=h.cells;obtain⟨⟨c0,f0⟩,⟨c1,f1⟩⟩:=zb6 hA;exact⟨a,cp,⟨c0,f0⟩,⟨_,c1⟩,f1⟩
theorem zr7 (s:List Bx):((s.length:Int)==0)=s.isEmpty:=by
  cases s with
  | nil=>rfl
  | cons x r =>
    rw[Bool.eq_iff_iff];simp;omega
theorem PoAt.count {w:World} {b o:Nat} {F:List Nat} {s:List Bx} (h:PoAt w b o F ⟨s,false⟩) (hs:s.length≤1000) (hf:fulT s=false):∃a cp,(∀w',Below w.heap.size w w'→w'.cell? ⟨b,o,none⟩=some (.slice a s.length cp)) ∧
  (∀w',Below w.heap.size w w'→Calls Tryz.prog 287 #[.slice a s.length cp] w' fun r w2=>r= .returned (.tuple #[])∧PoAt w2 b o F ⟨incB s,false⟩∧Jf b o F F w w2):=by
 obtain⟨a,cp,hA,hW,hF⟩:=h.cells;obtain⟨cs,t,fr,hc,ht⟩:=h.blk;have hlt:=h.lt;refine⟨a,cp,fun w' k=>(hA.keep (k.block b hlt) 0 _ rfl).1,fun w' k=> ?_⟩;have hWk:Win w' 288 2 (.slice a s.length cp) s.length (rcL s):=hW.keep fun i hi=>k.block i (hW.lt i hi)
 refine(zsj hWk hs h.wf hf).mono ?_;rintro r w2 ⟨h1,h2,h3⟩;have hbF:b∉F:=fun hk=>(h.row b hk).2.1 rfl
 rw[hF] at h3;have hlt':b<w'.heap.size:=Nat.lt_of_lt_of_le hlt k.size;have hblk:w2.heap[b]? = w.heap[b]? :=(h3.block b hlt' hbF).trans (k.block b hlt);have hl:(incB s).length=s.length:=by cases s <;>rfl
 refine⟨h1,⟨⟨a,cp,?_,?_,?_⟩,⟨cs,t,fr,hblk.trans hc,ht⟩,fun e=>(by cases e),h.wf.inc hf⟩,?_⟩
 ·simp only[hl]
  exact hA.keep hblk
 ·simp only[hl]
  exact h2
 ·simp only[hl]
  exact hF
 ·have hj:Jf b o F F w' w2:=⟨⟨h3.os,h3.tape,h3.output,h3.size,fun i hi hn=>h3.block i hi (fun e=>hn (List.mem_cons_of_mem _ e)),fun i hi=> .inl hi⟩,fun c1 t1 fr1 h1=>⟨c1,(h3.block b hlt' hbF).trans h1,rfl⟩,fun i _=>World.cell?_of_block (w:=w') (h3.block b hlt' hbF)⟩
  exact(Jf.of k hlt).trans hj
theorem zsr {w:World} {b o:Nat} {F:List Nat} {x:Bx} {r:List Bx} (h:PoAt w b o F ⟨x::r,false⟩) (hs:r.length≤999) (v:Value)
  (hC:∀W,(Instr.typeAssert v 20 169 true).run Tryz.prog W= .ok (.tuple #[.agg #[],.bool true]) W) :
  Calls Tryz.prog 281 #[.pointer (some ⟨b,o,none⟩),v] w fun q w'=>q= .returned (.string ⟨#[]⟩)∧PoAt w' b o F ⟨r,r.isEmpty⟩∧Jf b o F F w w':=by
 have HL:Hid (∀X,Calls Tryz.prog 286 #[.pointer (some ⟨b,o,none⟩)] (w.alloc X) fun q w'=>q= .returned (.tuple #[])∧PoAt w' b o F ⟨r,false⟩∧Jf b o F F w w'):=hid (fun X=>by
  refine(zajr (h.alloc X) hs).mono ?_;rintro q w' ⟨h1,h2,h3⟩;exact⟨h1,h2,(Jf.of (zaa (Below.refl _ _) X) h.lt).trans h3⟩)
 have he:=zr7 r;have hE0:r.isEmpty=true→r=[]:=fun e=>by simpa using e
 generalize r.isEmpty=E at *
 have HE0:=hid hE0;clear h hE0;go_enter Tryz.func281,Tryz.ntmps281;(go_wp2_with fail);refine(HL.out _).mono ?_;rintro q w1 ⟨rfl,hj,hf⟩;obtain⟨a,cp,⟨c0,f0⟩,⟨u,c1⟩,f1⟩:=hj.pair;have hw:=hj.whole E HE0.out;have HW:=hid (And.intro hw.1 (hf.trans hw.2));simp only at c0;generalize r.length=n' at *
 clear hj hf hw;go_wp2;go_ret;exact⟨rfl,HW.out⟩
theorem zp9 {w:World} {b o:Nat} {F:List Nat} {s:List Bx} (h:PoAt w b o F ⟨s,false⟩) (hs:s.length≤900) (hf:fulT s=false) (v:Value) (m:Bool) (c:Int) (hc:0≤c∧c≤4294967295)
    (hC:∀W,(Instr.typeAssert v 20 169 true).run Tryz.prog W= .ok (.tuple #[.agg #[],.bool false]) W)
    (hB:∀W,(Instr.typeAssert v 20 166 true).run Tryz.prog W= .ok (.tuple #[.agg #[.bool m,.int .i64 c],.bool true]) W) :
    Calls Tryz.prog 281 #[.pointer (some ⟨b,o,none⟩),v] w fun r w'=>r= .returned (.string ⟨(zfh m c.toNat).toArray⟩)∧∃F',PoAt w' b o F' ⟨⟨m,c,0⟩::incB s,false⟩∧Jf b o F F' w w':=by
  obtain⟨a,cp,hc0,hN⟩:=h.count (by omega) hf;have hb:=h.lt;have HC0:=hid hc0;have HN:=hid hN;have HB0:=hid hb;have hlen:(incB s).length≤1000:=by
    have:(incB s).length=s.length:=by cases s <;>rfl
    omega
  have hE:∀w2,PoAt w2 b o F ⟨incB s,false⟩→Jf b o F F w w2→Calls Tryz.prog 288 #[.pointer (some ⟨b,o,none⟩),.agg #[.bool m,.int .i64 c]] (w2.alloc (.cells #[.bool m,.int .i64 c] 166)).drew fun e w'=>e= .returned (.tuple #[])∧(w'.cell? ⟨w2.heap.size,0,none⟩=some (.bool m)∧w'.cell? ⟨w2.heap.size,1,none⟩=some (.int .i64 c)) ∧
      Hid (∀w3,Below w'.heap.size w' w3→∃F',PoAt w3 b o F' ⟨⟨m,c,0⟩::incB s,false⟩∧Jf b o F F' w w3):=by
    intro w2 q2 j2;have q3:=(q2.alloc (.cells #[.bool m,.int .i64 c] 166)).drewN 1;refine(zakh q3 hlen m c hc).mono ?_;rintro e w' ⟨h1,F',h2,h3⟩;have hblk:w'.heap[w2.heap.size]? =(w2.alloc (.cells #[.bool m,.int .i64 c] 166)).heap[w2.heap.size]? := by
      refine h3.step.block w2.heap.size (by show w2.heap.size<(w2.alloc _).heap.size;simp) ?_;intro hm;rcases List.mem_cons.1 hm with e|hm
      · have:=q2.lt
        omega
      · have:=(q2.row _ hm).1
        omega
    have hB:=zag w2 #[.bool m,.int .i64 c] 166;refine⟨h1,⟨(World.cell?_of_block (w:=(w2.alloc (.cells #[.bool m,.int .i64 c] 166))) hblk).trans (hB.cell 0),(World.cell?_of_block (w:=(w2.alloc (.cells #[.bool m,.int .i64 c] 166))) hblk).trans (hB.cell 1)⟩,hid fun w3 k=>⟨F',h2.go k,?_⟩⟩;have j3:Jf b o F F w (w2.alloc (.cells #[.bool m,.int .i64 c] 166)).drew:=(j2.up HB0.out (zaa (Below.refl _ _) _)).drewN 1;exact(j3.trans h3).up HB0.out k
  have HE:=hid hE;have HG:=hid (fun W=>zxd m c hc W);generalize (⟨(zfh m c.toNat).toArray⟩:ByteArray)=Z at *
  clear h hs hf hc hc0 hN hb hlen hE;go_enter Tryz.func281,Tryz.ntmps281;have B0:=hid (zaa (Below.refl w.heap.size w) (.cells #[] 169));have d0:=HC0.out _ B0.out;(go_wp2_with fail);refine(HN.out _ B0.out).mono ?_;rintro r w2 ⟨rfl,q2,j2⟩;have H2:=hid (HE.out w2 q2 j2);have EB:Hid (Blk (w2.alloc (.cells #[.bool m,.int .i64 c] 166)) w2.heap.size #[.bool m,.int .i64 c] 166):=hid (zag w2 #[.bool m,.int .i64 c] 166);have x0:(w2.alloc (.cells #[.bool m,.int .i64 c] 166)).cell? ⟨w2.heap.size,0,none⟩=some (.bool m):=EB.out.cell 0;have x1:(w2.alloc (.cells #[.bool m,.int .i64 c] 166)).cell? ⟨w2.heap.size,1,none⟩=some (.int .i64 c):=EB.out.cell 1;clear q2 j2 EB;(go_wp2_with fail)
  go_region_with (go_at_call 288;refine(H2.out).mono ?_;rintro r w3 ⟨rfl,⟨y0,y1⟩,HF⟩)
  all_goals
    clear x0 x1;(go_wp2_with fail);refine(HG.out _).mono ?_;rintro r w4 ⟨rfl,b4⟩;have HF2:=hid (HF.out _ b4);clear b4;go_wp2;go_ret;exact⟨rfl,HF2.out⟩
end
section
open Go.RowKit
open Go.Lib
theorem zst {w:World} {b o:Nat} {F:List Nat} {s:List Bx} (h:PoAt w b o F ⟨s,false⟩) (hs:s.length≤900) (hf:fulT s=false) (v:Value) (T:ByteArray)
  (hC:∀W,(Instr.typeAssert v 20 169 true).run Tryz.prog W= .ok (.tuple #[.agg #[],.bool false]) W)
  (hB:∀W,(Instr.typeAssert v 20 166 true).run Tryz.prog W= .ok (.tuple #[.agg #[.bool false,.int .i64 0],.bool false]) W)
  (hX:∀W,Calls Tryz.prog 290 #[v] W fun r w'=>r= .returned (.string T)∧Below W.heap.size W w') :
  Calls Tryz.prog 281 #[.pointer (some ⟨b,o,none⟩),v] w fun r w'=>r= .returned (.string T)∧PoAt w' b o F ⟨incB s,s.isEmpty⟩∧Jf b o F F w w':=by
 obtain⟨a,cp,hc0,hN⟩:=h.count (by omega) hf;have hb:=h.lt;have HC0:=hid hc0;have HN:=hid hN;have HB0:=hid hb;have he:=zr7 s;have hl:(incB s).length=s.length:=by cases s <;>rfl
 have hE0:s.isEmpty=true→incB s=[]:=fun e=>by
  have:s=[]:=by simpa using e
  rw[this];rfl
 have HE0:=hid hE0;have HX:=hid hX;generalize s.isEmpty=E at *
 have HL:=hid hl;clear h hs hf hc0 hN hb hE0 hX hl;go_enter Tryz.func281,Tryz.ntmps281;have B0:=hid (zaa (Below.refl w.heap.size w) (.cells #[] 169));have d0:=HC0.out _ B0.out;(go_wp2_with fail);refine(HN.out _ B0.out).mono ?_;rintro r w2 ⟨rfl,q2,j2⟩;have q3:=q2.alloc (.cells #[.bool false,.int .i64 0] 166);have j3:=j2.up HB0.out (zaa (Below.refl _ _) (.cells #[.bool false,.int .i64 0] 166));obtain⟨a2,cp2,⟨c0,f0⟩,⟨u,c1⟩,f1⟩:=q3.pair;simp only[HL.out] at c0;have hw:=q3.whole E HE0.out;have HW:Hid (∀w',Below ((w2.alloc (.cells #[.bool false,.int .i64 0] 166)).setCell ⟨b,o+1,none⟩ (.bool E)).heap.size ((w2.alloc (.cells #[.bool false,.int .i64 0] 166)).setCell ⟨b,o+1,none⟩ (.bool E)) w'→PoAt w' b o F ⟨incB s,E⟩∧Jf b o F F w w'):=hid (fun w' k=>⟨hw.1.go k,(j3.trans hw.2).up HB0.out k⟩);generalize s.length=n' at *
 clear hw q2 q3 j2 j3;(go_wp2_with fail);refine(HX.out _).mono ?_;rintro r w4 ⟨rfl,b4⟩;have H4:=hid (HW.out _ b4);clear b4;go_wp2;go_ret;exact⟨rfl,H4.out⟩
theorem zakb {w:World} {b o:Nat} {F:List Nat} {q:Kq} (h:PoAt w b o F q) (v:Value) (n:Nat) (hn:n=14∨n=8∨n=7)
  (hR:Calls Tryz.prog 280 #[.pointer (some ⟨b,o,none⟩),v] w fun r w'=>r= .returned (.int .i64 n)∧Below w.heap.size w w') :
  Calls Tryz.prog 279 #[.pointer (some ⟨b,o,none⟩),v] w fun r w'=>r= .returned (.tuple #[.string ⟨#[]⟩,.int .i64 n])∧PoAt w' b o F q∧Jf b o F F w w':=by
 have HR:=hid hR;have HF:Hid (∀w',Below w.heap.size w w'→PoAt w' b o F q∧Jf b o F F w w'):=hid (fun w' k=>⟨h.go k,Jf.of k h.lt⟩);clear h hR;rcases hn with rfl|rfl|rfl
 all_goals
  go_enter Tryz.func279,Tryz.ntmps279;(go_wp2_with fail);refine HR.out.mono ?_;rintro r w1 ⟨rfl,b1⟩;have H1:=hid (HF.out _ b1);clear b1;go_wp2;go_ret2;exact⟨rfl,H1.out⟩
theorem zag7 {w:World} {b o:Nat} {F:List Nat} {q:Kq} (h:PoAt w b o F q) (v:Value) (T:ByteArray) (q':Kq)
  (hR:Calls Tryz.prog 280 #[.pointer (some ⟨b,o,none⟩),v] w fun r w'=>r= .returned (.int .i64 0)∧Below w.heap.size w w')
  (hW:∀W,Below w.heap.size w W→Calls Tryz.prog 281 #[.pointer (some ⟨b,o,none⟩),v] W fun r w'=>r= .returned (.string T)∧∃F',PoAt w' b o F' q'∧Jf b o F F' W w') :
  Calls Tryz.prog 279 #[.pointer (some ⟨b,o,none⟩),v] w fun r w'=>r= .returned (.tuple #[.string T,.int .i64 0])∧∃F',PoAt w' b o F' q'∧Jf b o F F' w w':=by
 have HR:=hid hR;have HW:=hid hW;have hb:=h.lt;clear h hR hW;have HB:=hid hb;clear hb;go_enter Tryz.func279,Tryz.ntmps279;(go_wp2_with fail);refine HR.out.mono ?_;rintro r w1 ⟨rfl,b1⟩;have H1:=hid b1;clear b1;(go_wp2_with fail);refine(HW.out _ H1.out).mono ?_;rintro r w2 ⟨rfl,F',hj,hf⟩;have H2:Hid (∃F',PoAt w2 b o F' q'∧Jf b o F F' w w2):=hid ⟨F',hj,(Jf.of H1.out HB.out).trans hf⟩;clear hj hf;go_wp2;go_ret2;exact⟨rfl,H2.out⟩
theorem zt4 {e:Ev} (h56:e.k=5∨e.k=6):zcb e=zfh (decide (e.k=6)) e.c.toNat:=by
 unfold zcb;rw[if_neg (by omega),if_neg (by omega),if_neg (by omega),if_neg (by omega),if_neg (by omega)]
theorem zagn {w:World} {b o:Nat} {F:List Nat} {q:Kq} (h:PoAt w b o F q) (hs:q.s.length≤900) (e:Ev) (hm:mayE e) (hok:EvOk e) (ht:e.t.size≤100000) :
    Calls Tryz.prog 279 #[.pointer (some ⟨b,o,none⟩),valE e] w fun r w'=>r= .returned (.tuple #[.string ⟨(zbp q e).1.1.toArray⟩,.int .i64 ((zbp q e).1.2:Nat)])∧∃F',PoAt w' b o F' (zbp q e).2∧Jf b o F F' w w':=by
  have hR:=zac0 h (by omega) e hm hok;have bad:∀n:Nat,(n=14∨n=8∨n=7)→zbp q e=(([],n),q)→Calls Tryz.prog 279 #[.pointer (some ⟨b,o,none⟩),valE e] w fun r w'=>r= .returned (.tuple #[.string ⟨(zbp q e).1.1.toArray⟩,.int .i64 ((zbp q e).1.2:Nat)])∧∃F',PoAt w' b o F' (zbp q e).2∧Jf b o F F' w w':=by
    intro n hn hq;rw[hq] at hR ⊢;refine(zakb h (valE e) n hn hR).mono ?_;rintro r w' ⟨h1,h2,h3⟩;exact⟨h1,F,h2,h3⟩
  have hC:=zct e hm;have hB:=zdi e hm;obtain⟨s,dn⟩:=q;simp only at hs;cases dn with
  | true=>exact bad 14 (.inl rfl) (znl ⟨s,true⟩ e (.inr rfl))
  | false =>
    by_cases h7:e.k=7
    · cases s with
      | nil=>exact bad 14 (.inl rfl) (zko hm h7)
      | cons x r =>
        by_cases ho:zet x
        · exact bad 14 (.inl rfl) (zks hm h7 ho)
        · rw[znx hm h7 ho] at hR ⊢
          rw[decide_eq_true h7] at hC;refine zag7 h (valE e) _ _ hR (fun W k=> ?_);refine(zsr (h.go k) (by simp only[List.length_cons] at hs;omega) (valE e) hC).mono ?_;rintro q w' ⟨h1,h2,h3⟩;exact⟨h1,F,h2,h3⟩
    · rw [decide_eq_false h7] at hC
      by_cases hf:fulT s=true
      · exact bad 14 (.inl rfl) (zj8 hm h7 hf)
      · have hf:fulT s=false:=by simpa using hf
        by_cases hk:keyB s=true∧e.k≠3
        · exact bad 8 (.inr (.inl rfl)) (zoi hm h7 hf hk.1 hk.2)
        · by_cases hr:zde e
          · exact bad 7 (.inr (.inr rfl)) (zh9 hm h7 hf hk hr)
          by_cases h56:e.k=5∨e.k=6
          · have hkf:keyB s=false:=by
              cases hq:keyB s with
              | false=>rfl
              | true=>exact absurd ⟨hq,by omega⟩ hk
            rw[decide_eq_true h56,if_pos h56] at hB;rw[zj3 hm h56 hf hkf hr] at hR ⊢;refine zag7 h (valE e) _ _ hR (fun W k=> ?_);refine(zp9 (h.go k) hs hf (valE e) (decide (e.k=6)) e.c (by
              unfold zde at hr;omega) hC hB).mono ?_
            rintro q w' ⟨h1,F',h2,h3⟩;exact⟨by rw[h1,zt4 h56],F',h2,h3⟩
          · rw[decide_eq_false h56,if_neg h56,decide_eq_false (by omega:¬e.k=6)] at hB
            have hk5:e.k=0∨e.k=1∨e.k=2∨e.k=3∨e.k=4:=by
              have:=zm6 hm;omega
            rw[znn hm h7 h56 hf hk hr] at hR ⊢;refine zag7 h (valE e) _ _ hR (fun W k=> ?_);refine(zst (h.go k) hs hf (valE e) _ hC hB (fun W'=>zwq e hk5 hok.2.1 hr ht W')).mono ?_;rintro q w' ⟨h1,h2,h3⟩;exact⟨h1,F,h2,h3⟩
structure PoW (w0 w:World) (b:Nat) (F:List Nat) (q:Kq):Prop where
 at_:PoAt w b 0 F q
 lo:w0.heap.size≤b
 row:∀k∈F,w0.heap.size≤k
 bel:Below w0.heap.size w0 w
 typ:∃cs fr,w.heap[b]? = some (.cells cs 113 fr)
theorem PoW.next {w0 w w':World} {b:Nat} {F F':List Nat} {q q':Kq} (h:PoW w0 w b F q) (hj:PoAt w' b 0 F' q') (k:Jf b 0 F F' w w'):PoW w0 w' b F' q':=by
 have h1:=k.step.low (B:=w0.heap.size) (fun i hi=>(List.mem_cons.1 hi).elim (fun e=>e▸h.lo) (fun hi=>h.row i hi)) h.bel.size;obtain⟨cs,fr,hc⟩:=h.typ;obtain⟨c',hc',_⟩:=k.shape _ _ _ hc;exact⟨hj,h.lo,fun i hi=>h1 i (List.mem_cons_of_mem _ hi),h.bel.trans (k.below h.lo h.row h.bel.size),c',fr,hc'⟩
theorem zab4 {w0 w:World} {b:Nat} {F:List Nat} {q:Kq} (h:PoW w0 w b F q) (hs:q.s.length≤900) (e:Ev) (hm:mayE e) (hok:EvOk e) (ht:e.t.size≤100000) :
  Calls Tryz.prog 279 #[.pointer (some ⟨b,0,none⟩),valE e] w fun r w'=>r= .returned (.tuple #[.string ⟨(zbp q e).1.1.toArray⟩,.int .i64 ((zbp q e).1.2:Nat)])∧∃F',PoW w0 w' b F' (zbp q e).2∧Jf b 0 F F' w w':=by
 refine(zagn h.at_ hs e hm hok ht).mono ?_;rintro r w' ⟨h1,F',h2,h3⟩;exact⟨h1,F',h.next h2 h3,h3⟩
theorem zahh (w0 w:World) (hb:Below w0.heap.size w0 w):PoW w0 (w.alloc (.cells #[.slice none 0 0,.bool false] 113)) w.heap.size [] ⟨[],false⟩ :=
 ⟨⟨⟨none,0,zjf (heap_alloc_new w _),Win.nil_ _ _ _,rfl⟩,⟨_,_,_,heap_alloc_new w _,by decide⟩,fun e=>(by cases e),fun x hx=>(by simp at hx)⟩,hb.size,fun k hk=>(by simp at hk),zaa hb _,_,_,heap_alloc_new w _⟩
theorem PoW.off {w0 w w':World} {b:Nat} {F F':List Nat} {q:Kq} (h:PoW w0 w b F q) (k:Jf b 0 F F' w w'):Off [113,288] w w':=by
 intro i c t fr hi ht;have hlt:=(Array.getElem?_eq_some_iff.1 hi).1;rw[k.step.block i hlt ?_]
 ·exact hi
 ·intro hm
  rcases List.mem_cons.1 hm with e|hm
  ·subst e
   obtain⟨cs,fr',hc⟩:=h.typ;rw[hi] at hc;cases hc;exact ht (by simp)
  ·obtain⟨_,_,cur,hc⟩:=h.at_.row i hm
   rw[hi] at hc;cases hc;exact ht (by simp)
end
section
open Go.RowKit
open Go.Lib
theorem zwu (m:Bool) (v:Nat):(zfh m v).length≤5:=by
 unfold zfh;have h1:=zhp 0 222 223 v;have h2:=zhp 0 220 221 v;split <;>split
 ·simp
 ·exact h1
 ·simp
 ·exact h2
theorem zaav (y:Bool) (v:Nat):(zdw y v).length≤9:=by
 unfold zdw
 repeat' split
 all_goals simp[zbo]
theorem zp7 (e:Ev):(zcb e).length≤e.t.size+9:=by
 have h1:e.t.data.toList.length=e.t.size:=Array.length_toList;have h2:=zwu (decide (e.k=6)) e.c.toNat;have h3:=zaav e.y e.m;have h4:=zl2 (decide (e.k=3)) e.t.data.toList.length;unfold zcb;split
 ·simp
 split
 ·simp
 split
 ·simp
 split
 ·omega
 split
 ·rw[List.length_append]
  omega
 ·omega
theorem zue (q:Kq) (e:Ev):(zbp q e).1.1.length≤e.t.size+9:=by
  have:=zp7 e;unfold zbp;split
  · simp
  · split
    · split
      · simp
      · split <;>simp
    · split
      · simp
      · split
        · simp
        · split
          · simp
          · split <;>exact this
theorem zow (q:Kq) (e:Ev) (ht:e.t.size≤1000):(zbp q e).1.1.length≤2000:=Nat.le_trans (zue q e) (by omega)
theorem zw4 (q:Kq) (e:Ev):(zbp q e).2.s.length≤q.s.length+1:=by
  have hi:(incB q.s).length=q.s.length:=by cases q.s <;>rfl
  unfold zbp;split
  · simp
  · split
    · split
      · simp
      · rename_i b r hs
        split
        · simp
        · rw[hs]
          simp only[List.length_cons];omega
    · split
      · simp
      · split
        · simp
        · split
          · simp
          · split
            · simp only[List.length_cons,hi]
              omega
            · simp only[hi]
              omega
end
end Go.Proofs.YtpaciekgbhoncaaGreat
