/-
  Parts: BasePure, BaseRef, Bx, HeadPure, UtfPure, CinPure, CinBack, CinFactB, RefPrint, RefWrite, RefOut, RefKout, Stk, May, RefWr, RefKr, RefKs.
-/
import Derived.Test.YtpaciekgbhoncaaGreatG0j
import Derived.Test.YtpaciekgbhoncaaGreatG0a
import Derived.Test.YtpaciekgbhoncaaGreatG0k
import Derived.BigQuiet
import Derived.Test.YtpaciekgbhoncaaGreatG0f
import GoSem.Op.String
import Derived.Lib.ValidLaws
import Derived.Lib.RuneBytes
import Derived.Laws.Runes
import Derived.Test.YtpaciekgbhoncaaGreatG0g
import Derived.Test.YtpaciekgbhoncaaGreatG0b
import Derived.OwnWalk
import Derived.BigCall
import Derived.BigGuard
import Derived.Deep.RegionWith
import Derived.Deep.QuietTactic
import Derived.StillTail
import Derived.Deep.RegionLaw
set_option maxRecDepth 100000
set_option maxHeartbeats 16000000
open Go.Lib (hid)
namespace Go.Proofs.YtpaciekgbhoncaaGreat
section
open Go.Lib
theorem zam9 (b:List UInt8):∀a:List UInt8,a.length%3=0→putS (a++b)=putS a++putS b
  | [],_=>rfl
  | [_],h=>by simp at h
  | [_,_],h=>by simp at h
  | x::y::z::r,h=>by
    have ih:=zam9 b r (by simp only[List.length_cons] at h;omega);simp only[List.cons_append,putS,ih]
end
section
open Go.RowKit
open Go.Lib
def vvB (t:List UInt8):Nat→Nat
 | 0=>0
 | k+1=>vvB t k*256+(t.getD k 0).toNat
def sigs (v k:Nat):List UInt8:=(List.range k).map fun j=>sgn (v/2^(18-6*j)%64)
theorem zapp (t:List UInt8) (k:Nat):vvB t k<256^k:=by
  induction k with
  | zero=>exact Nat.one_pos
  | succ k ih =>
    have:=zmp (t.getD k 0);show vvB t k*256+_<256^(k+1);rw[Nat.pow_succ];omega
theorem zamw (v k:Nat):sigs v (k+1)=sigs v k++[sgn (v/2^(18-6*k)%64)]:=by
 unfold sigs;rw[List.range_succ,List.map_append];rfl
theorem zapj (t:List UInt8) (h1:1≤t.length) (h2:t.length≤3):sigs (vvB t 3) (t.length+1)=putS t:=by
  match t,h1,h2 with
  | [a],_,_ =>
    have ha:=zmp a;show [sgn ((((0*256+a.toNat)*256+0)*256+0)/2^18%64),sgn ((((0*256+a.toNat)*256+0)*256+0)/2^12%64)]=[_,_]
    congr 2
    · omega
    · congr 1
      omega
  | [a,b],_,_ =>
    have ha:=zmp a;have hb:=zmp b;show [sgn ((((0*256+a.toNat)*256+b.toNat)*256+0)/2^18%64),sgn ((((0*256+a.toNat)*256+b.toNat)*256+0)/2^12%64),sgn ((((0*256+a.toNat)*256+b.toNat)*256+0)/2^6%64)]=_;rw[putS,show(((0*256+a.toNat)*256+b.toNat)*256+0)/2^18%64=a.toNat/4 by omega,show(((0*256+a.toNat)*256+b.toNat)*256+0)/2^12%64=a.toNat%4*16+b.toNat/16 by omega,show(((0*256+a.toNat)*256+b.toNat)*256+0)/2^6%64=b.toNat%16*4 by omega]
  | [a,b,c],_,_ =>
    have ha:=zmp a;have hb:=zmp b;have hc:=zmp c;show [sgn ((((0*256+a.toNat)*256+b.toNat)*256+c.toNat)/2^18%64),sgn ((((0*256+a.toNat)*256+b.toNat)*256+c.toNat)/2^12%64),sgn ((((0*256+a.toNat)*256+b.toNat)*256+c.toNat)/2^6%64),sgn ((((0*256+a.toNat)*256+b.toNat)*256+c.toNat)/2^0%64)]=_;rw[putS,putS,show(((0*256+a.toNat)*256+b.toNat)*256+c.toNat)/2^18%64=a.toNat/4 by omega,show(((0*256+a.toNat)*256+b.toNat)*256+c.toNat)/2^12%64=a.toNat%4*16+b.toNat/16 by omega,show(((0*256+a.toNat)*256+b.toNat)*256+c.toNat)/2^6%64=b.toNat%16*4+c.toNat/64 by omega,show(((0*256+a.toNat)*256+b.toNat)*256+c.toNat)/2^0%64=c.toNat%64 by omega]
theorem zamj (d:Nat) (h:d<64) (W:World):(Instr.slice 9 (.string ⟨#[65,66,67,68,69,70,71,72,73,74,75,76,77,78,79,80,81,82,83,84,85,86,87,88,89,90,97,98,99,100,101,102,103,104,105,106,107,108,109,110,111,112,113,114,115,116,117,118,119,120,121,122,48,49,50,51,52,53,54,55,56,57,45,95]⟩) (some (.int .i64 (d:Int))) (some (.int .i64 ((d:Int)+1))) none).run Tryz.prog W= .ok (.string ⟨[sgn d].toArray⟩) W:=by
 have h2:=zul ⟨d,h⟩;obtain⟨h3,h4⟩:=List.getElem?_eq_some_iff.1 h2;have:=zol signs64 d (d+1) (by omega) (by show d+1≤64;omega) W;show(Instr.slice 9 (.string signs64) (some (.int .i64 (d:Int))) (some (.int .i64 ((d:Int)+1))) none).run Tryz.prog W=_;rw[show((d+1:Nat):Int)=(d:Int)+1 by omega] at this;rw[this];congr 2;apply ByteArray.ext;apply Array.toList_inj.1;rw[show(signs64.extract d (d+1)).data.toList=(signs64.data.toList.take (d+1)).drop d from ze6 signs64 d (d+1),List.take_add_one,h2,List.drop_append_of_le_length (by rw[List.length_take];have:signs64.data.toList.length=64:=rfl;omega),List.drop_eq_nil_of_le (by rw[List.length_take];omega)];rfl
theorem zapo (x:Nat) (h:x<9223372036854775808):bits .and .i64 (x:Int) 63=((x%64:Nat):Int):=by
 have h1:(BitVec.ofInt 64 (x:Int)).toNat=x:=by
  rw[BitVec.ofInt_natCast,BitVec.toNat_ofNat];exact Nat.mod_eq_of_lt (by omega)
 have h2:(BitVec.ofInt 64 (63:Int)).toNat=63:=by decide
 show IntKind.i64.wrap ((BitVec.ofInt 64 (x:Int) &&& BitVec.ofInt 64 (63:Int)).toNat:Int)=_;rw[BitVec.toNat_and,h1,h2,show 63=2^6-1 by decide,Nat.and_two_pow_sub_one_eq_mod,IntKind.wrap_i64];omega
theorem sh63 (V P:Nat) (h:V<9223372036854775808):bits .and .i64 ((V:Int)/(P:Int)) 63=((V/P%64:Nat):Int):=by
 rw[show(V:Int)/(P:Int)=((V/P:Nat):Int) by simp];exact zapo _ (Nat.lt_of_le_of_lt (Nat.div_le_self _ _) h)
structure BaI (l:List UInt8) (i:Nat) (O:ByteArray):Prop where
 three:i%3=0
 out:O=⟨(putS (l.take i)).toArray⟩
theorem zant (s:ByteArray) (w:World) (hs:s.size≤1000000) :
    Calls Tryz.prog 22 #[.string s] w fun e w'=>e= .returned (.string ⟨(putS s.data.toList).toArray⟩)∧w=w':=by
  have hl:s.data.toList.length=s.size:=zb3 s;obtain⟨Z,hZ⟩:∃Z:ByteArray,Z=⟨(putS s.data.toList).toArray⟩:=⟨_,rfl⟩
  rw[← hZ];have HZ:=hid hZ;clear hZ;go_enter Tryz.func22,Tryz.ntmps22;(go_wp2_with fail)
  go_loopw [3,4] (fun o i wr=>∃(k:Nat) (O:ByteArray),o= .string O∧i= .int .i64 k∧k≤s.size+2∧(O.size:Int)≤2000000∧Hid (BaI s.data.toList k O)∧w=wr) (fun _ i _=>s.size+2-(RowKit.intOf i).toNat)
  case atStart=>exact⟨0,_,rfl,rfl,by omega,by decide,hid ⟨rfl,rfl⟩,rfl⟩
  case round =>
    obtain⟨i,O,rfl,rfl,hi,hO,HI,rfl⟩:=hrel;by_cases hp:i<s.size
    · obtain ⟨t,ht⟩:∃t,t=(s.data.toList.drop i).take 3:=⟨_,rfl⟩
      obtain⟨n,hn⟩:∃n:Nat,n=t.length:=⟨_,rfl⟩
      have hn2:n=min (s.size-i) 3:=by rw[hn,ht,List.length_take,List.length_drop,hl,Nat.min_comm]
      have hn1:1≤n∧n≤3∧i+n≤s.size:=by omega
      have hm:min ((s.size:Int)-i) 3=(n:Int):=by omega
      have HT:=hid (And.intro ht hn);clear ht hn2 hn;(go_wp2_with fail)
      go_loopw [5,7] (fun v k wr=>∃j:Nat,j≤3∧k= .int .i64 j∧v= .int .i64 ((vvB t j:Nat):Int)∧w=wr) (fun _ k _=>3-(RowKit.intOf k).toNat)
      case atStart=>exact⟨0,by omega,rfl,rfl,rfl⟩
      case round =>
        obtain⟨j,hj,rfl,rfl,rfl⟩:=hrel;by_cases h3:j<3
        · have hvl:=zapp t j
          have hv:((vvB t j:Nat):Int)<65536:=by
            have:256^j≤256^2:=Nat.pow_le_pow_right (by decide) (by omega);omega
          have hv0:0≤((vvB t j:Nat):Int):=by omega
          by_cases hjn:j<n
          · have hq:i+j<s.size:=by omega
            have HV:Hid (wrap64 (((vvB t j:Nat):Int)*256+wrap64 (((s[i+j]'hq).toNat:Nat):Int))=((vvB t (j+1):Nat):Int)):=hid (by
              have hb:=zmp (s[i+j]'hq);have:t.getD j 0=s[i+j]'hq:=by
                rw[List.getD_eq_getElem?_getD,HT.out.1,List.getElem?_take_of_lt h3,List.getElem?_drop,List.getElem?_eq_getElem (by omega)];rfl
              rw[IntWalk.wrap64_in (((s[i+j]'hq).toNat:Nat):Int) ⟨by omega,by omega⟩,IntWalk.wrap64_in _ ⟨by omega,by omega⟩];show _=((vvB t j*256+(t.getD j 0).toNat:Nat):Int)
              rw[this];omega)
            clear hvl;generalize ((vvB t j:Nat):Int)=V at *
            (go_wp2_with fail);refine⟨⟨j+1,by omega,by go_num,by rw[HV.out],by first | rfl|trivial⟩,?_⟩;simp only[RowKit.intOf];omega
          · have HV:Hid (((vvB t j:Nat):Int)*256=((vvB t (j+1):Nat):Int)):=hid (by
              have:t.getD j 0=0:=by
                rw[List.getD_eq_getElem?_getD,List.getElem?_eq_none (by have:=HT.out.2;omega)];rfl
              show _=((vvB t j*256+(t.getD j 0).toNat:Nat):Int)
              rw[this];show _=((vvB t j*256+0:Nat):Int)
              omega)
            clear hvl;generalize ((vvB t j:Nat):Int)=V at *
            (go_wp2_with fail)
            go_roundw
            case rel=>exact⟨j+1,by omega,by go_num,by rw[HV.out],by first | rfl|trivial⟩
            case measure =>
              simp only[RowKit.intOf];omega
        · obtain rfl:j=3:=by omega
          have HVV:Hid (vvB t 3=vvB t 3):=hid rfl;have hvl:=zapp t 3;have hv:((vvB t 3:Nat):Int)<16777216:=by omega
          have HS:=hid (zapj t (by have:=HT.out.2;omega) (by have:=HT.out.2;omega));generalize vvB t 3=V at *
          clear hvl HVV hm;(go_wp2_with fail);have HIO:∀D:ByteArray,Hid ((⟨(putS (s.data.toList.take i)).toArray⟩:ByteArray)=D)→True:=fun _ _=>trivial
          clear HIO
          go_loopw [3,8] (fun o k wr=>∃(j:Nat) (Y:ByteArray),j≤n+1∧k= .int .i64 j∧o= .string Y∧Hid ((Y.size:Int)≤2000000+j)∧Hid (Y=⟨(putS (s.data.toList.take i)++sigs V j).toArray⟩)∧w=wr) (fun _ k _=>5-(RowKit.intOf k).toNat)
          case atStart=>exact⟨0,O,by omega,rfl,rfl,hid (by omega),hid (by rw[HI.out.out];simp[sigs]),rfl⟩
          case round =>
            obtain⟨j,Y,hj,rfl,rfl,HYS,HY,rfl⟩:=hrel;have hY:(Y.size:Int)≤3000000:=by
              have:=HYS.out;omega
            by_cases hjn:j≤n
            · have h4:j=0∨j=1∨j=2∨j=3:=by omega
              rcases h4 with rfl|rfl|rfl|rfl
              · have hD:V/262144%64<64:=Nat.mod_lt _ (by decide)
                have hsl:=zamj _ hD;have hle:((0:Int)≤(n:Int))=True:=by
                  apply eq_true;show(0:Int)≤n;omega
                have HJN:=hid hjn;clear hjn;have HN:Hid (Y++⟨[sgn (V/262144%64)].toArray⟩=⟨(putS (s.data.toList.take i)++sigs V (0+1)).toArray⟩):=hid (by
                  rw[HY.out,zc8,zamw V 0,List.append_assoc])
                have ha:bits .and .i64 ((V:Int)/262144) 63=((V/262144%64:Nat):Int):=sh63 V 262144 (by omega);generalize V/262144%64=D at hD hsl HN ha;have hzz:(⟨[sgn D].toArray⟩:ByteArray).size=1:=zbd _;generalize (⟨[sgn D].toArray⟩:ByteArray)=z at hsl HN hzz;have hzs:(z.size:Int)≤1:=by omega
                have hY':=HYS.out;have hsum:(((Y++z).size:Nat):Int)≤2000000+((0+1:Nat):Int):=by
                  rw[ByteArray.size_append];omega
                have HSUM:=hid hsum;clear hsum hzz hY';have hDi:(D:Int)<64:=by omega
                (go_wp2_with fail);have hjn:=HJN.out;refine⟨⟨0+1,_,by omega,by first | rfl|go_num,rfl,HSUM,HN,by first | rfl|trivial⟩,?_⟩;simp only[RowKit.intOf];omega
              · have hD:V/4096%64<64:=Nat.mod_lt _ (by decide)
                have hsl:=zamj _ hD;have hle:((1:Int)≤(n:Int))=True:=by
                  apply eq_true;show(1:Int)≤n;omega
                have HJN:=hid hjn;clear hjn;have HN:Hid (Y++⟨[sgn (V/4096%64)].toArray⟩=⟨(putS (s.data.toList.take i)++sigs V (1+1)).toArray⟩):=hid (by
                  rw[HY.out,zc8,zamw V 1,List.append_assoc])
                have ha:bits .and .i64 ((V:Int)/4096) 63=((V/4096%64:Nat):Int):=sh63 V 4096 (by omega);generalize V/4096%64=D at hD hsl HN ha;have hzz:(⟨[sgn D].toArray⟩:ByteArray).size=1:=zbd _;generalize (⟨[sgn D].toArray⟩:ByteArray)=z at hsl HN hzz;have hzs:(z.size:Int)≤1:=by omega
                have hY':=HYS.out;have hsum:(((Y++z).size:Nat):Int)≤2000000+((1+1:Nat):Int):=by
                  rw[ByteArray.size_append];omega
                have HSUM:=hid hsum;clear hsum hzz hY';have hDi:(D:Int)<64:=by omega
                (go_wp2_with fail);have hjn:=HJN.out;refine⟨⟨1+1,_,by omega,by first | rfl|go_num,rfl,HSUM,HN,by first | rfl|trivial⟩,?_⟩;simp only[RowKit.intOf];omega
              · have hD:V/64%64<64:=Nat.mod_lt _ (by decide)
                have hsl:=zamj _ hD;have hle:((2:Int)≤(n:Int))=True:=by
                  apply eq_true;show(2:Int)≤n;omega
                have HJN:=hid hjn;clear hjn;have HN:Hid (Y++⟨[sgn (V/64%64)].toArray⟩=⟨(putS (s.data.toList.take i)++sigs V (2+1)).toArray⟩):=hid (by
                  rw[HY.out,zc8,zamw V 2,List.append_assoc])
                have ha:bits .and .i64 ((V:Int)/64) 63=((V/64%64:Nat):Int):=sh63 V 64 (by omega);generalize V/64%64=D at hD hsl HN ha;have hzz:(⟨[sgn D].toArray⟩:ByteArray).size=1:=zbd _;generalize (⟨[sgn D].toArray⟩:ByteArray)=z at hsl HN hzz;have hzs:(z.size:Int)≤1:=by omega
                have hY':=HYS.out;have hsum:(((Y++z).size:Nat):Int)≤2000000+((2+1:Nat):Int):=by
                  rw[ByteArray.size_append];omega
                have HSUM:=hid hsum;clear hsum hzz hY';have hDi:(D:Int)<64:=by omega
                (go_wp2_with fail);have hjn:=HJN.out;refine⟨⟨2+1,_,by omega,by first | rfl|go_num,rfl,HSUM,HN,by first | rfl|trivial⟩,?_⟩;simp only[RowKit.intOf];omega
              · have hD:V/1%64<64:=Nat.mod_lt _ (by decide)
                have hsl:=zamj _ hD;have hle:((3:Int)≤(n:Int))=True:=by
                  apply eq_true;show(3:Int)≤n;omega
                have HJN:=hid hjn;clear hjn;have HN:Hid (Y++⟨[sgn (V/1%64)].toArray⟩=⟨(putS (s.data.toList.take i)++sigs V (3+1)).toArray⟩):=hid (by
                  rw[HY.out,zc8,zamw V 3,List.append_assoc])
                have ha:bits .and .i64 (V:Int) 63=((V/1%64:Nat):Int):=by
                  rw[Nat.div_one];exact zapo _ (by omega)
                generalize V/1%64=D at hD hsl HN ha;have hzz:(⟨[sgn D].toArray⟩:ByteArray).size=1:=zbd _;generalize (⟨[sgn D].toArray⟩:ByteArray)=z at hsl HN hzz;have hzs:(z.size:Int)≤1:=by omega
                have hY':=HYS.out;have hsum:(((Y++z).size:Nat):Int)≤2000000+((3+1:Nat):Int):=by
                  rw[ByteArray.size_append];omega
                have HSUM:=hid hsum;clear hsum hzz hY';have hDi:(D:Int)<64:=by omega
                (go_wp2_with fail);have hjn:=HJN.out;refine⟨⟨3+1,_,by omega,by first | rfl|go_num,rfl,HSUM,HN,by first | rfl|trivial⟩,?_⟩;simp only[RowKit.intOf];omega
            · obtain rfl:j=n+1:=by omega
              have HF:Hid (BaI s.data.toList (i+3) Y):=hid (by
                have h3:=HI.out.three;refine⟨by omega,?_⟩;have hS:=HS.out;rw[← HT.out.2] at hS;rw[HY.out,hS,HT.out.1,← zam9 _ _ (by rw[List.length_take,Nat.min_eq_left (by omega)];exact h3),← List.take_add])
              have hYs:(Y.size:Int)≤2000000:=by
                have h1:Y.size=(putS (s.data.toList.take (i+3))).length:=by
                  rw[HF.out.out];exact zbd _
                rw[zh5,List.length_take] at h1;omega
              clear HY HS HI hj hjn HYS;have hle:((n:Int)+1≤(n:Int))=False:=by
                apply eq_false;omega
              have HYs:=hid hYs;clear hYs;(go_wp2_with fail);refine⟨⟨i+3,Y,rfl,by go_num,by omega,HYs.out,HF,by first | rfl|trivial⟩,?_⟩;simp only[RowKit.intOf];omega
    · obtain⟨hi1,hi2⟩:s.size≤i∧True:=⟨by omega,trivial⟩
      have hO2:O=Z:=by
        rw[HI.out.out,HZ.out,List.take_of_length_le (by omega)]
      subst hO2;go_wp2;go_ret;exact⟨rfl,rfl⟩
end
section
open Go.RowKit
open Go.Lib
def bxL (b:Bx):List Value:=[.bool b.map,.int .i64 b.c,.int .i64 (b.have_:Int)]
def bxsL:List Bx→List Value
 | []=>[]
 | b::r=>bxsL r++bxL b
theorem zamk:∀s:List Bx,(bxsL s).length=s.length*3
 | []=>rfl
 | b::r=>by rw[bxsL,List.length_append,zamk r];simp[bxL];omega
end
section
open Go.Lib
def valB (a:Nat):List UInt8→Nat
 | []=>a
 | b::t=>valB (a*256+b.toNat) t
theorem zan7 (a:Nat) (l:List UInt8):valB a l=a*256^l.length+valB 0 l:=by
  induction l generalizing a with
  | nil=>simp[valB]
  | cons b t ih =>
    simp only[valB,List.length_cons];rw[ih (a*256+b.toNat),ih (0*256+b.toNat),Nat.pow_succ];have e1:(a*256+b.toNat)*256^t.length=a*(256^t.length*256)+b.toNat*256^t.length:=by
      rw[Nat.add_mul,Nat.mul_assoc,Nat.mul_comm 256]
    rw[e1];simp;omega
theorem zamx (n v:Nat):valB 0 (bigB n v)=v%256^n:=by
  induction n with
  | zero=>simp[bigB,valB,Nat.mod_one]
  | succ n ih =>
    simp only[bigB,valB];rw[zan7,ih,zbo,zag6,Nat.pow_succ];have h1:v%(256^n*256)=v%256^n+256^n*(v/256^n%256):=Nat.mod_mul;rw[h1,Nat.mul_comm (256^n)];simp;omega
theorem zal6 (m l:Nat) (hm:m<8) (hl:l<32):zah .new (UInt8.ofNat (m*32+l)).toNat=if l<24 then .fin m l false else if l<28 then .mid m (2^(l-24)) 0 else if l=31 then .fin m 0 true else .bad 2:=by
 have e:(UInt8.ofNat (m*32+l)).toNat=m*32+l:=by simp;omega
 rw[e];simp only[zah];rw[show(m*32+l)%32=l by omega,show(m*32+l)/32=m by omega]
end
section
open Go.Lib
def runS (s:Option (Nat×Nat×Nat)) (l:List UInt8):Option (Nat×Nat×Nat):=l.foldl zb7 s
theorem zami (s:Option (Nat×Nat×Nat)):runS s []=s:=rfl
theorem ze2 (s:Option (Nat×Nat×Nat)) (b:UInt8) (t:List UInt8):runS s (b::t)=runS (zb7 s b) t:=rfl
theorem zalm (l:List UInt8):runS none l=none:=by
 induction l with
 | nil=>rfl
 | cons b t ih=>rw[ze2];exact ih
def zam4 (b:Nat):Bool:=match za0 b with
    | none=>decide (firstT b%8=1)
    | some (n,lo,hi)=>decide (firstT b%8=n+1∧accLo (firstT b/16)=lo∧accHi (firstT b/16)=hi∧1≤n∧n≤3)
theorem zam6:∀b:Fin 256,128≤b.val→zam4 b.val=true:=by decide +kernel
theorem zam5 {b:Nat} (h0:128≤b) (h1:b<256) (h:za0 b=none):firstT b%8=1:=by
 have:=zam6 ⟨b,h1⟩ h0;simpa [zam4,h] using this
theorem zam7 {b n lo hi:Nat} (h0:128≤b) (h1:b<256) (h:za0 b=some (n,lo,hi)):firstT b%8=n+1∧accLo (firstT b/16)=lo∧accHi (firstT b/16)=hi∧1≤n∧n≤3:=by
 have:=zam6 ⟨b,h1⟩ h0;simpa [zam4,h] using this
theorem zaov (n b1 b2 b3 lo hi:Nat):checkN n b1 b2 b3 2 lo hi=if n<2∨b1<lo∨hi<b1 then none else some 2:=by simp[checkN]
theorem zaow (n b1 b2 b3 lo hi:Nat):checkN n b1 b2 b3 3 lo hi=if n<3∨b1<lo∨hi<b1∨b2<128∨191<b2 then none else some 3:=by simp[checkN]
theorem zaox (n b1 b2 b3 lo hi:Nat):checkN n b1 b2 b3 4 lo hi=if n<4∨b1<lo∨hi<b1∨b2<128∨191<b2∨b3<128∨191<b3 then none else some 4:=by simp[checkN]
theorem zal2 (l:List UInt8):validD l=zch (runS st0 l):=by
  generalize hn:l.length=m
  induction m using Nat.strongRecOn generalizing l with
  | ind m ih =>
    match l with
    | []=>rfl
    | b0 :: t =>
      have hlt:=b0.toNat_lt;by_cases hb:b0.toNat<128
      · rw[validD_cons _ _ hb,ze2]
        have:zb7 st0 b0=st0:=by simp[zb7,st0,za0,hb]
        rw[this];exact ih t.length (by simp at hn;omega) t rfl
      · rw [validD_lead _ (by simp) (by simpa using hb),ze2]
        have hs:zb7 st0 b0=za0 b0.toNat:=rfl;rw[hs];simp only[List.getD_cons_zero,List.length_cons];cases ho:za0 b0.toNat with
        | none =>
          rw[zam5 (by omega) hlt ho,zalm];simp[checkN,zch]
        | some p =>
          obtain⟨n,lo,hi⟩:=p;obtain⟨h1,h2,h3,h4,h5⟩:=zam7 (by omega) hlt ho;rw[h1,h2,h3];rcases(show n=1∨n=2∨n=3 by omega) with rfl|rfl|rfl
          · rw[zaov]
            match t with
            | []=>rw[if_pos (by simp)];rfl
            | c1::t' =>
              have:=ih t'.length (by simp at hn;omega) t' rfl;simp only[ze2,zb7,List.getD_cons_succ,List.getD_cons_zero,List.length_cons];by_cases q1:c1.toNat<lo∨hi<c1.toNat
              · rw[if_pos (by omega),if_pos q1,zalm];rfl
              · rw[if_neg (by omega),if_neg q1];exact this
          · rw [zaow]
            match t with
            | []=>rw[if_pos (by simp)];rfl
            | [c1]=>rw[if_pos (by simp)];by_cases q1:c1.toNat<lo∨hi<c1.toNat <;>simp[zch,runS,zb7,q1]
            | c1::c2::t' =>
              have:=ih t'.length (by simp at hn;omega) t' rfl;simp only[ze2,zb7,List.getD_cons_succ,List.getD_cons_zero,List.length_cons];by_cases q1:c1.toNat<lo∨hi<c1.toNat
              · rw[if_pos (by omega),if_pos q1];simp only[];rw[zalm];rfl
              · rw[if_neg q1,if_neg (show¬(1=0) by decide)]
                simp only[];by_cases q2:c2.toNat<128∨191<c2.toNat
                · rw[if_pos (by omega),if_pos q2,zalm];rfl
                · rw[if_neg (by omega),if_neg q2];exact this
          · rw [zaox]
            match t with
            | []=>rw[if_pos (by simp)];rfl
            | [c1]=>rw[if_pos (by simp)];by_cases q1:c1.toNat<lo∨hi<c1.toNat <;>simp[zch,runS,zb7,q1]
            | [c1,c2]=>rw[if_pos (by simp)];by_cases q1:c1.toNat<lo∨hi<c1.toNat <;>by_cases q2:c2.toNat<128∨191<c2.toNat <;>simp[zch,runS,zb7,q1,q2]
            | c1::c2::c3::t' =>
              have:=ih t'.length (by simp at hn;omega) t' rfl;simp only[ze2,zb7,List.getD_cons_succ,List.getD_cons_zero,List.length_cons];by_cases q1:c1.toNat<lo∨hi<c1.toNat
              · rw[if_pos (by omega),if_pos q1];simp only[];rw[zalm];rfl
              · rw[if_neg q1,if_neg (show¬(2=0) by decide)]
                simp only[];by_cases q2:c2.toNat<128∨191<c2.toNat
                · rw[if_pos (by omega),if_pos q2];simp only[];rw[zalm];rfl
                · rw[if_neg q2,if_neg (show¬(1=0) by decide)]
                  simp only[];by_cases q3:c3.toNat<128∨191<c3.toNat
                  · rw[if_pos (by omega),if_pos q3,zalm];rfl
                  · rw[if_neg (by omega),if_neg q3];exact this
end
section
open Go.Lib
def zalo (D:Nat):Ci→List UInt8→Ci×List Ev
 | s,[]=>(s,[])
 | s,b::t=>((zalo D (za7 D s b).1 t).1,(za7 D s b).2++(zalo D (za7 D s b).1 t).2)
theorem zamf (D:Nat) (s:Ci) (a b:List UInt8):zalo D s (a++b)=((zalo D (zalo D s a).1 b).1,(zalo D s a).2++(zalo D (zalo D s a).1 b).2):=by
 induction a generalizing s with
 | nil=>simp[zalo]
 | cons x t ih=>simp only[List.cons_append,zalo,ih,List.append_assoc]
end
section
open Go.Lib
theorem zamr {D:Nat} {s:List Bx} {m l:Nat} (hm:m<6) (hl:l<28∨l=31∧2≤m) (hk:keyB s=true→m=3) (hd:4≤m→s.length<D):zi6 D s false (m*32+l)=zgw s (zah .new (m*32+l)):=by
 have e1:(m*32+l)/32=m:=by omega
 have e2:(m*32+l)%32=l:=by omega
 unfold zi6;rw[e1,e2];rw[if_neg (by rintro (h|h|h);cases h;omega;omega),if_neg (by omega),if_neg (fun h=>h.2 (hk h.1)),if_neg (by omega),if_neg (by omega),if_neg (by omega)]
theorem zank {D:Nat} {j j':Ci} {b:UInt8} {ps:List Ev} (h:za7 D j b=(j',ps)):zalo D j [b]=(j',ps):=by
 simp only[zalo,h,List.append_nil]
theorem zams (D:Nat) (s:List Bx) (m:Nat):∀(l:List UInt8) (a:Nat),l≠[]→zalo D (.head s (.mid m l.length a)) l=zgw s (.fin m (valB a l) false)
  | [],_,h=>absurd rfl h
  | [b],a,_=>by
    have h1:zah (.mid m [b].length a) b.toNat= .fin m (a*256+b.toNat) false:=by simp[zah]
    have h2:za7 D (.head s (.mid m [b].length a)) b=zgw s (.fin m (a*256+b.toNat) false):=by
      show zgw s (zah (.mid m [b].length a) b.toNat)=_;rw[h1]
    exact zank h2
  | b :: c::t,a,_=>by
    have h1:za7 D (.head s (.mid m (b::c::t).length a)) b=(.head s (.mid m (c::t).length (a*256+b.toNat)),[]):=by
      simp only[za7,zah];rw[if_neg (by simp)];simp[zgw]
    rw[zalo,h1];simp only[List.nil_append];rw[zams D s m (c::t) _ (by simp)];simp only[valB]
theorem zalz (n:Nat) (h:n<256):(UInt8.ofNat n).toNat=n:=by simp;omega
theorem zamt {D:Nat} {s:List Bx} {m v:Nat} (hm:m<6) (hv:v<18446744073709551616) (hk:keyB s=true→m=3) (hd:4≤m→s.length<D):zalo D (.item s false) (zcd m v)=zgw s (.fin m v false):=by
 have hlong:∀k:Nat,k<4→v<256^2^k→zalo D (.item s false) (UInt8.ofNat (m*32+(24+k))::bigB (2^k) v)=zgw s (.fin m v false):=by
  intro k hk4 hvk;have h1:za7 D (.item s false) (UInt8.ofNat (m*32+(24+k)))=(.head s (.mid m (2^k) 0),[]):=by
   simp only[za7];rw[zalz _ (by omega),zamr hm (.inl (by omega)) hk hd];have:=zal6 m (24+k) (by omega) (by omega);rw[zalz _ (by omega)] at this;rw[this,if_neg (by omega),if_pos (by omega),show 24+k-24=k by omega];rfl
  rw[zalo,h1];simp only[List.nil_append];have h2:=zams D s m (bigB (2^k) v) 0 (by intro h;have:=congrArg List.length h;rw[zbo] at this;simp at this);rw[zbo,zamx,Nat.mod_eq_of_lt hvk] at h2;rw[h2]
 unfold zcd;rcases ztl v hv with ⟨h,e⟩|⟨h,e⟩|⟨h,e⟩|⟨h,e⟩|⟨h,e⟩ <;>rw[e]
 ·simp only[bigB]
  rw[zalo];have h1:za7 D (.item s false) (UInt8.ofNat (m*32+v))=zgw s (.fin m v false):=by
   simp only[za7];rw[zalz _ (by omega),zamr hm (.inl (by omega)) hk hd];have:=zal6 m v (by omega) (by omega);rw[zalz _ (by omega),if_pos h] at this;rw[this]
  rw[h1];simp only[zalo,List.append_nil]
 ·exact hlong 0 (by decide) (by simp;omega)
 ·exact hlong 1 (by decide) (by simp;omega)
 ·exact hlong 2 (by decide) (by simp;omega)
 ·exact hlong 3 (by decide) (by simp;omega)
theorem zamh (D:Nat) (s:List Bx) (m:Bool):∀(l t:List UInt8) (u:Option (Nat×Nat×Nat)),l≠[]→(m=true→zch (runS u l)=true)→zalo D (.text s m l.length t u) l=putC s (zby m (t++l))
  | [],_,_,h,_=>absurd rfl h
  | b :: l,t,u,_,hw=>by
    have hn:¬(m=true∧zbq m u b=none):=by
      rintro ⟨rfl,h⟩;have:=hw rfl;simp only[zbq,if_true] at h;rw[ze2,h,zalm] at this;cases this
    cases l with
    | nil =>
      have h2:¬(m=true∧zch (zbq m u b)=false):=by
        rintro ⟨rfl,h⟩;have:=hw rfl;simp only[zbq,if_true] at h;rw[ze2,zami,h] at this;cases this
      have h1:za7 D (.text s m [b].length t u) b=putC s (zby m (t++[b])):=by
        simp only[za7];rw[if_neg hn,if_pos (by simp),if_neg h2]
      rw[zalo,h1];simp only[zalo,List.append_nil]
    | cons c l =>
      have h1:za7 D (.text s m (b::c::l).length t u) b=(.text s m (c::l).length (t++[b]) (zbq m u b),[]):=by
        simp only[za7];rw[if_neg hn,if_neg (by simp)];rfl
      rw[zalo,h1];simp only[List.nil_append];rw[zamh D s m (c::l) (t++[b]) (zbq m u b) (by simp) (by rintro rfl;have:=hw rfl;rw[ze2] at this;exact this)];simp
end
section
open Go.Lib
def majT (m:Bool):Nat:=if m=true then 3 else 2
theorem zanu (m:Bool):majT m<6:=by cases m <;>decide
theorem zam3 {s:List Bx} (m:Bool) {v:Nat} (hv:v≤200):zgw s (.fin (majT m) v false)=if v=0 then putC s (zby m []) else(.text s m v [] st0,[]):=by
 have hd:decide (majT m=3)=m:=by cases m <;>rfl
 have h2:¬majT m<2:=by cases m <;>decide
 have h4:majT m<4:=by cases m <;>decide
 unfold zgw;simp only;rw[if_neg h2,if_pos h4,if_neg (by simp),if_neg (by omega),hd]
end
section
open Go.RowKit
open Go.Lib
end
section
open Go.RowKit
open Go.Lib
end
section
open Go.RowKit
open Go.Lib
end
section
open Go.RowKit
open Go.Lib
def zaoq:Prop:=∀(n:Int) (v:Nat),v<18446744073709551616→∀w:World,Calls Tryz.prog 33 #[.int .i64 n,.int .u64 v] w fun e w'=>e= .returned (.string ⟨(zcd (n%8).toNat v).toArray⟩)∧Below w.heap.size w w'
end
section
open Go.RowKit
open Go.Lib
structure Stk (M B:Nat) (w:World) (s:List Bx) (v:Value):Prop where
 win:Win w 68 3 v s.length (bxsL s)
 vB:∀k∈Value.owner v,B≤k
 ok:∀b∈s,(-1≤b.c∧b.c≤9223372036854775807)∧b.have_≤M
 deep:s.length≤800
 most:M≤1000
structure Bew (B b:Nat) (w w':World):Prop where
 os:w'.os=w.os
 tape:w'.tape=w.tape
 output:w'.output=w.output
 size:w.heap.size≤w'.heap.size
 block:∀k,k<B→k≠b→w'.heap[k]? = w.heap[k]?
theorem _root_.Go.RowKit.Below.bew {B b:Nat} {w w':World} (h:Below B w w'):Bew B b w w':=⟨h.os,h.tape,h.output,h.size,fun k hk _=>h.block k hk⟩
theorem Bew.trans {B b:Nat} {w w1 w2:World} (h:Bew B b w w1) (k:Bew B b w1 w2):Bew B b w w2 :=
 ⟨k.os.trans h.os,k.tape.trans h.tape,k.output.trans h.output,Nat.le_trans h.size k.size,fun i hi hb=>(k.block i hi hb).trans (h.block i hi hb)⟩
theorem Bew.set {B b:Nat} {w w':World} (h:Bew B b w w') (i:Nat) (v:Value):Bew B b w (w'.setCell ⟨b,i,none⟩ v) :=
 ⟨h.os,h.tape,h.output,Nat.le_trans h.size (by simp[World.setCell]),fun k hk hb=>(Below.heap_setCell w' ⟨b,i,none⟩ v k (fun e=>hb e)).trans (h.block k hk hb)⟩
theorem Bew.below {B C b:Nat} {w w':World} (h:Bew B b w w') (hC:C≤B) (hb:C≤b):Below C w w':=⟨h.os,h.tape,h.output,h.size,fun k hk=>h.block k (Nat.lt_of_lt_of_le hk hC) (by omega)⟩
theorem Stk.go {M B:Nat} {w w':World} {s:List Bx} {v:Value} (h:Stk M B w s v) (k:Below w.heap.size w w'):Stk M B w' s v :=
 ⟨h.win.keep fun g hg=>k.block g (h.win.lt g hg),h.vB,h.ok,h.deep,h.most⟩
end
section
open Go.RowKit
open Go.Lib
theorem zamn (e:Ev) (w:World):Calls Tryz.prog 32 #[evV e] w fun r w'=>r= .returned (.bool (decide (mayE e)))∧Below w.heap.size w w':=by
  obtain⟨k,y,m,t,c⟩:=e;have h1:=hid (zaa (Below.refl w.heap.size w) (.cells #[.int .i64 k,.bool y,.int .u64 m,.string t,.int .i64 c] 43));have q:∀n:Int,k≠n→(k !=n)=true:=fun n h=>by simpa using h
  simp only[evV];by_cases h0:0≤k
  · have t0 :(0≤k)=True:=by simp[h0]
    by_cases h7:k≤7
    · have t7:(k≤7)=True:=by simp[h7]
      by_cases h5:k=5
      · subst h5
        have hmm:mayE ⟨5,y,m,t,c⟩↔ -1≤c:=by unfold mayE;simp
        rw[decide_eq_decide.2 hmm];by_cases hc: -1≤c
        · have hc1:(-1≤c)=True:=by simp[hc]
          rw[decide_eq_true hc];clear hc hmm q t0 t7 h0 h7;go_enter Tryz.func32,Tryz.ntmps32;go_wp2;go_ret;exact⟨rfl,h1.out⟩
        · have hc1:(-1≤c)=False:=by simp;omega
          rw[decide_eq_false hc];clear hc hmm q t0 t7 h0 h7;go_enter Tryz.func32,Tryz.ntmps32;go_wp2;go_ret;exact⟨rfl,h1.out⟩
      · by_cases h6:k=6
        · subst h6
          have hmm:mayE ⟨6,y,m,t,c⟩↔ -1≤c:=by unfold mayE;simp
          rw[decide_eq_decide.2 hmm];by_cases hc: -1≤c
          · have hc1:(-1≤c)=True:=by simp[hc]
            rw[decide_eq_true hc];clear hc hmm q t0 t7 h0 h7;go_enter Tryz.func32,Tryz.ntmps32;go_wp2;go_ret;exact⟨rfl,h1.out⟩
          · have hc1:(-1≤c)=False:=by simp;omega
            rw[decide_eq_false hc];clear hc hmm q t0 t7 h0 h7;go_enter Tryz.func32,Tryz.ntmps32;go_wp2;go_ret;exact⟨rfl,h1.out⟩
        · have hm:mayE ⟨k,y,m,t,c⟩:=⟨h0,h7,fun h=>by simp only at h;omega⟩
          rw[decide_eq_true hm];have q5:=q 5 h5;have q6:=q 6 h6;clear q h5 h6 h0 h7 hm;go_enter Tryz.func32,Tryz.ntmps32;go_wp2
          all_goals go_ret
          all_goals exact⟨rfl,h1.out⟩
    · have t7:(k≤7)=False:=by simp;omega
      rw[decide_eq_false (fun h=>h7 h.2.1)];clear q h0 h7;go_enter Tryz.func32,Tryz.ntmps32;go_wp2
      all_goals go_ret
      all_goals exact⟨rfl,h1.out⟩
  · have t0:(0≤k)=False:=by simp;omega
    rw[decide_eq_false (fun h=>h0 h.1)];clear q h0;go_enter Tryz.func32,Tryz.ntmps32;go_wp2
    all_goals go_ret
    all_goals exact⟨rfl,h1.out⟩
end
section
open Go.RowKit
open Go.Lib
structure WrAt (M B:Nat) (w:World) (b:Nat) (s:List Bx) (dn:Bool):Prop where
 cells:∃a cp,At w b 0 [.int .i64 1,.slice a s.length cp,.bool dn]∧Stk M 0 w s (.slice a s.length cp)
 blk:∃cs,w.heap[b]? = some (.cells cs 47 (0,0))
 low:B≤w.heap.size
theorem WrAt.lt {M B:Nat} {w:World} {b:Nat} {s:List Bx} {dn:Bool} (h:WrAt M B w b s dn):b<w.heap.size:=by
 obtain⟨cs,hc⟩:=h.blk;exact(Array.getElem?_eq_some_iff.1 hc).1
theorem WrAt.go {M B:Nat} {w w':World} {b:Nat} {s:List Bx} {dn:Bool} (h:WrAt M B w b s dn) (k:Below w.heap.size w w'):WrAt M B w' b s dn:=by
 have hk:=k.block b h.lt;obtain⟨a,cp,h1,h2⟩:=h.cells;obtain⟨cs,hc⟩:=h.blk;exact⟨⟨a,cp,h1.keep hk,h2.go k⟩,⟨cs,hk.trans hc⟩,Nat.le_trans h.low k.size⟩
theorem zalp {w:World} {b:Nat} {v0 v1 v2:Value} (h:At w b 0 [v0,v1,v2]) :
  (w.cell? ⟨b,0,none⟩=some v0∧w.frozen? ⟨b,0,none⟩=false)∧(w.cell? ⟨b,1,none⟩=some v1∧w.frozen? ⟨b,1,none⟩=false)∧(w.cell? ⟨b,2,none⟩=some v2∧w.frozen? ⟨b,2,none⟩=false) :=
 ⟨h 0 v0 rfl,h 1 v1 rfl,h 2 v2 rfl⟩
theorem WrAt.fin {M B:Nat} {w:World} {b:Nat} {s:List Bx} {dn:Bool} (h:WrAt M B w b s dn) (q:Bool):WrAt M B (w.setCell ⟨b,2,none⟩ (.bool q)) b s q∧Bew B b w (w.setCell ⟨b,2,none⟩ (.bool q)):=by
 obtain⟨a,cp,h1,h2⟩:=h.cells;obtain⟨cs,hc⟩:=h.blk;have hap:b∉Value.owner (.slice a s.length cp):=h2.win.apart (t:=47) hc (by decide);have hset:=h1.set 2 (by simp) (.bool q);refine⟨⟨⟨a,cp,by simpa using hset,⟨h2.win.setCell_far hap _,h2.vB,h2.ok,h2.deep,h2.most⟩⟩,⟨_,zai w ⟨b,2,none⟩ _ _ _ _ rfl hc⟩,by simpa [World.setCell] using h.low⟩,(Below.refl B w).bew.set _ _⟩
end
section
open Go.RowKit
open Go.Lib
structure WkAt (M B:Nat) (w:World) (b:Nat) (s:List Bx) (dn:Bool):Prop where
 cells:∃a cp,At w b 0 [.int .i64 2,.slice a s.length cp,.bool dn]∧Stk M 0 w s (.slice a s.length cp)
 blk:∃cs,w.heap[b]? = some (.cells cs 47 (0,0))
 low:B≤w.heap.size
theorem WkAt.lt {M B:Nat} {w:World} {b:Nat} {s:List Bx} {dn:Bool} (h:WkAt M B w b s dn):b<w.heap.size:=by
 obtain⟨cs,hc⟩:=h.blk;exact(Array.getElem?_eq_some_iff.1 hc).1
theorem WkAt.go {M B:Nat} {w w':World} {b:Nat} {s:List Bx} {dn:Bool} (h:WkAt M B w b s dn) (k:Below w.heap.size w w'):WkAt M B w' b s dn:=by
 have hk:=k.block b h.lt;obtain⟨a,cp,h1,h2⟩:=h.cells;obtain⟨cs,hc⟩:=h.blk;exact⟨⟨a,cp,h1.keep hk,h2.go k⟩,⟨cs,hk.trans hc⟩,Nat.le_trans h.low k.size⟩
theorem WkAt.fin {M B:Nat} {w:World} {b:Nat} {s:List Bx} {dn:Bool} (h:WkAt M B w b s dn) (q:Bool):WkAt M B (w.setCell ⟨b,2,none⟩ (.bool q)) b s q∧Bew B b w (w.setCell ⟨b,2,none⟩ (.bool q)):=by
 obtain⟨a,cp,h1,h2⟩:=h.cells;obtain⟨cs,hc⟩:=h.blk;have hap:b∉Value.owner (.slice a s.length cp):=h2.win.apart (t:=47) hc (by decide);have hset:=h1.set 2 (by simp) (.bool q);refine⟨⟨⟨a,cp,by simpa using hset,⟨h2.win.setCell_far hap _,h2.vB,h2.ok,h2.deep,h2.most⟩⟩,⟨_,zai w ⟨b,2,none⟩ _ _ _ _ rfl hc⟩,by simpa [World.setCell] using h.low⟩,(Below.refl B w).bew.set _ _⟩
end
section
open Go.RowKit
open Go.Lib
theorem zan9 {M B b:Nat} {w:World} (h:WkAt M B w b [] false) (e:Ev) (hk:e.k=0∨e.k=1∨e.k=2∨e.k=3∨e.k=4) (X:ByteArray) (hX:X.size≤100000)
  (hP:∀W,Calls Tryz.prog 35 #[.int .i64 2,evV e] W fun r w'=>r= .returned (.tuple #[.string X,.int .i64 0])∧Below W.heap.size W w') :
  Calls Tryz.prog 21 #[.pointer (some ⟨b,0,none⟩),evV e] w fun q w'=>q= .returned (.tuple #[.string X,.int .i64 0])∧WkAt M B w' b [] true∧Bew B b w w':=by
 obtain⟨a,cp,hA,hS⟩:=h.cells;have hBw:B≤w.heap.size:=h.low;have HM:Hid (∀X,Calls Tryz.prog 32 #[evV e] (w.alloc X) fun r w'=>r= .returned (.bool true)∧Below (w.alloc X).heap.size (w.alloc X) w'):=hid fun X=>by
  have:=zamn e (w.alloc X)
  rwa [decide_eq_true (show mayE e from⟨by omega,by omega,by omega⟩)] at this
 have HP:=hid hP;obtain⟨k,y,m,t,c⟩:=e;simp only[evV] at HM HP hk ⊢;have n7:(k==7)=false:=by rw[beq_eq_false_iff_ne];omega
 have n5:(k==5)=false:=by rw[beq_eq_false_iff_ne];omega
 have n6:(k==6)=false:=by rw[beq_eq_false_iff_ne];omega
 have HH:=hid h;have HS:=hid hS;have HA:=hid hA;have hA0:=(hA.alloc (by simp) (.cells #[.int .i64 k,.bool y,.int .u64 m,.string t,.int .i64 c] 43))
 obtain⟨⟨k0,_⟩,⟨k1,_⟩,⟨k2,_⟩⟩:=zalp hA0;simp only[List.length_nil] at k1 HA HS;clear h hA hS hA0 hP hk;go_enter Tryz.func21,Tryz.ntmps21;(go_wp2_with fail);refine(HM.out _).mono ?_;rintro e w1 ⟨rfl,hb1⟩;have E1:=hid ((zag w _ _).go hb1);obtain⟨⟨e0,e1,e2,e3,e4⟩,ef⟩:=E1.out.ev;have hbw1:=zab (zaa (Below.refl w.heap.size w) (.cells #[.int .i64 k,.bool y,.int .u64 m,.string t,.int .i64 c] 43)) hb1;have A1:=hid (HA.out.keep (hbw1.block b HH.out.lt));have HB1:=hid hbw1;clear hb1 ef k0 k1 k2 hbw1;obtain⟨⟨k0,q0⟩,⟨k1,q1⟩,⟨k2,q2⟩⟩:=zalp A1.out;go_wp2
 go_region_with (go_at_call 35;refine(HP.out _).mono ?_;rintro r w2 ⟨rfl,hb2⟩)
 all_goals
  have hW1:=HH.out.go HB1.out;have hb2':Below w1.heap.size w1 w2:=⟨hb2.os,hb2.tape,hb2.output,hb2.size,hb2.block⟩
  have A2:=A1.out.keep (hb2'.block b hW1.lt);have HW2:=hid (hW1.go hb2');have HBB:=hid (zab HB1.out hb2');have HA2:=hid A2;obtain⟨⟨p0,r0⟩,⟨p1,r1⟩,⟨p2,r2⟩⟩:=zalp A2;have hcat:(⟨#[]⟩:ByteArray)++X=X:=by apply ByteArray.ext;simp
  have HC:=hid hcat;have hE2:w2.cell? ⟨w.heap.size,0,none⟩=some (.int .i64 k):=(World.cell?_of_block (w:=w1) (a:=⟨w.heap.size,0,none⟩) (hb2'.block _ E1.out.lt)).trans e0;have hne:w.heap.size≠b:=by have:=HH.out.lt;omega
  have hE3:(w2.setCell ⟨b,2,none⟩ (.bool true)).cell? ⟨w.heap.size,0,none⟩=some (.int .i64 k):=by
   rw[World.cell?_setCell_other _ _ _ _ (fun e=>hne (congrArg Addr.block e).symm)];exact hE2
  clear A2 hb2 hb2' hW1 hcat e0 e1 e2 e3 e4 k0 k1 k2 q0 q1 q2 hE2;go_wp2;go_ret2;refine⟨by rw[HC.out];rfl,(HW2.out.fin true).1,?_⟩;exact(HBB.out.mono hBw).bew.trans (HW2.out.fin true).2
end
end Go.Proofs.YtpaciekgbhoncaaGreat
