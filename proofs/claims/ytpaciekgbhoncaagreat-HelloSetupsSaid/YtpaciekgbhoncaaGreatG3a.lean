/-
  Parts: HelPure, HelA, HelLa, HelLb, HelOut, HelB, HelLc.
-/
import Derived.Test.YtpaciekgbhoncaaGreatG0n
import Derived.Test.YtpaciekgbhoncaaGreatG0b
import Derived.Test.YtpaciekgbhoncaaGreatG0e
import Derived.Laws.IdiomStrings
import Derived.Test.YtpaciekgbhoncaaGreatG2c
set_option maxRecDepth 100000
set_option maxHeartbeats 16000000
open Go.Lib (hid)
namespace Go.Proofs.YtpaciekgbhoncaaGreat
section
open Go.RowKit
open Go.Lib
def begH:List UInt8→Bool
 | []=>true
 | [x]=>x==84
 | x::y::_=>x==84&&y==82
theorem zagc (l:List UInt8):begH l=(([84,82]:List UInt8).isPrefixOf l||l.isPrefixOf [84,82]):=by
  match l with
  | []=>rfl
  | [x] =>
    simp only[begH,List.isPrefixOf,Bool.and_true,Bool.and_false,Bool.false_or]
  | [x,y] =>
    simp only[begH,List.isPrefixOf,Bool.and_true];rw[Bool.beq_comm (a:=x),Bool.beq_comm (a:=y)];cases (84==x&&82==y) <;>simp
  | x::y::z::r =>
    simp only[begH,List.isPrefixOf,Bool.and_true,Bool.and_false,Bool.or_false];rw[Bool.beq_comm (a:=x),Bool.beq_comm (a:=y)]
def byH (l:List UInt8) (i:Nat):Nat:=(l.getD i 0).toNat
theorem zaiu {l:List UInt8} {i:Nat} (h:i<l.length):byH l i=l[i].toNat:=by
 unfold byH;rw[List.getD_eq_getElem?_getD,List.getElem?_eq_getElem h];rfl
theorem zky (l:List UInt8) (i:Nat):byH l i<256:=UInt8.toNat_lt _
def stgH (l:List UInt8):Nat:=byH l 5*256+byH l 6
def RgtH (l:List UInt8):Prop:=zbf (byH l 2) (byH l 3) (byH l 4) (stgH l) (byH l 7)
instance (l:List UInt8):Decidable (RgtH l):=by unfold RgtH;infer_instance
def erH (l:List UInt8):Nat:=if begH l=false then 2 else if l.length<8 then 3 else if RgtH l then 0 else 2
def getV (l:List UInt8):Value:=if erH l=0 then suV (byH l 2) (byH l 3) (byH l 4) (stgH l) (byH l 7) else suV 0 0 0 0 0
def putH (f t D S L:Nat):List UInt8:=[84,82,UInt8.ofNat f,UInt8.ofNat t,UInt8.ofNat D,UInt8.ofNat (S/256),UInt8.ofNat (S%256),UInt8.ofNat L]
theorem zdr {f t D S L:Int} (h:zbf f t D S L):∃f' t' D' S' L':Nat,f=f'∧t=t'∧D=D'∧S=S'∧L=L'∧f'≤3∧t'≤3∧D'≤16∧S'≤2000∧L'≤255:=by
 obtain⟨h1,h2,h3,h4,h5⟩:=h;unfold fmtP at h1 h2;unfold inP3 at h3 h4 h5;exact⟨f.toNat,t.toNat,D.toNat,S.toNat,L.toNat,by omega,by omega,by omega,by omega,by omega,by omega,by omega,by omega,by omega,by omega⟩
theorem zcf {n:Nat} (h:n<256):(UInt8.ofNat n).toNat=n:=by simp;omega
theorem zr4 {f t D S L:Nat} (hf:f≤3) (ht:t≤3) (hD:D≤16) (hS:S≤2000) (hL:L≤255) (r:List UInt8) :
  byH (putH f t D S L++r) 2=f∧byH (putH f t D S L++r) 3=t∧byH (putH f t D S L++r) 4=D∧stgH (putH f t D S L++r)=S∧byH (putH f t D S L++r) 7=L:=by
 refine⟨zcf (by omega),zcf (by omega),zcf (by omega),?_,zcf (by omega)⟩;have h1:byH (putH f t D S L++r) 5=S/256:=zcf (by omega);have h2:byH (putH f t D S L++r) 6=S%256:=zcf (by omega);unfold stgH;omega
theorem zja {f t D S L:Nat} (h:zbf f t D S L) (hf:f≤3) (ht:t≤3) (hD:D≤16) (hS:S≤2000) (hL:L≤255) (r:List UInt8):erH (putH f t D S L++r)=0:=by
 obtain⟨h1,h2,h3,h4,h5⟩:=zr4 hf ht hD hS hL r;unfold erH;rw[if_neg (by simp[putH,begH]),if_neg (by simp[putH]),if_pos];unfold RgtH;rw[h1,h2,h3,h4,h5];exact h
theorem zjj {f t D S L:Nat} (h:zbf f t D S L) (hf:f≤3) (ht:t≤3) (hD:D≤16) (hS:S≤2000) (hL:L≤255) (r:List UInt8):getV (putH f t D S L++r)=suV f t D S L:=by
 obtain⟨h1,h2,h3,h4,h5⟩:=zr4 hf ht hD hS hL r;unfold getV;rw[if_pos (zja h hf ht hD hS hL r),h1,h2,h3,h4,h5]
end
section
open Go.RowKit
open Go.Lib
theorem zcr (x:ByteArray):x.size=x.data.toList.length:=Array.length_toList.symm
theorem zadf (s p:ByteArray):((s.extract 0 p.size).toList==p.toList)=p.data.toList.isPrefixOf s.data.toList:=by
 rw[ByteArray.toList_eq,ByteArray.toList_eq,ze6,List.drop_zero];rw[zcr p,Bool.eq_iff_iff,beq_iff_eq,List.isPrefixOf_iff_prefix,List.prefix_iff_eq_take];exact eq_comm
theorem zw1 {s p:List UInt8} (h:s.length<p.length):p.isPrefixOf s=false:=by
 rw[Bool.eq_false_iff];intro hh;have:=(List.isPrefixOf_iff_prefix.1 hh).length_le;omega
theorem zvw (s p:ByteArray) (w:World):Calls Tryz.prog 51 #[.string s,.string p] w fun r w'=>r= .returned (.bool (p.data.toList.isPrefixOf s.data.toList))∧w=w':=by
 by_cases h:p.size≤s.size
 ·have h1:=fun W=>zdk s p.size h W
  have h2:=zadf s p;generalize p.data.toList.isPrefixOf s.data.toList=q at *
  generalize s.extract 0 p.size=x at *
  have h3:((s.size:Int)≥p.size)=True:=by simp;omega
  cases q
  all_goals
   go_enter Tryz.func51,Tryz.ntmps51;go_wp2;go_ret;exact⟨rfl,rfl⟩
 ·have h2:p.data.toList.isPrefixOf s.data.toList=false:=zw1 (by rw[← zcr,← zcr];omega)
  rw[h2];clear h2;go_enter Tryz.func51,Tryz.ntmps51;go_wp2;go_ret;exact⟨rfl,rfl⟩
theorem zqw (s p:ByteArray) (w:World):Calls Tryz.prog 38 #[.string s,.string p] w fun r w'=>r= .returned (.bool (p.data.toList.isPrefixOf s.data.toList))∧w=w':=by
 have H:=hid (fun W=>zvw s p W);generalize p.data.toList.isPrefixOf s.data.toList=q at *
 go_enter Tryz.func38,Tryz.ntmps38;(go_wp2_with fail);refine(H.out _).mono ?_;rintro r w1 ⟨rfl,rfl⟩;go_wp2;go_ret;exact⟨rfl,rfl⟩
theorem zafj (s:ByteArray) (w:World):Calls Tryz.prog 24 #[.string s] w fun r w'=>r= .returned (.bool (begH s.data.toList))∧w=w':=by
 have H1:=hid (fun W=>zqw s ⟨#[84,82]⟩ W);have H2:=hid (fun W=>zqw ⟨#[84,82]⟩ s W);have e:=zagc s.data.toList;generalize hq:begH s.data.toList=q at *
 rw[show(⟨#[84,82]⟩:ByteArray).data.toList=[84,82] from rfl] at H1 H2;generalize ([84,82]:List UInt8).isPrefixOf s.data.toList=q1 at *
 generalize s.data.toList.isPrefixOf ([84,82]:List UInt8)=q2 at *
 cases q1
 ·simp only[Bool.false_or] at e
  subst e;clear hq;go_enter Tryz.func24,Tryz.ntmps24;(go_wp2_with fail);refine(H1.out _).mono ?_;rintro r w1 ⟨rfl,rfl⟩;(go_wp2_with fail);refine(H2.out _).mono ?_;rintro r w1 ⟨rfl,rfl⟩;go_wp2;go_ret;exact⟨rfl,rfl⟩
 ·simp only[Bool.true_or] at e
  subst e;clear hq;go_enter Tryz.func24,Tryz.ntmps24;(go_wp2_with fail);refine(H1.out _).mono ?_;rintro r w1 ⟨rfl,rfl⟩;go_wp2;go_ret;exact⟨rfl,rfl⟩
theorem zdn (D:ByteArray) (a:Nat) (h:a<D.size) (W:World):(Instr.index 9 (.string D) (.int .i64 (a:Int))).run Tryz.prog W= .ok (.int .u8 (byH D.data.toList a:Int)) W:=by
 rw[run_index_string W 9 D .i64 (a:Int) Tryz.underlying9,dif_pos (by omega)];rw[zaiu (by rw[← zcr];exact h)];rfl
theorem zajl (a c:Nat) (ha:a<256) (hc:c<256):bits .or .i64 ((a*256:Nat):Int) (c:Int)=((a*256+c:Nat):Int):=by
 have h1:(BitVec.ofInt 64 ((a*256:Nat):Int)).toNat=a*2^8:=by
  rw[BitVec.ofInt_natCast,BitVec.toNat_ofNat];exact Nat.mod_eq_of_lt (by omega)
 have h2:(BitVec.ofInt 64 (c:Int)).toNat=c:=by
  rw[BitVec.ofInt_natCast,BitVec.toNat_ofNat];exact Nat.mod_eq_of_lt (by omega)
 show IntKind.i64.wrap ((BitVec.ofInt 64 ((a*256:Nat):Int) ||| BitVec.ofInt 64 (c:Int)).toNat:Int)=_;rw[BitVec.toNat_or,h1,h2,show a*2^8=2^8*a by rw[Nat.mul_comm],← Nat.two_pow_add_eq_or_of_lt (by omega),IntKind.wrap_i64];omega
theorem zafm (s:ByteArray) (hs:8≤s.size) (w:World):Calls Tryz.prog 25 #[.string s] w fun r w'=>r= .returned (suV (byH s.data.toList 2) (byH s.data.toList 3) (byH s.data.toList 4) (stgH s.data.toList) (byH s.data.toList 7))∧Below w.heap.size w w':=by
 have HB:=hid (fun x=>zaa (Below.refl w.heap.size w) x);have a2:∀W,(Instr.index 9 (.string s) (.int .i64 2)).run Tryz.prog W= .ok (.int .u8 (byH s.data.toList 2:Int)) W:=fun W=>zdn s 2 (by omega) W
 have a3:∀W,(Instr.index 9 (.string s) (.int .i64 3)).run Tryz.prog W= .ok (.int .u8 (byH s.data.toList 3:Int)) W:=fun W=>zdn s 3 (by omega) W
 have a4:∀W,(Instr.index 9 (.string s) (.int .i64 4)).run Tryz.prog W= .ok (.int .u8 (byH s.data.toList 4:Int)) W:=fun W=>zdn s 4 (by omega) W
 have a5:∀W,(Instr.index 9 (.string s) (.int .i64 5)).run Tryz.prog W= .ok (.int .u8 (byH s.data.toList 5:Int)) W:=fun W=>zdn s 5 (by omega) W
 have a6:∀W,(Instr.index 9 (.string s) (.int .i64 6)).run Tryz.prog W= .ok (.int .u8 (byH s.data.toList 6:Int)) W:=fun W=>zdn s 6 (by omega) W
 have a7:∀W,(Instr.index 9 (.string s) (.int .i64 7)).run Tryz.prog W= .ok (.int .u8 (byH s.data.toList 7:Int)) W:=fun W=>zdn s 7 (by omega) W
 have b2:=zky s.data.toList 2;have b3:=zky s.data.toList 3;have b4:=zky s.data.toList 4;have b5:=zky s.data.toList 5;have b6:=zky s.data.toList 6;have b7:=zky s.data.toList 7;unfold stgH;generalize byH s.data.toList 2=n2 at *
 generalize byH s.data.toList 3=n3 at *
 generalize byH s.data.toList 4=n4 at *
 generalize byH s.data.toList 5=n5 at *
 generalize byH s.data.toList 6=n6 at *
 generalize byH s.data.toList 7=n7 at *
 have q1:=zajl n5 n6 b5 b6;unfold suV;clear hs;go_enter Tryz.func25,Tryz.ntmps25;(go_wp2_with fail);refine za4 21 (by kernel_rfl) (by kernel_rfl) ?_;simp only[List.take_succ_cons,List.take_zero,List.drop_succ_cons,List.drop_zero]
 repeat still_step
 refine wpStill_nil ?_;go_wp2;simp[bodyPost,results,Tryz.results25,go_sem];exact⟨by simpa using q1,zbj (HB.out _)⟩
theorem zew {f t D S L:Nat} (h:zbf f t D S L) (hf:f≤3) (ht:t≤3) (hD:D≤16) (hS:S≤2000) (hL:L≤255) (w:World) :
  Calls Tryz.prog 11 #[suV f t D S L] w fun r w'=>r= .returned (.tuple #[.string ⟨(putH f t D S L).toArray⟩,.bool true])∧Below w.heap.size w w':=by
 have HR:=hid (fun W=>zee f t D S L W);rw[decide_eq_true h] at HR;have H0:Hid (SuI w (w.alloc (.cells #[.int .i64 f,.int .i64 t,.int .i64 D,.int .i64 S,.int .i64 L] 23)) f t D S L):=hid ⟨zaa (Below.refl _ _) _,zag _ _ _⟩;obtain⟨X,hX⟩:∃X:ByteArray,X=⟨([UInt8.ofNat f,UInt8.ofNat t,UInt8.ofNat D,UInt8.ofNat (S/256),UInt8.ofNat (S%256),UInt8.ofNat L]:List UInt8).toArray⟩:=⟨_,rfl⟩
 have hcv:∀W:World,(convert 30 9 (.slice (some ⟨W.heap.size,0,none⟩) 6 6)).run Tryz.prog (W.alloc (.cells #[.int .u8 f,.int .u8 t,.int .u8 D,.int .u8 ((S:Int)/256),.int .u8 ((S:Int)%256),.int .u8 L] 5))= .ok (.string X) (W.alloc (.cells #[.int .u8 f,.int .u8 t,.int .u8 D,.int .u8 ((S:Int)/256),.int .u8 ((S:Int)%256),.int .u8 L] 5)):=fun W=>by
  refine zhu W [UInt8.ofNat f,UInt8.ofNat t,UInt8.ofNat D,UInt8.ofNat (S/256),UInt8.ofNat (S%256),UInt8.ofNat L] _ 6 rfl ?_ X hX;simp only[Lib.byteCells,List.map_cons,List.map_nil,zcf (show f<256 by omega),zcf (show t<256 by omega),zcf (show D<256 by omega),zcf (show S/256<256 by omega),zcf (show S%256<256 by omega),zcf (show L<256 by omega),Int.natCast_ediv,Int.natCast_emod];rfl
 have hcat:(⟨#[84,82]⟩:ByteArray)++X=⟨(putH f t D S L).toArray⟩:=by
  rw[hX];exact zc8 [84,82] _
 have hsz:X.size=6:=by rw[hX];rfl
 have HCAT:=hid hcat;unfold suV at HR ⊢;have s1:(9223372036854775807<(⟨#[84,82]⟩:ByteArray).size+X.size)=False:=by
  apply eq_false;rw[hsz];decide
 have HX:=hid hX;clear h hcat hX;go_enter Tryz.func11,Tryz.ntmps11;(go_wp2_with fail);refine(HR.out _).mono ?_;rintro r w1 ⟨rfl,b1⟩;have H1:=hid (H0.out.go b1);obtain⟨c0,c1,c2,c3,c4⟩:=(H0.out.go b1).cells;clear b1 H0;go_wp2;go_ret2;rw[HCAT.out];exact⟨rfl,zaa H1.out.bel _⟩
theorem zlv {f t D S L:Int} (h:¬zbf f t D S L) (w:World) :
  Calls Tryz.prog 11 #[suV f t D S L] w fun r w'=>r= .returned (.tuple #[.string ⟨#[]⟩,.bool false])∧Below w.heap.size w w':=by
 have HR:=hid (fun W=>zee f t D S L W);rw[decide_eq_false h] at HR;have HB:=hid (zaa (Below.refl w.heap.size w) (.cells #[.int .i64 f,.int .i64 t,.int .i64 D,.int .i64 S,.int .i64 L] 23));unfold suV at HR ⊢;clear h;go_enter Tryz.func11,Tryz.ntmps11;(go_wp2_with fail);refine(HR.out _).mono ?_;rintro r w1 ⟨rfl,b1⟩;have HB1:=hid (zab HB.out b1);clear b1;go_wp2;go_ret2;exact⟨rfl,HB1.out⟩
def lowH (e:Int):UInt8:=UInt8.ofNat (e%256).toNat
theorem zp3 (e:Int):((lowH e).toNat:Int)=e%256:=by
 unfold lowH;have:=zcf (n:=(e%256).toNat) (by omega);omega
theorem zrt (e:Int) (w:World):Calls Tryz.prog 31 #[.int .i64 e] w fun r w'=>r= .returned (.string ⟨([lowH e]:List UInt8).toArray⟩)∧Below w.heap.size w w':=by
 obtain⟨X,hX⟩:∃X:ByteArray,X=⟨([lowH e]:List UInt8).toArray⟩:=⟨_,rfl⟩
 have hcv:∀W:World,(convert 30 9 (.slice (some ⟨W.heap.size,0,none⟩) 1 1)).run Tryz.prog (W.alloc (.cells #[.int .u8 (e%256)] 5))= .ok (.string X) (W.alloc (.cells #[.int .u8 (e%256)] 5)):=fun W=>by
  refine zhu W [lowH e] _ 1 rfl ?_ X hX;simp only[Lib.byteCells,List.map_cons,List.map_nil,zp3]
 have HB:=hid (fun x=>zaa (Below.refl w.heap.size w) x);rw[← hX];clear hX;go_enter Tryz.func31,Tryz.ntmps31;go_wp2;go_ret;exact⟨rfl,HB.out _⟩
theorem zlu (e:Int) (w:World):Calls Tryz.prog 18 #[.int .i64 e] w fun r w'=>r= .returned (.string ⟨([78,lowH e]:List UInt8).toArray⟩)∧Below w.heap.size w w':=by
 have H:=hid (fun W=>zrt e W);obtain⟨X,hX⟩:∃X:ByteArray,(⟨([lowH e]:List UInt8).toArray⟩:ByteArray)=X:=⟨_,rfl⟩
 have hcat:(⟨([78,lowH e]:List UInt8).toArray⟩:ByteArray)=⟨#[78]⟩++X:=by rw[← hX];exact(zc8 [78] _).symm
 have hsz:X.size=1:=by rw[← hX];rfl
 have s1:(9223372036854775807<(⟨#[78]⟩:ByteArray).size+X.size)=False:=by
  apply eq_false;rw[hsz];decide
 rw[hX] at H;rw[hcat];clear hX hcat;go_enter Tryz.func18,Tryz.ntmps18;(go_wp2_with fail);refine(H.out _).mono ?_;rintro r w1 ⟨rfl,b1⟩;have B1:=hid b1;clear b1;go_wp2;go_ret;exact⟨rfl,B1.out⟩
theorem ze0 (e:Int) (w:World):Calls Tryz.prog 17 #[.int .i64 e] w fun r w'=>r= .returned (.string ⟨([255,lowH e]:List UInt8).toArray⟩)∧Below w.heap.size w w':=by
 have H:=hid (fun W=>zrt e W);obtain⟨X,hX⟩:∃X:ByteArray,(⟨([lowH e]:List UInt8).toArray⟩:ByteArray)=X:=⟨_,rfl⟩
 have hcat:(⟨([255,lowH e]:List UInt8).toArray⟩:ByteArray)=⟨#[255]⟩++X:=by rw[← hX];exact(zc8 [255] _).symm
 have hsz:X.size=1:=by rw[← hX];rfl
 have s1:(9223372036854775807<(⟨#[255]⟩:ByteArray).size+X.size)=False:=by
  apply eq_false;rw[hsz];decide
 rw[hX] at H;rw[hcat];clear hX hcat;go_enter Tryz.func17,Tryz.ntmps17;(go_wp2_with fail);refine(H.out _).mono ?_;rintro r w1 ⟨rfl,b1⟩;have B1:=hid b1;clear b1;go_wp2;go_ret;exact⟨rfl,B1.out⟩
theorem zhy (w:World):Calls Tryz.prog 16 #[] w fun r w'=>r= .returned (.string ⟨#[75]⟩)∧w=w':=by
 go_enter Tryz.func16,Tryz.ntmps16;go_wp2;go_ret;exact⟨rfl,rfl⟩
theorem zmv (w:World):Calls Tryz.prog 19 #[] w fun r w'=>r= .returned (.string ⟨#[70]⟩)∧w=w':=by
 go_enter Tryz.func19,Tryz.ntmps19;go_wp2;go_ret;exact⟨rfl,rfl⟩
theorem zne {w W:World} {a b c d e:Int} (h:SuI w W a b c d e) (f t D S L:Int) :
    ∃ W',W'=((((W.setCell ⟨w.heap.size,0,none⟩ (.int .i64 f)).setCell ⟨w.heap.size,1,none⟩ (.int .i64 t)).setCell ⟨w.heap.size,2,none⟩ (.int .i64 D)).setCell ⟨w.heap.size,3,none⟩ (.int .i64 S)).setCell ⟨w.heap.size,4,none⟩ (.int .i64 L) ∧
      Blk W' w.heap.size #[.int .i64 f,.int .i64 t,.int .i64 D,.int .i64 S,.int .i64 L] 23∧Below w.heap.size w W':=by
  refine⟨_,rfl,?_,?_⟩
  · exact((((h.blk.set 0 (.int .i64 f)).set 1 (.int .i64 t)).set 2 (.int .i64 D)).set 3 (.int .i64 S)).set 4 (.int .i64 L)
  · have k:∀{V:World},Below w.heap.size w V→∀(j:Nat) (v:Value),Below w.heap.size w (V.setCell ⟨w.heap.size,j,none⟩ v):=fun h j v=>h.setCell (Nat.le_refl _) v
    exact k (k (k (k (k h.bel 0 _) 1 _) 2 _) 3 _) 4 _
theorem zfb (s:ByteArray) (w:World):Calls Tryz.prog 13 #[.string s] w fun r w'=>r= .returned (.tuple #[getV s.data.toList,.int .i64 (erH s.data.toList:Nat)])∧Below w.heap.size w w':=by
 have HG:=hid (fun W=>zafj s W);have k0:SuI w (w.alloc (.cells #[.int .i64 0,.int .i64 0,.int .i64 0,.int .i64 0,.int .i64 0] 23)) 0 0 0 0 0:=⟨zaa (Below.refl _ _) _,zag _ _ _⟩
 have H0:=hid k0;have hsz:=zcr s;by_cases h1:begH s.data.toList=false
 ·have he:erH s.data.toList=2:=if_pos h1
  have hv:getV s.data.toList=suV 0 0 0 0 0:=if_neg (by rw[he];decide);rw[he,hv];rw[h1] at HG;unfold suV;clear he hv h1 hsz k0;go_enter Tryz.func13,Tryz.ntmps13;(go_wp2_with fail);refine(HG.out _).mono ?_;rintro r w1 ⟨rfl,rfl⟩;go_wp2;simp[bodyPost,results,Tryz.results13,go_sem];exact H0.out.bel
 have h1':begH s.data.toList=true:=by simpa using h1
 rw[h1'] at HG;by_cases h2:s.size<8
 ·have he:erH s.data.toList=3:=by
   unfold erH;rw[if_neg h1,if_pos (by omega)]
  have hv:getV s.data.toList=suV 0 0 0 0 0:=if_neg (by rw[he];decide);rw[he,hv];unfold suV;clear he hv h1 h1' hsz k0;go_enter Tryz.func13,Tryz.ntmps13;(go_wp2_with fail);refine(HG.out _).mono ?_;rintro r w1 ⟨rfl,rfl⟩;go_wp2;simp[bodyPost,results,Tryz.results13,go_sem];exact H0.out.bel
 have HS:=hid (fun W=>zafm s (by omega) W);have HR:=hid (fun W=>zee (byH s.data.toList 2) (byH s.data.toList 3) (byH s.data.toList 4) (stgH s.data.toList) (byH s.data.toList 7) W);have hr:(RgtH s.data.toList)=zbf (byH s.data.toList 2) (byH s.data.toList 3) (byH s.data.toList 4) (stgH s.data.toList) (byH s.data.toList 7):=rfl;by_cases h3:RgtH s.data.toList
 ·have he:erH s.data.toList=0:=by
   unfold erH;rw[if_neg h1,if_neg (by omega),if_pos h3]
  have hv:getV s.data.toList=suV (byH s.data.toList 2) (byH s.data.toList 3) (byH s.data.toList 4) (stgH s.data.toList) (byH s.data.toList 7):=if_pos he;rw[he,hv];rw[hr] at h3;rw[decide_eq_true h3] at HR;clear he hv h1 h1' hsz h3 hr k0;generalize byH s.data.toList 2=n2 at *
  generalize byH s.data.toList 3=n3 at *
  generalize byH s.data.toList 4=n4 at *
  generalize stgH s.data.toList=n5 at *
  generalize byH s.data.toList 7=n7 at *
  unfold suV at HR HS ⊢;go_enter Tryz.func13,Tryz.ntmps13;(go_wp2_with fail);refine(HG.out _).mono ?_;rintro r w1 ⟨rfl,rfl⟩;(go_wp2_with fail);refine(HS.out _).mono ?_;rintro r w1 ⟨rfl,b1⟩;have H1:=hid (H0.out.go b1);have K2:Hid (SuI w1 (w1.alloc (.cells #[.int .i64 n2,.int .i64 n3,.int .i64 n4,.int .i64 n5,.int .i64 n7] 23)) n2 n3 n4 n5 n7):=hid ⟨zaa (Below.refl _ _) _,zag _ _ _⟩;clear b1;(go_wp2_with fail);refine(HR.out _).mono ?_;rintro r w2 ⟨rfl,b2⟩;have H2:=hid (H1.out.go (zab K2.out.bel b2));obtain⟨c0,c1,c2,c3,c4⟩:=H2.out.cells;obtain⟨d0,d1,d2,d3,d4⟩:=(K2.out.go b2).cells;have hb:=H2.out.blk;obtain⟨z0,z1,z2,z3,z4⟩:=And.intro (hb.froz 0) (And.intro (hb.froz 1) (And.intro (hb.froz 2) (And.intro (hb.froz 3) (hb.froz 4))));clear b2 hb;go_wp2;obtain⟨W,hW,hbk,hbe⟩:=zne H2.out n2 n3 n4 n5 n7;rw[← hW];obtain⟨c0,c1,c2,c3,c4⟩:=And.intro (hbk.cell 0) (And.intro (hbk.cell 1) (And.intro (hbk.cell 2) (And.intro (hbk.cell 3) (hbk.cell 4))));simp[bodyPost,results,Tryz.results13,go_sem,c0,c1,c2,c3,c4];exact hbe
 ·have he:erH s.data.toList=2:=by
   unfold erH;rw[if_neg h1,if_neg (by omega),if_neg h3]
  have hv:getV s.data.toList=suV 0 0 0 0 0:=if_neg (by rw[he];decide);rw[he,hv];rw[hr] at h3;rw[decide_eq_false h3] at HR;clear he hv h1 h1' hsz h3 hr k0;generalize byH s.data.toList 2=n2 at *
  generalize byH s.data.toList 3=n3 at *
  generalize byH s.data.toList 4=n4 at *
  generalize stgH s.data.toList=n5 at *
  generalize byH s.data.toList 7=n7 at *
  unfold suV at HR HS ⊢;go_enter Tryz.func13,Tryz.ntmps13;(go_wp2_with fail);refine(HG.out _).mono ?_;rintro r w1 ⟨rfl,rfl⟩;(go_wp2_with fail);refine(HS.out _).mono ?_;rintro r w1 ⟨rfl,b1⟩;have H1:=hid (H0.out.go b1);have K2:Hid (SuI w1 (w1.alloc (.cells #[.int .i64 n2,.int .i64 n3,.int .i64 n4,.int .i64 n5,.int .i64 n7] 23)) n2 n3 n4 n5 n7):=hid ⟨zaa (Below.refl _ _) _,zag _ _ _⟩;clear b1;(go_wp2_with fail);refine(HR.out _).mono ?_;rintro r w2 ⟨rfl,b2⟩;have H2:=hid (H1.out.go (zab K2.out.bel b2));obtain⟨c0,c1,c2,c3,c4⟩:=H2.out.cells;obtain⟨d0,d1,d2,d3,d4⟩:=(K2.out.go b2).cells;have hb:=H2.out.blk;obtain⟨z0,z1,z2,z3,z4⟩:=And.intro (hb.froz 0) (And.intro (hb.froz 1) (And.intro (hb.froz 2) (And.intro (hb.froz 3) (hb.froz 4))));clear b2 hb;go_wp2;obtain⟨W,hW,hbk,hbe⟩:=zne H2.out 0 0 0 0 0;rw[← hW];obtain⟨c0,c1,c2,c3,c4⟩:=And.intro (hbk.cell 0) (And.intro (hbk.cell 1) (And.intro (hbk.cell 2) (And.intro (hbk.cell 3) (hbk.cell 4))));simp[bodyPost,results,Tryz.results13,go_sem,c0,c1,c2,c3,c4];exact hbe
end
section
open Go.RowKit
open Go.Lib
def AlvH (w:World):Prop:=∀W,Below w.heap.size w W→Calls Tryz.prog 12 #[] W fun r w'=>r= .returned (.bool true)∧Below W.heap.size W w'
theorem zof (f t D S L:Int):∃X:ByteArray,∀W,Calls Tryz.prog 11 #[suV f t D S L] W fun r w'=>r= .returned (.tuple #[.string X,.bool (decide (zbf f t D S L))])∧Below W.heap.size W w':=by
 by_cases h:zbf f t D S L
 ·obtain⟨f,t,D,S,L,rfl,rfl,rfl,rfl,rfl,h1,h2,h3,h4,h5⟩:=zdr h
  rw[decide_eq_true h];exact⟨_,fun W=>zew h h1 h2 h3 h4 h5 W⟩
 ·rw[decide_eq_false h]
  exact⟨_,fun W=>zlv h W⟩
def zjz (f t D S L f' t' D' S' L':Int):Bool:=f==f'&&t==t'&&D==D'&&S==S'&&L==L'
theorem zaah (f t D S L f' t' D' S' L':Int) (W:World):(binOp .eql 23 (suV f t D S L) (suV f' t' D' S' L')).run Tryz.prog W= .ok (.bool (zjz f t D S L f' t' D' S' L')) W:=by
 have hp:Tryz.prog.stoodInHeld 23=false:=by kernel_rfl
 have hs:Tryz.prog.underlying 23=some (.struct (Tryz.prog.fieldsOf 23)):=by kernel_rfl
 simp only[run_eql_struct,suV];rw[run_equalIn_agg _ _ _ _ _ hs hp];simp[go_sem];by_cases h1:f=f' <;>by_cases h2:t=t' <;>by_cases h3:D=D' <;>by_cases h4:S=S' <;>by_cases h5:L=L' <;>simp[zjz,h1,h2,h3,h4,h5]
theorem su_same {f t D S L f' t' D' S' L':Int}:zjz f t D S L f' t' D' S' L'=true↔f=f'∧t=t'∧D=D'∧S=S'∧L=L':=by
 simp only[zjz,Bool.and_eq_true,beq_iff_eq];constructor
 ·rintro ⟨⟨⟨⟨h1,h2⟩,h3⟩,h4⟩,h5⟩
  exact⟨h1,h2,h3,h4,h5⟩
 ·rintro ⟨h1,h2,h3,h4,h5⟩
  exact⟨⟨⟨⟨h1,h2⟩,h3⟩,h4⟩,h5⟩
theorem zacc (e:Int) (w:World) (hal:AlvH w):Calls Tryz.prog 5 #[.int .i64 e] w fun r w'=>r= .returned (.bool true)∧Below w.heap.size w w':=by
 have HAL:=hid (hal w (Below.refl _ _));have HN:=hid (fun W=>zlu e W);have HT:=hid (fun W=>ze0 e W);have HY:=hid (fun W=>zhy W);have HF:=hid (fun W=>zmv W);obtain⟨N,hN⟩:∃N:ByteArray,(⟨([78,lowH e]:List UInt8).toArray⟩:ByteArray)=N:=⟨_,rfl⟩
 obtain⟨T,hT⟩:∃T:ByteArray,(⟨([255,lowH e]:List UInt8).toArray⟩:ByteArray)=T:=⟨_,rfl⟩
 have sN:N.size=2:=by rw[← hN];rfl
 have sT:T.size=2:=by rw[← hT];rfl
 have n0:∀W,(Instr.index 9 (.string N) (.int .i64 0)).run Tryz.prog W= .ok (.int .u8 78) W:=fun W=>by
  have:=zdn N 0 (by omega) W;rw[← hN] at this ⊢;exact this
 have n1:∀W,(Instr.index 9 (.string N) (.int .i64 1)).run Tryz.prog W= .ok (.int .u8 (e%256)) W:=fun W=>by
  have:=zdn N 1 (by omega) W;rw[← zp3];rw[← hN] at this ⊢;exact this
 have t0:∀W,(Instr.index 9 (.string T) (.int .i64 0)).run Tryz.prog W= .ok (.int .u8 255) W:=fun W=>by
  have:=zdn T 0 (by omega) W;rw[← hT] at this ⊢;exact this
 have t1:∀W,(Instr.index 9 (.string T) (.int .i64 1)).run Tryz.prog W= .ok (.int .u8 (e%256)) W:=fun W=>by
  have:=zdn T 1 (by omega) W;rw[← zp3];rw[← hT] at this ⊢;exact this
 rw[hN] at HN;rw[hT] at HT;clear hN hT hal;go_enter Tryz.func5,Tryz.ntmps5;(go_wp2_with fail);refine HAL.out.mono ?_;rintro r w1 ⟨rfl,b1⟩;have B1:=hid b1;clear b1;(go_wp2_with fail);refine(HN.out _).mono ?_;rintro r w2 ⟨rfl,b2⟩;have B2:=hid (zab B1.out b2);clear b2;(go_wp2_with fail);refine(HT.out _).mono ?_;rintro r w3 ⟨rfl,b3⟩;have B3:=hid (zab B2.out b3);clear b3;(go_wp2_with fail);refine(HY.out _).mono ?_;rintro r w4 ⟨rfl,rfl⟩;(go_wp2_with fail);refine(HF.out _).mono ?_;rintro r w4 ⟨rfl,rfl⟩;go_wp2;go_ret;exact⟨rfl,B3.out⟩
theorem zagv {f t D S L f' t' D' S' L':Nat} (hf:f≤3) (ht:t≤3) (hD:D≤16) (hS:S≤2000) (hL:L≤255) (hf':f'≤3) (ht':t'≤3) (hD':D'≤16) (hS':S'≤2000) (hL':L'≤255)
  (h:putH f t D S L=putH f' t' D' S' L'):f=f'∧t=t'∧D=D'∧S=S'∧L=L':=by
 obtain⟨a1,a2,a3,a4,a5⟩:=zr4 hf ht hD hS hL [];obtain⟨b1,b2,b3,b4,b5⟩:=zr4 hf' ht' hD' hS' hL' [];rw[h] at a1 a2 a3 a4 a5;exact⟨a1.symm.trans b1,a2.symm.trans b2,a3.symm.trans b3,a4.symm.trans b4,a5.symm.trans b5⟩
structure Su2 (w W:World) (f t D S L f' t' D' S' L':Int):Prop where
 bel:Below w.heap.size w W
 b1:Blk W w.heap.size #[.int .i64 f,.int .i64 t,.int .i64 D,.int .i64 S,.int .i64 L] 23
 b2:Blk W (w.heap.size+1) #[.int .i64 f',.int .i64 t',.int .i64 D',.int .i64 S',.int .i64 L'] 23
theorem Su2.go {w W W2:World} {f t D S L f' t' D' S' L':Int} (h:Su2 w W f t D S L f' t' D' S' L') (k:Below W.heap.size W W2):Su2 w W2 f t D S L f' t' D' S' L':=⟨zab h.bel k,h.b1.go k,h.b2.go k⟩
theorem zah5 (w:World) (f t D S L f' t' D' S' L':Int):Su2 w ((w.alloc (.cells #[.int .i64 f,.int .i64 t,.int .i64 D,.int .i64 S,.int .i64 L] 23)).alloc (.cells #[.int .i64 f',.int .i64 t',.int .i64 D',.int .i64 S',.int .i64 L'] 23)) f t D S L f' t' D' S' L':=by
 refine⟨zaa (zaa (Below.refl _ _) _) _,(zag _ _ _).alloc _,?_⟩;have:=zag (w.alloc (.cells #[.int .i64 f,.int .i64 t,.int .i64 D,.int .i64 S,.int .i64 L] 23)) #[.int .i64 f',.int .i64 t',.int .i64 D',.int .i64 S',.int .i64 L'] 23;simpa using this
theorem zsk (f t D S L f' t' D' S' L':Int) (w:World) (hal:AlvH w):Calls Tryz.prog 6 #[suV f t D S L,suV f' t' D' S' L'] w fun r w'=>r= .returned (.bool true)∧Below w.heap.size w w':=by
  have HAL:=hid hal;have H0:=hid (zah5 w f t D S L f' t' D' S' L');by_cases hb:zbf f t D S L∧zbf f' t' D' S' L'
  · obtain⟨ha,hb⟩:=hb
    obtain⟨f,t,D,S,L,rfl,rfl,rfl,rfl,rfl,p1,p2,p3,p4,p5⟩:=zdr ha;obtain⟨f',t',D',S',L',rfl,rfl,rfl,rfl,rfl,q1,q2,q3,q4,q5⟩:=zdr hb;have HA:=hid (fun W=>zew ha p1 p2 p3 p4 p5 W);have HB:=hid (fun W=>zew hb q1 q2 q3 q4 q5 W);have hE:=fun W=>zaah f t D S L f' t' D' S' L' W
    have hq:((⟨(putH f t D S L).toArray⟩:ByteArray).toList==(⟨(putH f' t' D' S' L').toArray⟩:ByteArray).toList)=zjz f t D S L f' t' D' S' L':=by
      rw[Bool.eq_iff_iff,beq_iff_eq,su_same];constructor
      · intro h
        have h2:putH f t D S L=putH f' t' D' S' L':=by
          simpa only[ByteArray.toList_eq] using h
        have:=zagv p1 p2 p3 p4 p5 q1 q2 q3 q4 q5 h2;omega
      · rintro ⟨h1,h2,h3,h4,h5⟩
        obtain rfl:f=f':=by omega
        obtain rfl:t=t':=by omega
        obtain rfl:D=D':=by omega
        obtain rfl:S=S':=by omega
        obtain rfl:L=L':=by omega
        rfl
    have sX:(⟨(putH f t D S L).toArray⟩:ByteArray).size=8:=zbd _;generalize (⟨(putH f t D S L).toArray⟩:ByteArray)=X at *
    generalize (⟨(putH f' t' D' S' L').toArray⟩:ByteArray)=Y at *
    generalize zjz f t D S L f' t' D' S' L'=q at *
    unfold suV at HA HB hE ⊢;clear ha hb p1 p2 p3 p4 p5 q1 q2 q3 q4 q5 hal;go_enter Tryz.func6,Tryz.ntmps6;(go_wp2_with fail);refine(HA.out _).mono ?_;rintro r w1 ⟨rfl,b1⟩;have H1:=hid (H0.out.go b1);have hc:=(H0.out.go b1).b2;obtain⟨c0,c1,c2,c3,c4⟩:=And.intro (hc.cell 0) (And.intro (hc.cell 1) (And.intro (hc.cell 2) (And.intro (hc.cell 3) (hc.cell 4))));clear b1 H0 hc;(go_wp2_with fail);refine(HB.out _).mono ?_;rintro r w2 ⟨rfl,b2⟩;have H2:=hid (H1.out.go b2);clear b2 H1 c0 c1 c2 c3 c4;(go_wp2_with fail);refine(HAL.out _ H2.out.bel).mono ?_;rintro r w3 ⟨rfl,b3⟩;have H3:=hid (H2.out.go b3);have hc:=(H2.out.go b3).b1;have hd:=(H2.out.go b3).b2;obtain⟨c0,c1,c2,c3,c4⟩:=And.intro (hc.cell 0) (And.intro (hc.cell 1) (And.intro (hc.cell 2) (And.intro (hc.cell 3) (hc.cell 4))));obtain⟨d0,d1,d2,d3,d4⟩:=And.intro (hd.cell 0) (And.intro (hd.cell 1) (And.intro (hd.cell 2) (And.intro (hd.cell 3) (hd.cell 4))));clear b3 H2 hc hd;cases q
    all_goals
      go_wp2;go_ret;exact⟨rfl,H3.out.bel⟩
  · obtain⟨X,hX⟩:=zof f t D S L
    obtain⟨Y,hY⟩:=zof f' t' D' S' L';have hpq:decide (zbf f t D S L)=false∨decide (zbf f' t' D' S' L')=false:=by
      by_cases h:zbf f t D S L
      · exact .inr (decide_eq_false fun h'=>hb ⟨h,h'⟩)
      · exact .inl (decide_eq_false h)
    generalize decide (zbf f t D S L)=p at *
    generalize decide (zbf f' t' D' S' L')=q at *
    have HX:=hid hX;have HY:=hid hY;unfold suV at HX HY ⊢;clear hX hY hb hal;cases p <;>cases q
    case true.true=>rcases hpq with h|h <;>cases h
    all_goals
      clear hpq;go_enter Tryz.func6,Tryz.ntmps6;(go_wp2_with fail);refine(HX.out _).mono ?_;rintro r w1 ⟨rfl,b1⟩;have H1:=hid (H0.out.go b1);have hc:=(H0.out.go b1).b2;obtain⟨c0,c1,c2,c3,c4⟩:=And.intro (hc.cell 0) (And.intro (hc.cell 1) (And.intro (hc.cell 2) (And.intro (hc.cell 3) (hc.cell 4))));clear b1 H0 hc;(go_wp2_with fail);refine(HY.out _).mono ?_;rintro r w2 ⟨rfl,b2⟩;have H2:=hid (H1.out.go b2);clear b2 H1 c0 c1 c2 c3 c4;(go_wp2_with fail);refine(HAL.out _ H2.out.bel).mono ?_;rintro r w3 ⟨rfl,b3⟩;have H3:=hid (H2.out.go b3);clear b3 H2;go_wp2;go_ret;exact⟨rfl,H3.out.bel⟩
theorem zkw (x:UInt8):UInt8.ofNat x.toNat=x:=by simp
theorem zakk {l:List UInt8} (h:erH l=0):∃(f t D S L:Nat) (r:List UInt8),l=putH f t D S L++r∧zbf f t D S L∧f≤3∧t≤3∧D≤16∧S≤2000∧L≤255:=by
  unfold erH at h;split at h
  · cases h
  · rename_i h1
    split at h
    · cases h
    · rename_i h2
      split at h
      · rename_i h3
        match l,h1,h2,h3 with
        | a :: b::c::d::e::x::y::z::r,h1,h2,h3 =>
          simp only[begH,Bool.not_eq_false,Bool.and_eq_true,beq_iff_eq] at h1;obtain⟨rfl,rfl⟩:=h1;refine⟨c.toNat,d.toNat,e.toNat,x.toNat*256+y.toNat,z.toNat,r,?_,h3,?_⟩
          · have hy:=UInt8.toNat_lt y
            rw[putH,show(x.toNat*256+y.toNat)/256=x.toNat by omega,show(x.toNat*256+y.toNat)%256=y.toNat by omega,zkw,zkw,zkw,zkw,zkw,zkw];rfl
          · obtain⟨k1,k2,k3,k4,k5⟩:=h3
            have e1:byH (84::82::c::d::e::x::y::z::r) 2=c.toNat:=rfl;have e2:byH (84::82::c::d::e::x::y::z::r) 3=d.toNat:=rfl;have e3:byH (84::82::c::d::e::x::y::z::r) 4=e.toNat:=rfl;have e4:stgH (84::82::c::d::e::x::y::z::r)=x.toNat*256+y.toNat:=rfl;have e5:byH (84::82::c::d::e::x::y::z::r) 7=z.toNat:=rfl;rw[e1] at k1;rw[e2] at k2;rw[e3] at k3;rw[e4] at k4;rw[e5] at k5;unfold fmtP at k1 k2;unfold inP3 at k3 k4 k5;omega
        | [],_,h2,_=>exact absurd (by simp) h2
        | [_],_,h2,_=>exact absurd (by simp) h2
        | [_,_],_,h2,_=>exact absurd (by simp) h2
        | [_,_,_],_,h2,_=>exact absurd (by simp) h2
        | [_,_,_,_],_,h2,_=>exact absurd (by simp) h2
        | [_,_,_,_,_],_,h2,_=>exact absurd (by simp) h2
        | [_,_,_,_,_,_],_,h2,_=>exact absurd (by simp) h2
        | [_,_,_,_,_,_,_],_,h2,_=>exact absurd (by simp) h2
      · cases h
theorem zabl (A M:ByteArray) (w:World) (hal:AlvH w):Calls Tryz.prog 7 #[.string A,.string M] w fun r w'=>r= .returned (.bool true)∧Below w.heap.size w w':=by
  have HAL:=hid hal;have B0:=hid (Below.refl w.heap.size w);clear hal;by_cases hA:60<A.size
  · go_enter Tryz.func7,Tryz.ntmps7
    (go_wp2_with fail);refine(HAL.out _ B0.out).mono ?_;rintro r w1 ⟨rfl,b1⟩;have B1:=hid (zab B0.out b1);clear b1;go_wp2;go_ret;exact⟨rfl,B1.out⟩
  by_cases hM:60<M.size
  · go_enter Tryz.func7,Tryz.ntmps7
    (go_wp2_with fail);refine(HAL.out _ B0.out).mono ?_;rintro r w1 ⟨rfl,b1⟩;have B1:=hid (zab B0.out b1);clear b1;go_wp2;go_ret;exact⟨rfl,B1.out⟩
  have HG:=hid (fun W=>zfb A W);by_cases he:erH A.data.toList=0
  · obtain⟨f,t,D,S,L,r,hl,hR,p1,p2,p3,p4,p5⟩:=zakk he
    have hv:getV A.data.toList=suV f t D S L:=by rw[hl];exact zjj hR p1 p2 p3 p4 p5 r
    rw[he,hv] at HG;have HP:=hid (fun W=>zew hR p1 p2 p3 p4 p5 W);have HG2:=hid (fun W=>zfb (A++M) W);have h8:A.data.toList.length=8+r.length:=by
      rw[hl,List.length_append];rfl
    rw[← zcr] at h8;have hl2:(A++M).data.toList=putH f t D S L++(r++M.data.toList):=by
      rw[← List.append_assoc,← hl];simp
    rw [hl2,zja hR p1 p2 p3 p4 p5,zjj hR p1 p2 p3 p4 p5] at HG2;have hsl:∀W:World,(Instr.slice 9 (.string A) none (some (.int .i64 8)) none).run Tryz.prog W= .ok (.string ⟨(putH f t D S L).toArray⟩) W:=fun W=>by
      have h1:=zdk A 8 (by omega) W;have h2:A.extract 0 8=⟨(putH f t D S L).toArray⟩:=by
        rw[← zgs (A.extract 0 8),ze6,hl,List.drop_zero];rfl
      rw[h2] at h1;exact h1
    have hE:∀W:World,(binOp .eql 23 (suV f t D S L) (suV f t D S L)).run Tryz.prog W= .ok (.bool true) W:=fun W=>by
      have:=zaah f t D S L f t D S L W
      rwa [su_same.2 ⟨rfl,rfl,rfl,rfl,rfl⟩] at this
    have hsum:¬9223372036854775807<A.size+M.size:=by omega
    have h8':8≤A.size:=by omega
    generalize (⟨(putH f t D S L).toArray⟩:ByteArray)=P at *
    unfold suV at HG HG2 HP hE;clear he hl hR p1 p2 p3 p4 p5 hv h8 hl2;go_enter Tryz.func7,Tryz.ntmps7;(go_wp2_with fail);refine(HAL.out _ B0.out).mono ?_;rintro r w1 ⟨rfl,b1⟩;have B1:=hid (zab B0.out b1);clear b1;(go_wp2_with fail);refine(HG.out _).mono ?_;rintro r w2 ⟨rfl,b2⟩;have H2:Hid (SuI w2 (w2.alloc (.cells #[.int .i64 f,.int .i64 t,.int .i64 D,.int .i64 S,.int .i64 L] 23)) f t D S L):=hid ⟨zaa (Below.refl _ _) _,zag _ _ _⟩;have B2:=hid (zab B1.out b2);clear b2;(go_wp2_with fail);refine(HP.out _).mono ?_;rintro r w3 ⟨rfl,b3⟩;have H3:=hid (H2.out.go b3);clear b3 H2;(go_wp2_with fail);refine(HG2.out _).mono ?_;rintro r w4 ⟨rfl,b4⟩;have H4:=hid (H3.out.go (zaa b4 (.cells #[.int .i64 f,.int .i64 t,.int .i64 D,.int .i64 S,.int .i64 L] 23)));have hc:=(H3.out.go b4).blk;obtain⟨c0,c1,c2,c3,c4⟩:=And.intro (hc.cell 0) (And.intro (hc.cell 1) (And.intro (hc.cell 2) (And.intro (hc.cell 3) (hc.cell 4))));have hlt:=hc.lt;have hne:w2.heap.size≠w4.heap.size:=by omega
    clear b4 H3 hc;go_wp2;go_ret;exact⟨rfl,zab B2.out H4.out.bel⟩
  · have hv:getV A.data.toList=suV 0 0 0 0 0:=if_neg he
    rw[hv] at HG;have hE:∀W:World,(binOp .eql 23 (suV 0 0 0 0 0) (suV 0 0 0 0 0)).run Tryz.prog W= .ok (.bool true) W:=fun W=>zaah 0 0 0 0 0 0 0 0 0 0 W
    generalize erH A.data.toList=e at *
    have h0:((e:Int) !=0)=true:=by rw[bne_iff_ne];omega
    unfold suV at HG hE;clear hv he;go_enter Tryz.func7,Tryz.ntmps7;(go_wp2_with fail);refine(HAL.out _ B0.out).mono ?_;rintro r w1 ⟨rfl,b1⟩;have B1:=hid (zab B0.out b1);clear b1;(go_wp2_with fail);refine(HG.out _).mono ?_;rintro r w2 ⟨rfl,b2⟩;have B2:=hid (zaa (zab B1.out b2) (.cells #[.int .i64 0,.int .i64 0,.int .i64 0,.int .i64 0,.int .i64 0] 23));clear b2;go_wp2;go_ret;exact⟨rfl,B2.out⟩
end
section
open Go.RowKit
open Go.Lib
def RowB (W:World) (b:Nat) (l:List UInt8) (k:Nat):Prop:=∃rest:List Value,W.heap[b]? = some (.cells ((l.map fun x:UInt8=>Value.int .u8 (x.toNat:Int))++rest).toArray 5 (k,k+1))∧l.length+rest.length=k
theorem RowB.cell {W:World} {b k:Nat} {l:List UInt8} (h:RowB W b l k) {j:Nat} (hj:j<l.length):W.cell? ⟨b,j,none⟩=some (.int .u8 (l[j].toNat:Int)):=by
 obtain⟨rest,h,_⟩:=h;simp[World.cell?,h,List.getElem?_append,hj]
theorem RowB.froz {W:World} {b k:Nat} {l:List UInt8} (h:RowB W b l k) {j:Nat} (hj:j<l.length):W.frozen? ⟨b,j,none⟩=false:=by
 obtain⟨rest,h,hk⟩:=h;simp[World.frozen?,h];omega
theorem RowB.lt {W:World} {b k:Nat} {l:List UInt8} (h:RowB W b l k):b<W.heap.size:=by
 obtain⟨rest,h,_⟩:=h;exact(Array.getElem?_eq_some_iff.1 h).1
theorem RowB.go {W W2:World} {b k:Nat} {l:List UInt8} (h:RowB W b l k) (hb:Below W.heap.size W W2):RowB W2 b l k:=by
 have hl:=h.lt;obtain⟨rest,h,hk⟩:=h;exact⟨rest,(hb.block b hl).trans h,hk⟩
theorem RowB.set {W:World} {b k:Nat} {l:List UInt8} (h:RowB W b l k) {j:Nat} (hj:j<l.length) (y:UInt8):RowB (W.setCell ⟨b,j,none⟩ (.int .u8 (y.toNat:Int))) b (l.set j y) k:=by
 obtain⟨rest,h,hk⟩:=h;refine⟨rest,?_,by simpa using hk⟩;unfold World.setCell;simp[Array.getElem?_modify,h,hj,List.map_set]
theorem zab3 (W:World) (l:List UInt8) {n:Nat} (hl:l.length=n):∃cap W2,n≤cap∧(convert 9 30 (.string ⟨l.toArray⟩)).run Tryz.prog W= .ok (.slice (some ⟨W.heap.size,0,none⟩) n cap) W2∧(∃k,RowB W2 W.heap.size l k)∧Below W.heap.size W W2:=by
 have h:=run_bytes_of_string (P:=Tryz.prog) W 9 30 5 ⟨l.toArray⟩ Tryz.underlying9 Tryz.underlying30 Tryz.underlying5;rw[zbd,hl] at h;have hc:n≤grownCap W n 0 5:=grownCap_ge ..;have hr:bytesRow ⟨l.toArray⟩ (grownCap W n 0 5)=((l.map fun x:UInt8=>Value.int .u8 (x.toNat:Int))++List.replicate (grownCap W n 0 5-n) (Value.int .u8 0)).toArray:=by
  unfold bytesRow;rw[zbd,hl];simp
 refine⟨_,_,hc,h,⟨(bytesRow ⟨l.toArray⟩ (grownCap W n 0 5)).size,List.replicate (grownCap W n 0 5-n) (Value.int .u8 0),?_,?_⟩,zaa (zbj (Below.refl _ _)) _⟩
 ·have:=heap_alloc_new W.drew (.cells (bytesRow ⟨l.toArray⟩ (grownCap W n 0 5)) 5 ((bytesRow ⟨l.toArray⟩ (grownCap W n 0 5)).size,(bytesRow ⟨l.toArray⟩ (grownCap W n 0 5)).size+1))
  rw[← hr];exact this
 ·rw[hr,List.size_toArray,List.length_append,List.length_map]
theorem ze4 {W:World} {b k:Nat} {l:List UInt8} (h:RowB W b l k) {m cap:Nat} (hm:m≤l.length) (x:ByteArray) (hx:x=⟨(l.take m).toArray⟩) :
  (convert 30 9 (.slice (some ⟨b,0,none⟩) m cap)).run Tryz.prog W= .ok (.string x) W:=by
 have h1:=run_convert_bytes_back (P:=Tryz.prog) W 30 9 5 ⟨b,0,none⟩ cap (l.take m) Tryz.underlying30 Tryz.underlying5 Tryz.underlying9 (fun j hj=>by
  rw[List.length_take] at hj;rw[zej,Nat.zero_add,h.cell (by omega)];simp)
 rw[List.length_take,Nat.min_eq_left hm] at h1;rw[hx];exact h1
theorem znf (W:World) (b cap:Nat) (n m:Nat) (hm:m≤cap):(Instr.slice 30 (.slice (some ⟨b,0,none⟩) n cap) none (some (.int .i64 (m:Int))) none).run Tryz.prog W= .ok (.slice (some ⟨b,0,none⟩) m cap) W:=znr W 30 5 Tryz.underlying30 zak0 b n cap m hm
theorem zagk:∀z:Fin 256,∀c:Fin 2,bits .xor .u8 (if c=0 then 84 else 82) (z.val:Int)=((UInt8.ofNat ((if c=0 then 84 else 82) ^^^ z.val)).toNat:Int)∧(z.val≠0→UInt8.ofNat ((if c=0 then 84 else 82) ^^^ z.val)≠(if c=0 then 84 else 82)):=by decide +kernel
theorem zaep {b:Int} (hb:0<b∧b<256) (c:Fin 2):∃y:UInt8,bits .xor .u8 (if c=0 then 84 else 82) b=(y.toNat:Int)∧y≠(if c=0 then 84 else 82):=by
 have h:=zagk ⟨b.toNat,by omega⟩ c;simp only at h;rw[show((b.toNat:Nat):Int)=b by omega] at h;exact⟨_,h.1,h.2 (by omega)⟩
theorem zrl {f t D S L j:Nat} (hj:j<8):erH ((putH f t D S L).take j)=3:=by
 have hb:begH ((putH f t D S L).take j)=true:=by
  match j with
  | 0=>rfl
  | 1=>rfl
  | j+2=>simp[putH,begH]
 unfold erH;rw[if_neg (by simp[hb]),if_pos (by rw[List.length_take];omega)]
theorem zjp {l:List UInt8} (h:begH l=false):erH l=2:=if_pos h
theorem zagd {l:List UInt8} (h:erH l≠0):getV l=suV 0 0 0 0 0:=if_neg h
theorem zsz (f t D S L k b:Int) (hb:0≤b∧b≤255) (w:World) (hal:AlvH w):Calls Tryz.prog 3 #[suV f t D S L,.int .i64 k,.int .u8 b] w fun r w'=>r= .returned (.bool true)∧Below w.heap.size w w':=by
  have HAL:=hid hal;have H0:Hid (SuI w (w.alloc (.cells #[.int .i64 f,.int .i64 t,.int .i64 D,.int .i64 S,.int .i64 L] 23)) f t D S L):=hid ⟨zaa (Below.refl _ _) _,zag _ _ _⟩;clear hal;by_cases hR:zbf f t D S L
  case neg =>
    have H1:=hid (fun W=>zlv hR W);unfold suV at H1 ⊢;clear hR;go_enter Tryz.func3,Tryz.ntmps3;(go_wp2_with fail);refine(H1.out _).mono ?_;rintro r w1 ⟨rfl,b1⟩;have K1:=hid (H0.out.go b1);clear b1;(go_wp2_with fail);refine(HAL.out _ K1.out.bel).mono ?_;rintro r w2 ⟨rfl,b2⟩;have K2:=hid (K1.out.go b2);clear b2;go_wp2;go_ret;exact⟨rfl,K2.out.bel⟩
  obtain⟨f,t,D,S,L,rfl,rfl,rfl,rfl,rfl,p1,p2,p3,p4,p5⟩:=zdr hR;have H1:=hid (fun W=>zew hR p1 p2 p3 p4 p5 W);obtain⟨P,hPe⟩:∃P:ByteArray,(⟨(putH f t D S L).toArray⟩:ByteArray)=P:=⟨_,rfl⟩
  have hPs:P.size=8:=by rw[← hPe];rfl
  have hPl:P.data.toList=putH f t D S L:=by rw[← hPe]
  rw[hPe] at H1;by_cases h0:b=0
  · subst h0
    unfold suV at H1 ⊢;clear hR hPe hPl p1 p2 p3 p4 p5 hb;go_enter Tryz.func3,Tryz.ntmps3;(go_wp2_with fail);refine(H1.out _).mono ?_;rintro r w1 ⟨rfl,b1⟩;have K1:=hid (H0.out.go b1);clear b1;(go_wp2_with fail);refine(HAL.out _ K1.out.bel).mono ?_;rintro r w2 ⟨rfl,b2⟩;have K2:=hid (K1.out.go b2);clear b2;go_wp2;go_ret;exact⟨rfl,K2.out.bel⟩
  have hb0:(b==0)=false:=by rw[beq_eq_false_iff_ne];exact h0
  obtain⟨n,hn,hn2⟩:∃n:Int,Int.tmod (wrap64 (Int.tmod k 2+2)) 2=n∧(n=0∨n=1):=by
    have hl: -2<Int.tmod k 2:=Int.lt_tmod_of_pos k (by decide);have hu:Int.tmod k 2<2:=Int.tmod_lt_of_pos k (by decide);have hw:wrap64 (Int.tmod k 2+2)=Int.tmod k 2+2:=by unfold wrap64;omega
    rw[hw];have h1:=Int.tmod_nonneg (a:=Int.tmod k 2+2) 2 (by omega);have h2:=Int.tmod_lt_of_pos (Int.tmod k 2+2) (b:=2) (by decide);exact⟨_,rfl,by omega⟩
  have HPL:=hid hPl;have HG:=hid (fun(X:ByteArray) (e:Nat) (he:erH X.data.toList=e) (h:e≠0) (W:World)=>show Calls Tryz.prog 13 #[.string X] W fun r w'=>r= .returned (.tuple #[.agg #[.int .i64 0,.int .i64 0,.int .i64 0,.int .i64 0,.int .i64 0],.int .i64 (e:Nat)])∧Below W.heap.size W w' from by
    have:=zfb X W;rw[he,zagd (by rw[he];exact h)] at this;exact this)
  have HXO:=hid (fun c=>zaep (b:=b) (by omega) c);have HPE:=hid hPe;unfold suV at H1 ⊢;clear hR hPe hPl p1 p2 p3 p4 p5 hb h0;go_enter Tryz.func3,Tryz.ntmps3;(go_wp2_with fail);refine(H1.out _).mono ?_;rintro r w1 ⟨rfl,b1⟩;have K1:=hid (H0.out.go b1);clear b1 H0;(go_wp2_with fail);refine(HAL.out _ K1.out.bel).mono ?_;rintro r w2 ⟨rfl,b2⟩;have K2:=hid (K1.out.go b2);clear b2 K1 H1;go_wp2
  go_loopw [9,10,11] (fun vi _ _ wr=>∃j:Nat,vi= .int .i64 j∧j≤8∧Hid (Below w.heap.size w wr)) (fun vi _ _ _=>8-(RowKit.intOf vi).toNat)
  case atStart=>exact⟨0,rfl,by omega,hid K2.out.bel⟩
  case round =>
    obtain⟨j,rfl,hj,HI⟩:=hrel;by_cases hlt:j<8
    · have hs1:=fun W=>zdk P j (by omega) W
      have hg:=HG.out (P.extract 0 j) 3 (by rw[ze6,HPL.out,List.drop_zero];exact zrl hlt) (by decide);generalize P.extract 0 j=X at *
      have hgg:=hid hg;clear hg;(go_wp2_with fail);refine(hgg.out _).mono ?_;rintro r w3 ⟨rfl,b3⟩;have K3:=hid (zaa (zab HI.out b3) (.cells #[.int .i64 0,.int .i64 0,.int .i64 0,.int .i64 0,.int .i64 0] 23));clear b3;go_wp2;refine⟨⟨j+1,rfl,hlt,K3⟩,?_⟩;simp[RowKit.intOf];omega
    · obtain rfl:j=8:=by omega
      obtain⟨cap,W2,hcap,hcv,⟨kk,hrow⟩,hbel⟩:=zab3 wr (putH f t D S L) (n:=8) rfl;rw[HPE.out] at hcv;rcases hn2 with rfl|rfl
      · skip
        obtain⟨y,hy,hne⟩:∃y:UInt8,bits .xor .u8 84 b=(y.toNat:Int)∧y≠84:=HXO.out 0;have c0:W2.cell? ⟨wr.heap.size,0,none⟩=some (.int .u8 84):=hrow.cell (j:=0) (by simp[putH]);have z0:=hrow.froz (j:=0) (by simp[putH]);have hrow2:=hrow.set (j:=0) (by simp[putH]) y;have hf:=ze4 hrow2 (m:=8) (cap:=cap) (by simp[putH]) _ rfl;have hg1:=HG.out ⟨(((putH f t D S L).set 0 y).take 8).toArray⟩ 2 (zjp (by simp[putH,begH,hne])) (by decide);have hg2:=HG.out ⟨(((putH f t D S L).set 0 y).take 1).toArray⟩ 2 (zjp (by simp[putH,begH,hne])) (by decide);have hfw:=fun(W:World) (h:RowB W wr.heap.size ((putH f t D S L).set 0 y) kk)=>ze4 h (m:=1) (cap:=cap) (by simp[putH]) _ rfl
        have hsl:=fun W=>znf W wr.heap.size cap 8 1 (by omega)
        generalize (⟨(((putH f t D S L).set 0 y).take 8).toArray⟩:ByteArray)=T at *
        generalize (⟨(((putH f t D S L).set 0 y).take 1).toArray⟩:ByteArray)=U at *
        have hsl':∀W:World,(Instr.slice 30 (.slice (some ⟨wr.heap.size,0,none⟩) 8 cap) none (some (.int .i64 1)) none).run Tryz.prog W= .ok (.slice (some ⟨wr.heap.size,0,none⟩) 1 cap) W:=hsl;have b3:Below w.heap.size w (W2.setCell ⟨wr.heap.size,0,none⟩ (.int .u8 (y.toNat:Int))):=zg9 (zab HI.out hbel) HI.out.size _ _;have HR:=hid hrow2;have HFW:=hid hfw;have B3:=hid b3;have G1:=hid hg1;have G2:=hid hg2;have hb1:wr.heap.size<W2.heap.size:=hrow.lt;clear hrow hrow2 hfw hg1 hg2 b3 hsl hbel;(go_wp2_with fail);refine(G1.out _).mono ?_;rintro r w4 ⟨rfl,b4⟩;have B4:=hid (zaa (zab B3.out b4) (.cells #[.int .i64 0,.int .i64 0,.int .i64 0,.int .i64 0,.int .i64 0] 23));have hf2:=HFW.out _ (HR.out.go (zaa b4 (.cells #[.int .i64 0,.int .i64 0,.int .i64 0,.int .i64 0,.int .i64 0] 23)));clear b4 hf;(go_wp2_with fail);refine(G2.out _).mono ?_;rintro r w5 ⟨rfl,b5⟩;have B5:=hid (zaa (zab B4.out b5) (.cells #[.int .i64 0,.int .i64 0,.int .i64 0,.int .i64 0,.int .i64 0] 23));clear b5;go_wp2;go_ret;exact⟨rfl,B5.out⟩
      · skip
        obtain⟨y,hy,hne⟩:∃y:UInt8,bits .xor .u8 82 b=(y.toNat:Int)∧y≠82:=HXO.out 1;have c0:W2.cell? ⟨wr.heap.size,1,none⟩=some (.int .u8 82):=hrow.cell (j:=1) (by simp[putH]);have z0:=hrow.froz (j:=1) (by simp[putH]);have hrow2:=hrow.set (j:=1) (by simp[putH]) y;have hf:=ze4 hrow2 (m:=8) (cap:=cap) (by simp[putH]) _ rfl;have hg1:=HG.out ⟨(((putH f t D S L).set 1 y).take 8).toArray⟩ 2 (zjp (by simp[putH,begH,hne])) (by decide);have hg2:=HG.out ⟨(((putH f t D S L).set 1 y).take 2).toArray⟩ 2 (zjp (by simp[putH,begH,hne])) (by decide);have hfw:=fun(W:World) (h:RowB W wr.heap.size ((putH f t D S L).set 1 y) kk)=>ze4 h (m:=2) (cap:=cap) (by simp[putH]) _ rfl
        have hsl:=fun W=>znf W wr.heap.size cap 8 2 (by omega)
        generalize (⟨(((putH f t D S L).set 1 y).take 8).toArray⟩:ByteArray)=T at *
        generalize (⟨(((putH f t D S L).set 1 y).take 2).toArray⟩:ByteArray)=U at *
        have hsl':∀W:World,(Instr.slice 30 (.slice (some ⟨wr.heap.size,0,none⟩) 8 cap) none (some (.int .i64 2)) none).run Tryz.prog W= .ok (.slice (some ⟨wr.heap.size,0,none⟩) 2 cap) W:=hsl;have b3:Below w.heap.size w (W2.setCell ⟨wr.heap.size,1,none⟩ (.int .u8 (y.toNat:Int))):=zg9 (zab HI.out hbel) HI.out.size _ _;have HR:=hid hrow2;have HFW:=hid hfw;have B3:=hid b3;have G1:=hid hg1;have G2:=hid hg2;have hb1:wr.heap.size<W2.heap.size:=hrow.lt;clear hrow hrow2 hfw hg1 hg2 b3 hsl hbel;(go_wp2_with fail);refine(G1.out _).mono ?_;rintro r w4 ⟨rfl,b4⟩;have B4:=hid (zaa (zab B3.out b4) (.cells #[.int .i64 0,.int .i64 0,.int .i64 0,.int .i64 0,.int .i64 0] 23));have hf2:=HFW.out _ (HR.out.go (zaa b4 (.cells #[.int .i64 0,.int .i64 0,.int .i64 0,.int .i64 0,.int .i64 0] 23)));clear b4 hf;(go_wp2_with fail);refine(G2.out _).mono ?_;rintro r w5 ⟨rfl,b5⟩;have B5:=hid (zaa (zab B4.out b5) (.cells #[.int .i64 0,.int .i64 0,.int .i64 0,.int .i64 0,.int .i64 0] 23));clear b5;go_wp2;go_ret;exact⟨rfl,B5.out⟩
end
section
open Go.RowKit
open Go.Lib
theorem zno {D lim:Nat} (hD:D≤16) (hlim:lim≤2000):∀(l:List UInt8) (s:Pp) (M:Nat),WfPp D lim M s→PrP s→M+l.length≤430→(zau D lim s l).1.length≤80000000000*(l.length+1)
  | [],s,M,h,hp,hM=>by
    have:=zzk h (by simpa using hM) hlim hp;simpa [zau] using this
  | b :: l,s,M,h,hp,hM=>by
    simp only[List.length_cons] at hM ⊢;have h1:=zme h (by omega) hD hlim hp b;have h2:=zno hD hlim l _ (M+1) (ziu hD hlim h b) (zqn hp b) (by omega);rw[zj5];split
    · omega
    · simp only[List.length_append]
      omega
theorem zt9 (D lim:Nat) (pr:Bool→Nat→List UInt8) (f t:Int) (hf:fmtP f):zau D lim (pp0 pr f t) []=([],3):=by
 rcases hf with rfl|rfl|rfl <;>rfl
end
section
open Go.RowKit
open Go.Lib
theorem zka {s:ByteArray} {e:Nat} (he:erH s.data.toList=e) (h0:e≠0) (w:World):Calls Tryz.prog 14 #[.string s] w fun r w'=>r= .returned (.string ⟨([78,lowH e]:List UInt8).toArray⟩)∧Below w.heap.size w w':=by
 have HG:=hid (fun W=>zfb s W);rw[he] at HG;have hv:getV s.data.toList=suV 0 0 0 0 0:=if_neg (by rw[he];exact h0);rw[hv] at HG;have HN:=hid (fun W=>zlu (e:Int) W);have h1:((e:Int) !=0)=true:=by rw[bne_iff_ne];omega
 generalize (⟨([78,lowH (e:Int)]:List UInt8).toArray⟩:ByteArray)=X at *
 unfold suV at HG;clear hv he h0;go_enter Tryz.func14,Tryz.ntmps14;(go_wp2_with fail);refine(HG.out _).mono ?_;rintro r w1 ⟨rfl,b1⟩;have B1:=hid (zaa b1 (.cells #[.int .i64 0,.int .i64 0,.int .i64 0,.int .i64 0,.int .i64 0] 23));clear b1;(go_wp2_with fail);refine(HN.out _).mono ?_;rintro r w2 ⟨rfl,b2⟩;have B2:=hid (zab B1.out b2);clear b2;go_wp2;go_ret;exact⟨rfl,B2.out⟩
def outH (pr:Bool→Nat→List UInt8) (f t:Int) (D S:Nat) (l:List UInt8):ByteArray:=((⟨#[75]⟩:ByteArray)++⟨(zau D S (pp0 pr f t) l).1.toArray⟩)++⟨([255,lowH ((zau D S (pp0 pr f t) l).2:Nat)]:List UInt8).toArray⟩
theorem zoc {pr:Bool→Nat→List UInt8} (hpr:∀y m,(pr y m).length≤100) (f t:Int) {D S:Nat} (hD:D≤16) (hS:S≤2000) (l:List UInt8) (hl:l.length≤425):(zau D S (pp0 pr f t) l).1.length≤100000000000000:=by
 have:=zno hD hS l _ 0 (zy4 D S pr f t) (zakg hpr f t) (by omega);omega
theorem zih {pr:Bool→Nat→List UInt8} {w:World} (hP:PrintC w pr) {s:ByteArray} {f t D S L:Nat} (hR:zbf f t D S L) (he:erH s.data.toList=0) (hv:getV s.data.toList=suV f t D S L) {l:List UInt8} (hl:s.data.toList.drop 8=l) (hs:s.size≤433) (h8:8≤s.size) :
  Calls Tryz.prog 14 #[.string s] w fun r w'=>r= .returned (.string (outH pr f t D S l))∧Below w.heap.size w w':=by
 have HG:=hid (fun W=>zfb s W);rw[he,hv,show((0:Nat):Int)=0 from rfl] at HG;have hD:D≤16:=by have:=hR.2.2.1;unfold inP3 at this;omega
 have hS:S≤2000:=by have:=hR.2.2.2.1;unfold inP3 at this;omega
 have hll:l.length≤425:=by rw[← hl,List.length_drop,← zcr];omega
 have HB:=hid (fun(W:World) (k:Below w.heap.size w W)=>zi0 (hP.up k) f t L D S hR l hll);have hx:s.extract 8 s.size=⟨l.toArray⟩:=by
  rw[← zgs (s.extract 8 s.size),ze6,zcr s,List.take_length,hl]
 have hsl:∀W:World,(Instr.slice 9 (.string s) (some (.int .i64 8)) none none).run Tryz.prog W= .ok (.string ⟨l.toArray⟩) W:=fun W=>by
  have:=zg5 s 8 h8 W;rw[hx] at this;exact this
 have hos:=zoc hP.size f t hD hS l hll;have HT:=hid (fun W=>ze0 (((zau D S (pp0 pr f t) l).2:Nat):Int) W);have HY:=hid (fun W=>zhy W);unfold outH;have hz1:(⟨(zau D S (pp0 pr f t) l).1.toArray⟩:ByteArray).size≤100000000000000:=by rw[zbd];exact hos
 have hz2:(⟨([255,lowH ((zau D S (pp0 pr f t) l).2:Nat)]:List UInt8).toArray⟩:ByteArray).size=2:=rfl;generalize (⟨([255,lowH ((zau D S (pp0 pr f t) l).2:Nat)]:List UInt8).toArray⟩:ByteArray)=T at *
 generalize (⟨(zau D S (pp0 pr f t) l).1.toArray⟩:ByteArray)=O at *
 generalize (zau D S (pp0 pr f t) l).2=e at *
 generalize (⟨l.toArray⟩:ByteArray)=X at *
 have s1:(9223372036854775807<(⟨#[75]⟩:ByteArray).size+O.size)=False:=by
  apply eq_false;show¬(9223372036854775807<1+O.size);omega
 have s1':(9223372036854775807<1+O.size)=False:=s1;obtain⟨U,hU⟩:∃U,(⟨#[75]⟩:ByteArray)++O=U:=⟨_,rfl⟩
 have hUs:U.size≤100000000000001:=by rw[← hU,ByteArray.size_append];show 1+O.size≤_;omega
 have s2:(9223372036854775807<U.size+T.size)=False:=by
  apply eq_false;omega
 rw[hU];unfold suV at HG HB;clear hos hl hx he hv hD hS hll hR hs h8 hP hUs hz1 hz2;go_enter Tryz.func14,Tryz.ntmps14;(go_wp2_with fail);refine(HG.out _).mono ?_;rintro r w1 ⟨rfl,b1⟩;have H1:Hid (SuI w1 (w1.alloc (.cells #[.int .i64 f,.int .i64 t,.int .i64 D,.int .i64 S,.int .i64 L] 23)) f t D S L):=hid ⟨zaa (Below.refl _ _) _,zag _ _ _⟩;have B1:=hid b1;clear b1;have B2:=hid (zab B1.out H1.out.bel);(go_wp2_with fail)
 go_region_with ((go_at_call 15);(with_reducible refine(HB.out _ (zbj B2.out)).mono ?_);(rintro r w2 ⟨rfl,b2⟩))
 have B3:=hid (zab (zbj B2.out) b2);clear b2;(go_wp2_with fail);refine(HY.out _).mono ?_;rintro r w3 ⟨rfl,rfl⟩;(go_wp2_with fail);refine(HT.out _).mono ?_;rintro r w4 ⟨rfl,b4⟩;have B4:=hid (zab B3.out b4);clear b4;go_wp2;go_ret;exact⟨rfl,B4.out⟩
end
section
open Go.RowKit
open Go.Lib
theorem zacf (pr:Bool→Nat→List UInt8):zau 3 258 (pp0 pr 1 2) [91,49,93]=([159,1,255],0):=by kernel_rfl
theorem zco {w:World} (hP:PrintX w):Calls Tryz.prog 12 #[] w fun r w'=>r= .returned (.bool true)∧Below w.heap.size w w':=by
 obtain⟨pr,hP,_⟩:=hP;have hR:zbf (1:Nat) (2:Nat) (3:Nat) (258:Nat) (9:Nat):=by decide
 have H1:=hid (fun W=>zew hR (by decide) (by decide) (by decide) (by decide) (by decide) W);obtain⟨P,hPe⟩:∃P:ByteArray,(⟨(putH 1 2 3 258 9).toArray⟩:ByteArray)=P:=⟨_,rfl⟩
 have hq1:P.toList=[84,82,1,2,3,1,2,9]:=by rw[← hPe,ByteArray.toList_eq];rfl
 obtain⟨Q,hQ⟩:∃Q:ByteArray,P++(⟨#[91,49,93]⟩:ByteArray)=Q:=⟨_,rfl⟩
 have hQl:Q.data.toList=putH 1 2 3 258 9++[91,49,93]:=by rw[← hQ,← hPe];rfl
 have hPs:P.size=8:=by rw[← hPe];rfl
 have hQs:Q.size=11:=by rw[← hQ,ByteArray.size_append,hPs];rfl
 have H2:=hid (fun W=>zfb Q W);have he:=zja hR (by decide) (by decide) (by decide) (by decide) (by decide) [91,49,93];have hv:=zjj hR (by decide) (by decide) (by decide) (by decide) (by decide) [91,49,93];rw[← hQl] at he hv;have H3:=hid (fun(W:World) (k:Below w.heap.size w W)=>zih (hP.up k) (s:=Q) hR he hv (l:=[91,49,93]) (by rw[hQl];rfl) (by omega) (by omega));have hz:outH pr (1:Nat) (2:Nat) 3 258 [91,49,93]=⟨#[75,159,1,255,255,0]⟩:=by
  have:=zacf pr;unfold outH;rw[show(((1:Nat)):Int)=1 from rfl,show(((2:Nat)):Int)=2 from rfl,this];rfl
 rw[hz] at H3;rw[he,hv] at H2;have H4:=hid (fun W=>zmv W);rw[hPe] at H1;have hs:¬9223372036854775807<P.size+3:=by omega
 have hs':(9223372036854775807<P.size+(⟨#[91,49,93]⟩:ByteArray).size)=False:=by
  apply eq_false;show¬9223372036854775807<P.size+3;omega
 simp only[suV,show((1:Nat):Int)=1 from rfl,show((2:Nat):Int)=2 from rfl,show((3:Nat):Int)=3 from rfl,show((258:Nat):Int)=258 from rfl,show((9:Nat):Int)=9 from rfl,show((0:Nat):Int)=0 from rfl] at H1 H2;clear hR hPe hQl hQs he hv hz hP hPs;go_enter Tryz.func12,Tryz.ntmps12;(go_wp2_with fail);refine(H1.out _).mono ?_;rintro r w1 ⟨rfl,b1⟩;have B1:=hid b1;clear b1;(go_wp2_with fail);refine(H2.out _).mono ?_;rintro r w2 ⟨rfl,b2⟩;have B2:=hid (zaa (zab B1.out b2) (.cells #[.int .i64 1,.int .i64 2,.int .i64 3,.int .i64 258,.int .i64 9] 23));clear b2;(go_wp2_with fail);refine(H3.out _ B2.out).mono ?_;rintro r w3 ⟨rfl,b3⟩;have B3:=hid (zab B2.out b3);clear b3;(go_wp2_with fail);refine(H4.out _).mono ?_;rintro r w4 ⟨rfl,rfl⟩;go_wp2;go_ret;exact⟨rfl,B3.out⟩
theorem zpg (f t D S L:Int) (B:ByteArray) (w:World) (hP:PrintX w):Calls Tryz.prog 4 #[suV f t D S L,.string B] w fun r w'=>r= .returned (.bool true)∧Below w.heap.size w w':=by
 have HAL:=hid (fun(W:World) (k:Below w.heap.size w W)=>zco (hP.up k));have H0:Hid (SuI w (w.alloc (.cells #[.int .i64 f,.int .i64 t,.int .i64 D,.int .i64 S,.int .i64 L] 23)) f t D S L):=hid ⟨zaa (Below.refl _ _) _,zag _ _ _⟩;by_cases hR:zbf f t D S L
 case neg =>
  have H1:=hid (fun W=>zlv hR W);unfold suV at H1 ⊢;clear hP hR;go_enter Tryz.func4,Tryz.ntmps4;(go_wp2_with fail);refine(H1.out _).mono ?_;rintro r w1 ⟨rfl,b1⟩;have K1:=hid (H0.out.go b1);clear b1;(go_wp2_with fail);refine(HAL.out _ K1.out.bel).mono ?_;rintro r w2 ⟨rfl,b2⟩;have K2:=hid (K1.out.go b2);clear b2;go_wp2;go_ret;exact⟨rfl,K2.out.bel⟩
 obtain⟨f,t,D,S,L,rfl,rfl,rfl,rfl,rfl,p1,p2,p3,p4,p5⟩:=zdr hR;have H1:=hid (fun W=>zew hR p1 p2 p3 p4 p5 W);obtain⟨P,hPe⟩:∃P:ByteArray,(⟨(putH f t D S L).toArray⟩:ByteArray)=P:=⟨_,rfl⟩
 have hPl:P.data.toList=putH f t D S L:=by rw[← hPe]
 have hPs:P.size=8:=by rw[← hPe];rfl
 rw[hPe] at H1;by_cases hB:150<B.size
 ·unfold suV at H1 ⊢
  clear hP hR hPe hPl hPs p1 p2 p3 p4 p5;go_enter Tryz.func4,Tryz.ntmps4;(go_wp2_with fail);refine(H1.out _).mono ?_;rintro r w1 ⟨rfl,b1⟩;have K1:=hid (H0.out.go b1);clear b1;(go_wp2_with fail);refine(HAL.out _ K1.out.bel).mono ?_;rintro r w2 ⟨rfl,b2⟩;have K2:=hid (K1.out.go b2);clear b2;go_wp2;go_ret;exact⟨rfl,K2.out.bel⟩
 obtain⟨pr,hPr,_⟩:=hP;obtain⟨Q,hQ⟩:∃Q:ByteArray,P++B=Q:=⟨_,rfl⟩
 have hQl:Q.data.toList=putH f t D S L++B.data.toList:=by rw[← hQ,← hPl];simp
 have hQs:Q.size=8+B.size:=by rw[← hQ,ByteArray.size_append,hPs]
 have he:=zja hR p1 p2 p3 p4 p5 B.data.toList;have hv:=zjj hR p1 p2 p3 p4 p5 B.data.toList;rw[← hQl] at he hv;have H2:=hid (fun(W:World) (k:Below w.heap.size w W)=>zih (hPr.up k) (s:=Q) hR he hv (l:=B.data.toList) (by rw[hQl];rfl) (by omega) (by omega));have H3:=hid (fun(W:World) (k:Below w.heap.size w W)=>zi0 (hPr.up k) f t L D S hR B.data.toList (by rw[← zcr];omega));rw[zgs] at H3;have hos:=zoc hPr.size f t (by omega) p4 B.data.toList (by rw[← zcr];omega);have HT:=hid (fun W=>ze0 (((zau D S (pp0 pr f t) B.data.toList).2:Nat):Int) W);have HY:=hid (fun W=>zhy W);unfold outH at H2;have hz1:(⟨(zau D S (pp0 pr f t) B.data.toList).1.toArray⟩:ByteArray).size≤100000000000000:=by rw[zbd];exact hos
 have hz2:(⟨([255,lowH ((zau D S (pp0 pr f t) B.data.toList).2:Nat)]:List UInt8).toArray⟩:ByteArray).size=2:=rfl;generalize (⟨([255,lowH ((zau D S (pp0 pr f t) B.data.toList).2:Nat)]:List UInt8).toArray⟩:ByteArray)=T at *
 generalize (⟨(zau D S (pp0 pr f t) B.data.toList).1.toArray⟩:ByteArray)=O at *
 generalize (zau D S (pp0 pr f t) B.data.toList).2=e at *
 have s1:(9223372036854775807<(⟨#[75]⟩:ByteArray).size+O.size)=False:=by
  apply eq_false;show¬(9223372036854775807<1+O.size);omega
 have s1':(9223372036854775807<1+O.size)=False:=s1;obtain⟨U,hU⟩:∃U,(⟨#[75]⟩:ByteArray)++O=U:=⟨_,rfl⟩
 have hUs:U.size≤100000000000001:=by rw[← hU,ByteArray.size_append];show 1+O.size≤_;omega
 have s2:(9223372036854775807<U.size+T.size)=False:=by
  apply eq_false;omega
 have s3:(9223372036854775807<P.size+B.size)=False:=by
  apply eq_false;omega
 rw[hU] at H2;unfold suV at H1 H3 ⊢;clear hPr hR hPe hPl hPs p1 p2 p3 p4 p5 hQl hQs he hv hos hz1 hz2 hUs;go_enter Tryz.func4,Tryz.ntmps4;(go_wp2_with fail);refine(H1.out _).mono ?_;rintro r w1 ⟨rfl,b1⟩;have K1:=hid (H0.out.go b1);clear b1 H0;(go_wp2_with fail);refine(HAL.out _ K1.out.bel).mono ?_;rintro r w2 ⟨rfl,b2⟩;have K2:=hid (K1.out.go b2);clear b2 K1;(go_wp2_with fail);refine(H2.out _ K2.out.bel).mono ?_;rintro r w3 ⟨rfl,b3⟩;have K3:=hid (K2.out.go b3);obtain⟨c0,c1,c2,c3,c4⟩:=(K2.out.go b3).cells;clear b3 K2;(go_wp2_with fail);refine(H3.out _ K3.out.bel).mono ?_;rintro r w4 ⟨rfl,b4⟩;have K4:=hid (K3.out.go b4);clear b4 K3 c0 c1 c2 c3 c4;(go_wp2_with fail);refine(HY.out _).mono ?_;rintro r w5 ⟨rfl,rfl⟩;(go_wp2_with fail);refine(HT.out _).mono ?_;rintro r w6 ⟨rfl,b6⟩;have K6:=hid (K4.out.go b6);clear b6;go_wp2;go_ret;exact⟨rfl,K6.out.bel⟩
theorem zvi (f t D S L n b:Int) (hb:0≤b∧b≤255) (w:World) (hP:PrintX w):Calls Tryz.prog 8 #[suV f t D S L,.int .i64 n,.int .u8 b] w fun r w'=>r= .returned (.bool true)∧Below w.heap.size w w':=by
 have HAL:=hid (fun(W:World) (k:Below w.heap.size w W)=>zco (hP.up k));have H0:Hid (SuI w (w.alloc (.cells #[.int .i64 f,.int .i64 t,.int .i64 D,.int .i64 S,.int .i64 L] 23)) f t D S L):=hid ⟨zaa (Below.refl _ _) _,zag _ _ _⟩;by_cases hR:zbf f t D S L
 case neg =>
  have H1:=hid (fun W=>zlv hR W);unfold suV at H1 ⊢;clear hP hR;go_enter Tryz.func8,Tryz.ntmps8;(go_wp2_with fail);refine(H1.out _).mono ?_;rintro r w1 ⟨rfl,b1⟩;have K1:=hid (H0.out.go b1);clear b1;(go_wp2_with fail);refine(HAL.out _ K1.out.bel).mono ?_;rintro r w2 ⟨rfl,b2⟩;have K2:=hid (K1.out.go b2);clear b2;go_wp2;go_ret;exact⟨rfl,K2.out.bel⟩
 obtain⟨f,t,D,S,L,rfl,rfl,rfl,rfl,rfl,p1,p2,p3,p4,p5⟩:=zdr hR;have H1:=hid (fun W=>zew hR p1 p2 p3 p4 p5 W);obtain⟨P,hPe⟩:∃P:ByteArray,(⟨(putH f t D S L).toArray⟩:ByteArray)=P:=⟨_,rfl⟩
 have hPl:P.data.toList=putH f t D S L:=by rw[← hPe]
 have hPs:P.size=8:=by rw[← hPe];rfl
 rw[hPe] at H1;by_cases h1:n<0
 ·unfold suV at H1 ⊢
  clear hP hR hPe hPl p1 p2 p3 p4 p5 hb;go_enter Tryz.func8,Tryz.ntmps8;(go_wp2_with fail);refine(H1.out _).mono ?_;rintro r w1 ⟨rfl,b1⟩;have K1:=hid (H0.out.go b1);clear b1;(go_wp2_with fail);refine(HAL.out _ K1.out.bel).mono ?_;rintro r w2 ⟨rfl,b2⟩;have K2:=hid (K1.out.go b2);clear b2;go_wp2;go_ret;exact⟨rfl,K2.out.bel⟩
 by_cases h2:8≤n
 ·unfold suV at H1 ⊢
  clear hP hR hPe hPl p1 p2 p3 p4 p5 hb;go_enter Tryz.func8,Tryz.ntmps8;(go_wp2_with fail);refine(H1.out _).mono ?_;rintro r w1 ⟨rfl,b1⟩;have K1:=hid (H0.out.go b1);clear b1;(go_wp2_with fail);refine(HAL.out _ K1.out.bel).mono ?_;rintro r w2 ⟨rfl,b2⟩;have K2:=hid (K1.out.go b2);clear b2;go_wp2;go_ret;exact⟨rfl,K2.out.bel⟩
 by_cases h3:b=84
 ·subst h3
  unfold suV at H1 ⊢;clear hP hR hPe hPl p1 p2 p3 p4 p5 hb;go_enter Tryz.func8,Tryz.ntmps8;(go_wp2_with fail);refine(H1.out _).mono ?_;rintro r w1 ⟨rfl,b1⟩;have K1:=hid (H0.out.go b1);clear b1;(go_wp2_with fail);refine(HAL.out _ K1.out.bel).mono ?_;rintro r w2 ⟨rfl,b2⟩;have K2:=hid (K1.out.go b2);clear b2;go_wp2;go_ret;exact⟨rfl,K2.out.bel⟩
 have hb84:(b==84)=false:=by rw[beq_eq_false_iff_ne];exact h3
 obtain⟨m,rfl⟩:∃m:Nat,n=m:=⟨n.toNat,by omega⟩
 have hm:m<8:=by omega
 obtain⟨z,rfl⟩:∃z:Nat,b=z:=⟨b.toNat,by omega⟩
 have hz:z<256:=by omega
 have hz84:z≠84:=by omega
 obtain⟨pr,hPr,_⟩:=hP;have hs1:=fun W=>zdk P m (by omega) W
 have HB1:=hid (fun W=>zka (s:=P.extract 0 m) (e:=3) (by rw[ze6,hPl,List.drop_zero];exact zrl hm) (by decide) W);obtain⟨V,hV⟩:∃V:ByteArray,V=⟨([UInt8.ofNat z]:List UInt8).toArray⟩:=⟨_,rfl⟩
 have hcv:∀W:World,(convert 30 9 (.slice (some ⟨W.heap.size,0,none⟩) 1 1)).run Tryz.prog (W.alloc (.cells #[.int .u8 z] 5))= .ok (.string V) (W.alloc (.cells #[.int .u8 z] 5)):=fun W=>by
  refine zhu W [UInt8.ofNat z] _ 1 rfl ?_ V hV;simp only[Lib.byteCells,List.map_cons,List.map_nil,zcf hz]
 have hVs:V.size=1:=by rw[hV];rfl
 have hVP:(V++P).data.toList=UInt8.ofNat z::putH f t D S L:=by rw[hV,← hPe];simp
 have HB2:=hid (fun W=>zka (s:=V++P) (e:=2) (by rw[hVP];exact zjp (by simp[putH,begH])) (by decide) W);have he:=zja hR p1 p2 p3 p4 p5 [];have hv:=zjj hR p1 p2 p3 p4 p5 [];rw[List.append_nil,← hPl] at he hv;have HB3:=hid (fun(W:World) (k:Below w.heap.size w W)=>zih (hPr.up k) (s:=P) hR he hv (l:=[]) (by rw[hPl];rfl) (by omega) (by omega));have hout:outH pr f t D S []=(⟨#[75]⟩:ByteArray)++⟨([255,lowH 3]:List UInt8).toArray⟩:=by
  unfold outH;rw[zt9 D S pr f t hR.1];rfl
 rw[hout] at HB3;have HN3:=hid (fun W=>zlu 3 W);have HN2:=hid (fun W=>zlu 2 W);have HT:=hid (fun W=>ze0 3 W);have HY:=hid (fun W=>zhy W);rw[show((3:Nat):Int)=3 from rfl] at HB1;rw[show((2:Nat):Int)=2 from rfl] at HB2;have hT:(⟨([255,lowH 3]:List UInt8).toArray⟩:ByteArray).size=2:=rfl;generalize (⟨([255,lowH 3]:List UInt8).toArray⟩:ByteArray)=T at *
 generalize (⟨([78,lowH 3]:List UInt8).toArray⟩:ByteArray)=N3 at *
 generalize (⟨([78,lowH 2]:List UInt8).toArray⟩:ByteArray)=N2 at *
 generalize P.extract 0 m=X at *
 have s1:(9223372036854775807<V.size+P.size)=False:=by
  apply eq_false;omega
 have s2:(9223372036854775807<(⟨#[75]⟩:ByteArray).size+T.size)=False:=by
  apply eq_false;show¬9223372036854775807<1+T.size;omega
 have s2':(9223372036854775807<1+T.size)=False:=s2;obtain⟨U,hU⟩:∃U,(⟨#[75]⟩:ByteArray)++T=U:=⟨_,rfl⟩
 rw[hU] at HB3;obtain⟨Z,hZ⟩:∃Z,V++P=Z:=⟨_,rfl⟩
 rw[hZ] at HB2;have hm':((m:Int)<8)=True:=by simp;omega
 unfold suV at H1 ⊢;clear hPr hR hPe hPl p1 p2 p3 p4 p5 he hv hout hV hVP h3 hz84 hz hT hb h1 h2;go_enter Tryz.func8,Tryz.ntmps8;(go_wp2_with fail);refine(H1.out _).mono ?_;rintro r w1 ⟨rfl,b1⟩;have K1:=hid (H0.out.go b1);clear b1;(go_wp2_with fail);refine(HAL.out _ K1.out.bel).mono ?_;rintro r w2 ⟨rfl,b2⟩;have K2:=hid (K1.out.go b2);clear b2 K1 H0;(go_wp2_with fail);refine(HB1.out _).mono ?_;rintro r w3 ⟨rfl,b3⟩;have K3:=hid (zab K2.out.bel b3);clear b3;(go_wp2_with fail);refine(HN3.out _).mono ?_;rintro r w4 ⟨rfl,b4⟩;have K4:=hid (zaa (zab K3.out b4) (.cells #[.int .u8 z] 5));clear b4;(go_wp2_with fail);refine(HB2.out _).mono ?_;rintro r w5 ⟨rfl,b5⟩;have K5:=hid (zab K4.out b5);clear b5;(go_wp2_with fail);refine(HN2.out _).mono ?_;rintro r w6 ⟨rfl,b6⟩;have K6:=hid (zab K5.out b6);clear b6;(go_wp2_with fail);refine(HB3.out _ K6.out).mono ?_;rintro r w7 ⟨rfl,b7⟩;have K7:=hid (zab K6.out b7);clear b7;(go_wp2_with fail);refine(HY.out _).mono ?_;rintro r w8 ⟨rfl,rfl⟩;(go_wp2_with fail);refine(HT.out _).mono ?_;rintro r w9 ⟨rfl,b9⟩;have K9:=hid (zab K7.out b9);clear b9;go_wp2;go_ret;exact⟨rfl,K9.out⟩
end
end Go.Proofs.YtpaciekgbhoncaaGreat
