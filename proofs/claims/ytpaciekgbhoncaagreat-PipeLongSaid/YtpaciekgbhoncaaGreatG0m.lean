/-
  Parts: CoE, HeadRb, HeadBig, HeadLen, Kpure, PoA, PoB, PoC.
-/
import Derived.Test.YtpaciekgbhoncaaGreatG0l
import Derived.Test.YtpaciekgbhoncaaGreatG0j
import Derived.Test.YtpaciekgbhoncaaGreatG0b
import Derived.Test.YtpaciekgbhoncaaGreatG0f
import Derived.Test.YtpaciekgbhoncaaGreatG0g
import Derived.Shelf.Strconv.Itoa0
import Derived.Deep.QuietTactic
import Derived.Deep.RegionWith
import Derived.StillTail
set_option maxRecDepth 100000
set_option maxHeartbeats 16000000
open Go.Lib (hid)
namespace Go.Proofs.YtpaciekgbhoncaaGreat
section
open Go.RowKit
open Go.Lib
theorem QAt.asks {w:World} {b o:Nat} {F:List Nat} {q:Kq} (h:QAt w b o F q) (hd:dpQ q.s≤1000):∃a cp,(∀w',Below w.heap.size w w'→w'.cell? ⟨b,o,none⟩=some (.slice a q.s.length cp)∧w'.cell? ⟨b,o+1,none⟩=some (.bool q.dn)) ∧
  (∀w',Below w.heap.size w w'→Calls Tryz.prog 260 #[.slice a q.s.length cp] w' fun r w2=>r= .returned (.bool (fulT q.s))∧Below w'.heap.size w' w2) ∧
  (∀w',Below w.heap.size w w'→Calls Tryz.prog 261 #[.slice a q.s.length cp] w' fun r w2=>r= .returned (.bool (keyB q.s))∧Below w'.heap.size w' w2) ∧
  (∀w',Below w.heap.size w w'→Calls Tryz.prog 267 #[.slice a q.s.length cp] w' fun r w2=>r= .returned (.bool (mayQ q.s))∧Below w'.heap.size w' w2):=by
 obtain⟨a,cp,hA,hW,hF⟩:=h.cells;have hlt:=h.lt;have hw:∀w',Below w.heap.size w w'→Win w' 284 3 (.slice a q.s.length cp) q.s.length (kcL q.s):=fun w' k=>hW.keep fun i hi=>k.block i (hW.lt i hi)
 have hdl:=Nat.le_trans (zj0 q.s) hd;refine⟨a,cp,fun w' k=> ?_,fun w' k=>zaa4 (hw w' k) hd h.wf,fun w' k=>zadz (hw w' k) hdl,fun w' k=>zael (hw w' k) hd h.wf⟩;have:=hA.keep (k.block b hlt);obtain⟨⟨c0,_⟩,⟨c1,_⟩⟩:=zb6 this;exact⟨c0,c1⟩
theorem zabu {w:World} {b o:Nat} {F:List Nat} {q:Kq} (h:QAt w b o F q) (hd:dpQ q.s≤1000) :
    Calls Tryz.prog 259 #[.pointer (some ⟨b,o,none⟩)] w fun r w'=>r= .returned (.int .i64 ((if mayQ q.s=true then 0 else 14:Nat):Int))∧Below w.heap.size w w':=by
  obtain⟨a,cp,h0,_,_,hM⟩:=h.asks hd;have c0:=(h0 w (Below.refl _ _)).1;have HM:=hid (hM w (Below.refl _ _));clear h0 hM h;generalize mayQ q.s=M at *
  cases M with
  | false =>
    go_enter Tryz.func259,Tryz.ntmps259;(go_wp2_with fail);refine HM.out.mono ?_;rintro r w1 ⟨rfl,b1⟩;have B1:=hid b1;clear b1;go_wp2;go_ret;exact⟨rfl,B1.out⟩
  | true =>
    go_enter Tryz.func259,Tryz.ntmps259;(go_wp2_with fail);refine HM.out.mono ?_;rintro r w1 ⟨rfl,b1⟩;have B1:=hid b1;clear b1;go_wp2;go_ret;exact⟨rfl,B1.out⟩
theorem zm2 {w:World} {b o:Nat} {F:List Nat} {q:Kq} (h:QAt w b o F q) (hs:dpQ q.s≤1000) (v:Value) (X:Ev) (hP:∀W,Calls Tryz.prog 67 #[v] W fun r w'=>r= .returned (.tuple #[evV X,.bool true])∧Below W.heap.size W w')
    (isC isW:Bool) (S:ByteArray) (hC:∀W,(Instr.typeAssert v 20 169 true).run Tryz.prog W= .ok (.tuple #[.agg #[],.bool isC]) W)
    (hW:∀W,(Instr.typeAssert v 20 179 true).run Tryz.prog W= .ok (.tuple #[.string S,.bool isW]) W) (n:Nat)
    (hn:n=if q.dn=true then 14 else if isC=true then(if mayQ q.s=true then 0 else 14) else if fulT q.s=true then 14 else if isW=true then 0 else if keyB q.s=true then 8 else 0) :
    Calls Tryz.prog 257 #[.pointer (some ⟨b,o,none⟩),v] w fun r w'=>r= .returned (.int .i64 n)∧Below w.heap.size w w':=by
  have HP:=hid hP;have HC:=hid hC;have HW:=hid hW;obtain⟨k,y,m,t,c⟩:=X;simp only[evV] at HP;have HE:Hid (∀w',Below w.heap.size w w'→Calls Tryz.prog 259 #[.pointer (some ⟨b,o,none⟩)] w' fun r w2=>r= .returned (.int .i64 ((if mayQ q.s=true then 0 else 14:Nat):Int))∧Below w'.heap.size w' w2):=hid (fun w' k=>zabu (h.go k) hs);obtain⟨a,cp,hc0,hU,hK,_⟩:=h.asks hs;have HC0:=hid hc0;have HU:=hid hU;have HK:=hid hK;generalize (if mayQ q.s=true then 0 else 14:Nat)=n2 at *
  clear hP h hC hW hc0 hU hK hs;generalize fulT q.s=U at *
  generalize keyB q.s=K at *
  generalize q.s.length=l at *
  generalize q.dn=D at *
  cases D with
  | true =>
    obtain rfl:n=14:=by rw[hn,if_pos rfl]
    clear hn;go_enter Tryz.func257,Tryz.ntmps257;(go_wp2_with fail);refine(HP.out _).mono ?_;rintro r w1 ⟨rfl,b1⟩;have B1:=hid (zaa b1 (.cells #[.int .i64 k,.bool y,.int .u64 m,.string t,.int .i64 c] 43));have d1:=(HC0.out _ B1.out).2;clear b1;have BX:=B1;go_wp2;go_ret;exact⟨rfl,BX.out⟩
  | false =>
    rw[if_neg (by simp)] at hn;have hC:=HC.out;cases isC with
    | true =>
      rw[if_pos rfl] at hn;subst hn;go_enter Tryz.func257,Tryz.ntmps257;(go_wp2_with fail);refine(HP.out _).mono ?_;rintro r w1 ⟨rfl,b1⟩;have B1:=hid (zaa b1 (.cells #[.int .i64 k,.bool y,.int .u64 m,.string t,.int .i64 c] 43));have d1:=(HC0.out _ B1.out).2;clear b1;(go_wp2_with fail);refine(HE.out _ (zaa B1.out _)).mono ?_;rintro r w3 ⟨rfl,b3⟩;have BX:=hid (zab (zaa B1.out _) b3);clear b3;go_wp2;go_ret;exact⟨rfl,BX.out⟩
    | false =>
      rw[if_neg (by simp)] at hn;cases U with
      | true =>
        rw[if_pos rfl] at hn;subst hn;go_enter Tryz.func257,Tryz.ntmps257;(go_wp2_with fail);refine(HP.out _).mono ?_;rintro r w1 ⟨rfl,b1⟩;have B1:=hid (zaa b1 (.cells #[.int .i64 k,.bool y,.int .u64 m,.string t,.int .i64 c] 43));have d1:=(HC0.out _ B1.out).2;clear b1;have B2:=hid (zaa B1.out (.cells #[] 169));have d2:=(HC0.out _ B2.out).1;(go_wp2_with fail);refine(HU.out _ B2.out).mono ?_;rintro r w2 ⟨rfl,b2⟩;have B3:=hid (zab B2.out b2);clear b2;have BX:=B3;go_wp2;go_ret;exact⟨rfl,BX.out⟩
      | false =>
        rw[if_neg (by simp)] at hn;have hW:=HW.out;cases isW with
        | true =>
          rw[if_pos rfl] at hn;subst hn;go_enter Tryz.func257,Tryz.ntmps257;(go_wp2_with fail);refine(HP.out _).mono ?_;rintro r w1 ⟨rfl,b1⟩;have B1:=hid (zaa b1 (.cells #[.int .i64 k,.bool y,.int .u64 m,.string t,.int .i64 c] 43));have d1:=(HC0.out _ B1.out).2;clear b1;have B2:=hid (zaa B1.out (.cells #[] 169));have d2:=(HC0.out _ B2.out).1;(go_wp2_with fail);refine(HU.out _ B2.out).mono ?_;rintro r w2 ⟨rfl,b2⟩;have B3:=hid (zab B2.out b2);clear b2;have BX:=B3;go_wp2;go_ret;exact⟨rfl,BX.out⟩
        | false =>
          rw[if_neg (by simp)] at hn;cases K with
          | true =>
            rw[if_pos rfl] at hn;subst hn;go_enter Tryz.func257,Tryz.ntmps257;(go_wp2_with fail);refine(HP.out _).mono ?_;rintro r w1 ⟨rfl,b1⟩;have B1:=hid (zaa b1 (.cells #[.int .i64 k,.bool y,.int .u64 m,.string t,.int .i64 c] 43));have d1:=(HC0.out _ B1.out).2;clear b1;have B2:=hid (zaa B1.out (.cells #[] 169));have d2:=(HC0.out _ B2.out).1;(go_wp2_with fail);refine(HU.out _ B2.out).mono ?_;rintro r w2 ⟨rfl,b2⟩;have B3:=hid (zab B2.out b2);clear b2;have d3:=(HC0.out _ B3.out).1;(go_wp2_with fail);refine(HK.out _ B3.out).mono ?_;rintro r w3 ⟨rfl,b3⟩;have BX:=hid (zab B3.out b3);clear b3;go_wp2;go_ret;exact⟨rfl,BX.out⟩
          | false =>
            rw[if_neg (by simp)] at hn;subst hn;go_enter Tryz.func257,Tryz.ntmps257;(go_wp2_with fail);refine(HP.out _).mono ?_;rintro r w1 ⟨rfl,b1⟩;have B1:=hid (zaa b1 (.cells #[.int .i64 k,.bool y,.int .u64 m,.string t,.int .i64 c] 43));have d1:=(HC0.out _ B1.out).2;clear b1;have B2:=hid (zaa B1.out (.cells #[] 169));have d2:=(HC0.out _ B2.out).1;(go_wp2_with fail);refine(HU.out _ B2.out).mono ?_;rintro r w2 ⟨rfl,b2⟩;have B3:=hid (zab B2.out b2);clear b2;have d3:=(HC0.out _ B3.out).1;(go_wp2_with fail);refine(HK.out _ B3.out).mono ?_;rintro r w3 ⟨rfl,b3⟩;have BX:=hid (zab B3.out b3);clear b3;go_wp2;go_ret;exact⟨rfl,BX.out⟩
theorem zk9 {q:Kq} {e:Ev} (hm:mayE e) :
    (zb0 q e).1.2=if q.dn=true then 14 else if decide (e.k=7)=true then(if mayQ q.s=true then 0 else 14) else if fulT q.s=true then 14 else if decide (e.k=3)=true then 0 else if keyB q.s=true then 8 else 0:=by
  obtain⟨s,dn⟩:=q;cases dn with
  | true=>rw[zok ⟨s,true⟩ e (.inr rfl),if_pos rfl]
  | false =>
    rw[if_neg (by simp)];by_cases h7:e.k=7
    · rw[if_pos (decide_eq_true h7)]
      cases s with
      | nil=>rw[zjx hm h7];rfl
      | cons x r =>
        by_cases ho:zet x
        · rw[zkn hm h7 ho,if_neg (by simpa [mayQ] using ho)]
        · rw[znv hm h7 ho,if_pos (by simpa [mayQ] using ho)]
    · rw [if_neg (by simpa using h7)]
      by_cases hf:fulT s=true
      · rw[zk1 hm h7 hf,if_pos hf]
      · rw [if_neg hf]
        have hf:fulT s=false:=by simpa using hf
        by_cases hk:keyB s=true∧e.k≠3
        · rw[zn9 hm h7 hf hk.1 hk.2,if_neg (by simpa using hk.2),if_pos hk.1]
        · have hz:(if decide (e.k=3)=true then 0 else if keyB s=true then 8 else 0)=0:=by
            by_cases h3:e.k=3
            · rw[if_pos (decide_eq_true h3)]
            · rw[if_neg (by simpa using h3),if_neg (fun h=>hk ⟨h,h3⟩)]
          rw[hz];by_cases h56:e.k=5∨e.k=6
          · have hkf:keyB s=false:=by
              cases hq:keyB s with
              | false=>rfl
              | true=>exact absurd ⟨hq,by omega⟩ hk
            rw[zj7 hm h56 hf hkf]
          · rw[zm0 hm h7 h56 hf hk]
theorem zadx {w:World} {b o:Nat} {F:List Nat} {q:Kq} (h:QAt w b o F q) (hs:dpQ q.s≤1000) (e:Ev) (hm:mayE e) :
  Calls Tryz.prog 257 #[.pointer (some ⟨b,o,none⟩),valE e] w fun r w'=>r= .returned (.int .i64 ((zb0 q e).1.2:Nat))∧Below w.heap.size w w' :=
 zm2 h hs (valE e) (zfi e) (zgf e hm) _ _ _ (zct e hm) (zom e hm) _ (zk9 hm)
end
section
open Go.RowKit
open Go.Lib
def rowB (n k v:Nat):List UInt8:=List.replicate (n-k) 0++bigB k v
theorem zaa3 (n v:Nat):rowB n 0 v=List.replicate n 0:=by simp[rowB,bigB]
theorem zac3 (n v:Nat):rowB n n v=bigB n v:=by simp[rowB]
theorem zq3 (n k v:Nat) (h:k≤n):(rowB n k v).length=n:=by simp[rowB,zbo];omega
theorem zafa (n k v:Nat) (h:k<n):(rowB n k v).set (n-1-k) (UInt8.ofNat (v/256^k%256))=rowB n (k+1) v:=by
 have e:List.replicate (n-k) (0:UInt8)=List.replicate (n-1-k) 0++[0]:=by
  rw[show n-k=(n-1-k)+1 by omega,List.replicate_succ']
 unfold rowB;rw[e,List.append_assoc,List.set_append_right _ _ (by simp)];simp[bigB,show n-(k+1)=n-1-k by omega]
theorem zsn (l:List UInt8) (k:Nat) (b:UInt8):(zbe l).set k (.int .u8 (b.toNat:Int))=zbe (l.set k b):=by
 simp[zbe,List.map_set]
theorem zaj2 (w:World) (l:List UInt8):At (w.alloc (.cells (Lib.byteCells l).toArray 5)) w.heap.size 0 (zbe l):=fun j u hj=>by
 have hb:(w.alloc (.cells (Lib.byteCells l).toArray 5)).heap[w.heap.size]? = some (.cells (Lib.byteCells l).toArray 5 (0,0)):=by
  show(w.heap.push _)[_]? = _;rw[Array.getElem?_push,if_pos rfl]
 have hu:(Lib.byteCells l)[j]? = some u:=hj;refine⟨?_,?_⟩
 ·simp only[World.cell?,hb,Nat.zero_add]
  simpa using hu
 ·unfold World.frozen?
  rw[hb];simp
theorem zaha {w:World} {g:Nat} {l:List UInt8} (n cap:Nat) (hl:l.length=n) (h:At w g 0 (zbe l)) :
  (convert 30 9 (.slice (some ⟨g,0,none⟩) n cap)).run Tryz.prog w= .ok (.string ⟨l.toArray⟩) w:=by
 have hby:Lib.Bytes w g 0 ⟨l.toArray⟩:=by
  intro i hi;have hi':i<l.length:=by simpa [ByteArray.size] using hi
  have:=(h i (.int .u8 l[i].toNat) (by simp[zbe,hi'])).1;exact this
 have:=run_convert_window (P:=Tryz.prog) w 30 5 9 Tryz.underlying30 Tryz.underlying5 Tryz.underlying9 g 0 ⟨l.toArray⟩ hby 0 n cap (by simp[ByteArray.size];omega);rw[Nat.zero_add] at this;have e:ByteArray.extract ⟨l.toArray⟩ 0 (0+n)=⟨l.toArray⟩:=by
  apply ByteArray.ext;apply Array.toList_inj.1;rw[extract_data];show List.take _ l=l;exact List.take_of_length_le (by omega)
 rw[this,e]
end
section
open Go.RowKit
open Go.Lib
theorem zqf (v n:Nat) (h1:1≤n) (h8:n≤8) (w:World) :
    Calls Tryz.prog 277 #[.int .u64 v,.int .i64 n] w fun e w'=>e= .returned (.string ⟨(bigB n v).toArray⟩)∧Below w.heap.size w w':=by
  have hmk:=zxa n (by omega) n rfl;have g1:((n:Int)<1)=False:=by simp only[eq_iff_iff,iff_false];omega
  have g2:((8:Int)<n)=False:=by simp only[eq_iff_iff,iff_false];omega
  have HN:Hid (At (w.alloc (.cells (Lib.byteCells (List.replicate n 0)).toArray 5)) w.heap.size 0 (zbe (rowB n 0 v))):=hid (by rw[zaa3];exact zaj2 w _);go_enter Tryz.func277,Tryz.ntmps277;go_wp2
  go_loopw [17] (fun i wr=>∃k:Nat,k≤n∧i= .int .i64 k∧Hid (At wr w.heap.size 0 (zbe (rowB n k v))∧Below w.heap.size w wr)) (fun i _=>n-(RowKit.intOf i).toNat)
  case atStart=>exact⟨0,Nat.zero_le _,rfl,hid ⟨HN.out,(Below.refl _ _).alloc (Nat.le_refl _) _⟩⟩
  case round =>
    obtain⟨k,hk,rfl,HP⟩:=hrel;by_cases hlt:k<n
    · have hc:∃u,wr.cell? ⟨w.heap.size,n-1-k,none⟩=some u∧wr.frozen? ⟨w.heap.size,n-1-k,none⟩=false:=by
        have hl:n-1-k<(zbe (rowB n k v)).length:=by rw[zf7,zq3 _ _ _ hk];omega
        have:=HP.out.1 (n-1-k) _ (List.getElem?_eq_getElem hl);rw[Nat.zero_add] at this;exact⟨_,this⟩
      obtain⟨u,hcell,hfroz⟩:=hc;have e1:(n:Int)-1-k=((n-1-k:Nat):Int):=by omega
      have hv2:((v:Int)/2^(k*8)%256)=(((UInt8.ofNat (v/256^k%256)).toNat:Nat):Int):=by
        rw[zag6,show(256:Nat)^k=2^(k*8) by rw[show(256:Nat)=2^8 from rfl,← Nat.pow_mul,Nat.mul_comm]];simp
      have HQ:Hid (At (wr.setCell ⟨w.heap.size,n-1-k,none⟩ (.int .u8 ((v:Int)/2^(k*8)%256))) w.heap.size 0 (zbe (rowB n (k+1) v))∧Below w.heap.size w (wr.setCell ⟨w.heap.size,n-1-k,none⟩ (.int .u8 ((v:Int)/2^(k*8)%256)))):=hid (by
        refine⟨?_,HP.out.2.setCell (by simp) _⟩;have:=HP.out.1.set (n-1-k) (by rw[zf7,zq3 _ _ _ hk];omega) (.int .u8 ((v:Int)/2^(k*8)%256));rw[hv2,zsn,zafa n k v hlt,← hv2,Nat.zero_add] at this;exact this)
      clear hv2;go_wp2
      go_roundw
      case rel=>exact⟨k+1,by omega,by go_num,HQ⟩
      case measure=>simp[RowKit.intOf];omega
    · have hkn:k=n:=by omega
      subst hkn;have hcv:(convert 30 9 (.slice (some ⟨w.heap.size,0,none⟩) k k)).run Tryz.prog wr= .ok (.string ⟨(bigB k v).toArray⟩) wr:=by
        have:=HP.out.1;rw[zac3] at this;exact zaha k k (zbo k v) this
      go_wp2;go_ret;exact⟨rfl,HP.out.2⟩
end
section
open Go.RowKit
open Go.Lib
open Go.Shelf in
def zp0:Go.Shelf.Ren:=⟨fun|129=>247|n=>n,fun|53=>41|3=>3|4=>4|46=>52|5=>5|9=>9|n=>n,fun|n=>n⟩
theorem zags:Go.Proofs.Lays.n129 Tryz.prog zp0:={
 mixed:=by kernel_rfl
 f129:=Tryz.func247.trans (congrArg some (by kernel_rfl))
 t3:=Tryz.underlying3
 a3:=Tryz.isAgg3
 z3:=Tryz.sizeOf3
 v3:=Tryz.zeroValue3
 t4:=Tryz.underlying4
 a4:=Tryz.isAgg4
 z4:=Tryz.sizeOf4
 v4:=Tryz.zeroValue4
 t5:=Tryz.underlying5
 a5:=Tryz.isAgg5
 z5:=Tryz.sizeOf5
 v5:=Tryz.zeroValue5
 t9:=Tryz.underlying9
 a9:=Tryz.isAgg9
 z9:=Tryz.sizeOf9
 v9:=Tryz.zeroValue9
 t46:=Tryz.underlying52
 a46:=Tryz.isAgg52
 z46:=Tryz.sizeOf52
 v46:=Tryz.zeroValue52
 t53:=Tryz.underlying41
 a53:=Tryz.isAgg41
 z53:=Tryz.sizeOf41
 v53:=Tryz.zeroValue41}
theorem zgd (v:Nat) (hv:v<18446744073709551616) (w:World) :
  Calls Tryz.prog 247 #[.int .u64 v] w fun e w'=>e= .returned (.int .i64 (Lib.bitLen v))∧w=w':=by
 have:=Any.bits_Len64 zags (v:Int) w (by omega) (by omega);rw[Int.toNat_natCast] at this;exact Calls.mono this fun e w' h=>⟨h.1,h.2.symm⟩
theorem zha:∀(f x k:Nat),x<2^f→(Lib.bitLenAux f x≤k↔x<2^k)
  | 0,x,k,h=>by
    have:x=0:=by omega
    subst this;simp[Lib.bitLenAux,Nat.pow_pos]
  | f + 1,x,k,h=>by
    by_cases h0:x=0
    · subst h0
      simp[Lib.bitLenAux,Nat.pow_pos]
    · cases k with
      | zero =>
        simp[Lib.bitLenAux,h0]
      | succ k =>
        have ih:=zha f (x/2) k (by rw[Nat.pow_succ] at h;omega);rw[Lib.bitLenAux,if_neg h0,Nat.pow_succ];omega
theorem zav (x k:Nat) (h:x<18446744073709551616):Lib.bitLen x≤k↔x<2^k:=zha 64 x k h
theorem zagl (f:Nat) (X:ByteArray) (h:X=⟨(bigB 1 f).toArray⟩) (w:World):Calls Tryz.prog 277 #[.int .u64 f,.int .i64 1] w fun e w'=>e= .returned (.string X)∧Below w.heap.size w w':=by
 subst h;exact zqf f 1 (by omega) (by omega) w
end
section
open Go.Lib
theorem ztm {e:Ev} (h7:e.k≠7) (s:List Bx):zbl s e=zbl [] e:=by
 unfold zbl;rw[if_neg h7,if_neg h7]
end
section
open Go.RowKit
open Go.Lib
def totR (b:Bx):Nat:=if b.map=true then 2*b.c.toNat else b.c.toNat
def lakR (b:Bx):Nat:=totR b-b.have_
def rcB (m:Bool) (l:Nat):List Value:=[.bool m,.int .u64 (l:Int)]
def rcL:List Bx→List Value
 | []=>[]
 | b::r=>rcL r++rcB b.map (lakR b)
theorem zd1:∀s:List Bx,(rcL s).length=s.length*2
 | []=>rfl
 | b::r=>by rw[rcL,List.length_append,zd1 r];simp[rcB];omega
def WfR (s:List Bx):Prop:=∀b∈s,(0≤b.c∧b.c≤4294967295)∧b.have_≤totR b
theorem WfR.tail {x:Bx} {r:List Bx} (h:WfR (x::r)):WfR r:=fun b hb=>h b (List.mem_cons_of_mem _ hb)
theorem zl3 {b:Bx} (h:(0≤b.c∧b.c≤4294967295)∧b.have_≤totR b) (r:List Bx):fulT (b::r)=decide (lakR b=0):=by
 obtain⟨m,c,k⟩:=b;obtain⟨⟨h1,_⟩,h2⟩:=h;simp only[fulT,lakR,totR] at *
 rw[Bool.eq_iff_iff,decide_eq_true_eq,decide_eq_true_eq];cases m <;>simp at h2 ⊢ <;>omega
theorem zai3 {b:Bx} (h:(0≤b.c∧b.c≤4294967295)∧b.have_≤totR b) (r:List Bx):keyB (b::r)=(b.map&&decide (lakR b%2=0)):=by
 obtain⟨m,c,k⟩:=b;obtain⟨⟨h1,_⟩,h2⟩:=h;simp only[keyB,lakR,totR] at *
 cases m
 ·rfl
 ·simp only[if_true] at h2
  rw[Bool.true_and,Bool.true_and,Bool.eq_iff_iff,beq_iff_eq,decide_eq_true_eq];simp only[if_true];omega
theorem zaci {b:Bx} (h:(0≤b.c∧b.c≤4294967295)∧b.have_≤totR b):decide (¬zet b)=decide (lakR b=0):=by
 obtain⟨m,c,k⟩:=b;obtain⟨⟨h1,_⟩,h2⟩:=h;simp only[zet,lakR,totR] at *
 rw[Bool.eq_iff_iff,decide_eq_true_eq,decide_eq_true_eq];cases m <;>simp at h2 ⊢ <;>omega
theorem zaix (b:Bx):lakR ⟨b.map,b.c,b.have_+1⟩=lakR b-1:=by
 unfold lakR totR;simp only;omega
theorem WfR.inc {s:List Bx} (h:WfR s) (hf:fulT s=false):WfR (incB s):=by
  cases s with
  | nil=>exact h
  | cons x r =>
    intro b hb;simp only[incB,List.mem_cons] at hb;rcases hb with rfl|hb
    · have hx:=h x (by simp)
      rw[zl3 hx,decide_eq_false_iff_not] at hf;refine⟨hx.1,?_⟩;have h2:=hx.2;show x.have_+1≤totR x;unfold lakR at hf;omega
    · exact h b (List.mem_cons_of_mem _ hb)
theorem WfR.open_ {s:List Bx} (h:WfR s) (m:Bool) (c:Int) (hc:0≤c∧c≤4294967295):WfR (⟨m,c,0⟩::s):=by
 intro b hb;simp only[List.mem_cons] at hb;rcases hb with rfl|hb
 ·exact⟨hc,Nat.zero_le _⟩
 ·exact h b hb
theorem zwa:(Tryz.prog.info? 288).map (fun i=>(i.zero,i.size,i.bytes))=some (some (.agg #[.bool false,.int .u64 0]),2,16):=by kernel_rfl
theorem zmb {w:World} {v:Value} {m:Bool} {l:Nat} {r:List Bx} (h:Win w 288 2 v (r.length+1) (rcL r++rcB m l)) :
    ∃ g off cap,v= .slice (some ⟨g,off,none⟩) (r.length+1) cap ∧
      (w.cell? ⟨g,off+r.length*2,none⟩=some (.bool m)∧w.cell? ⟨g,off+r.length*2+1,none⟩=some (.int .u64 (l:Int))) ∧
      (w.frozen? ⟨g,off+r.length*2,none⟩=false∧w.frozen? ⟨g,off+r.length*2+1,none⟩=false):=by
  obtain⟨g,off,cap,rfl,h1,h2,_,_,h3⟩:=h.form (by simp);have hl:=zd1 r;have hx:∀j u,(rcB m l)[j]? = some u→w.cell? ⟨g,off+(r.length*2+j),none⟩=some u∧w.frozen? ⟨g,off+(r.length*2+j),none⟩=false:=fun j u hu=>by
    refine h3 _ u ?_;rw[← hl,List.getElem?_append_right (by omega),Nat.add_sub_cancel_left];exact hu
  have x0:=hx 0 _ rfl;have x1:=hx 1 _ rfl;simp only[← Nat.add_assoc,Nat.add_zero] at x0 x1;exact⟨g,off,cap,rfl,⟨x0.1,x1.1⟩,⟨x0.2,x1.2⟩⟩
theorem zacx {w:World} {v:Value} {s:List Bx} (h:Win w 288 2 v s.length (rcL s)) (hd:s.length≤1000) (hw:WfR s) :
    Calls Tryz.prog 284 #[v] w fun r w'=>r= .returned (.bool (keyB s))∧Below w.heap.size w w':=by
  cases s with
  | nil =>
    obtain⟨a,cp,rfl,_,_⟩:=h.slice_form;clear h;go_enter Tryz.func284,Tryz.ntmps284;go_wp2;go_ret;exact⟨rfl,Below.refl _ _⟩
  | cons x r =>
    obtain⟨g,off,cap,rfl,⟨c0,c1⟩,⟨f0,f1⟩⟩:=zmb h;rw[zai3 (hw x (by simp))];simp only[List.length_cons] at hd;obtain⟨m,hm⟩:∃m,x.map=m:=⟨_,rfl⟩
    rw[hm] at c0 ⊢;obtain⟨l,hl⟩:∃l,lakR x=l:=⟨_,rfl⟩
    rw[hl] at c1 ⊢;have hz2:((l:Int)%2==0)=decide (l%2=0):=by
      rw[Bool.eq_iff_iff,beq_iff_eq,decide_eq_true_eq];omega
    clear h hw hm hl;generalize r.length=n at *
    have hwn:wrap64 (n:Int)=(n:Int):=by unfold wrap64;omega
    have hwn2:IntKind.i64.wrap (n:Int)=(n:Int):=by simp only[IntKind.wrap_i64];omega
    have hz:((n:Int)≥0)=True:=by simp
    generalize decide (l%2=0)=K at *
    cases m with
    | false =>
      go_enter Tryz.func284,Tryz.ntmps284;go_wp2;go_ret;exact⟨rfl,Below.refl _ _⟩
    | true =>
      go_enter Tryz.func284,Tryz.ntmps284;go_wp2;go_ret;exact⟨by simp,Below.refl _ _⟩
theorem zve {w:World} {v:Value} {s:List Bx} (h:Win w 288 2 v s.length (rcL s)) (hd:s.length≤1000) (hw:WfR s) :
    Calls Tryz.prog 283 #[v] w fun r w'=>r= .returned (.bool (fulT s))∧Below w.heap.size w w':=by
  cases s with
  | nil =>
    obtain⟨a,cp,rfl,_,_⟩:=h.slice_form;clear h;go_enter Tryz.func283,Tryz.ntmps283;go_wp2;go_ret;exact⟨rfl,Below.refl _ _⟩
  | cons x r =>
    obtain⟨g,off,cap,rfl,⟨c0,c1⟩,⟨f0,f1⟩⟩:=zmb h;rw[zl3 (hw x (by simp))];simp only[List.length_cons] at hd;obtain⟨l,hl⟩:∃l,lakR x=l:=⟨_,rfl⟩
    rw[hl] at c1 ⊢;have hz2:((l:Int)==0)=decide (l=0):=by
      rw[Bool.eq_iff_iff,beq_iff_eq,decide_eq_true_eq];omega
    clear h hw hl;generalize r.length=n at *
    have hwn:wrap64 (n:Int)=(n:Int):=by unfold wrap64;omega
    have hwn2:IntKind.i64.wrap (n:Int)=(n:Int):=by simp only[IntKind.wrap_i64];omega
    have hz:((n:Int)≥0)=True:=by simp
    generalize decide (l=0)=K at *
    go_enter Tryz.func283,Tryz.ntmps283;go_wp2;go_ret;exact⟨by simp,Below.refl _ _⟩
theorem zyb {w:World} {m:Bool} {l l':Nat} {r:List Bx} {g off cap n:Nat} (_:n=r.length+1) (h:Win w 288 2 (.slice (some ⟨g,off,none⟩) n cap) n (rcL r++rcB m l)) :
  Win (w.setCell ⟨g,off+r.length*2+1,none⟩ (.int .u64 (l':Int))) 288 2 (.slice (some ⟨g,off,none⟩) n cap) n (rcL r++rcB m l'):=by
 have hw:=h.store (r.length*2+1) (by rw[List.length_append,zd1];simp[rcB]) (.int .u64 (l':Int));have hx:(rcL r++rcB m l).set (r.length*2+1) (.int .u64 (l':Int))=rcL r++rcB m l':=by
  rw[← zd1,List.set_append,if_neg (by omega),Nat.add_sub_cancel_left];rfl
 rw[hx,← Nat.add_assoc] at hw;exact hw
theorem zsj {w:World} {v:Value} {s:List Bx} (h:Win w 288 2 v s.length (rcL s)) (hd:s.length≤1000) (hw:WfR s) (hf:fulT s=false) :
    Calls Tryz.prog 287 #[v] w fun r w'=>r= .returned (.tuple #[])∧Win w' 288 2 v s.length (rcL (incB s))∧Step (Value.owner v) (Value.owner v) w w':=by
  cases s with
  | nil =>
    have HH:=hid h;obtain⟨a,cp,rfl,_,_⟩:=h.slice_form;clear h;go_enter Tryz.func287,Tryz.ntmps287;go_wp2
    go_end0
    exact⟨rfl,HH.out,Step.refl _ _⟩
  | cons x r =>
    obtain⟨g,off,cap,rfl,⟨c0,c1⟩,⟨f0,f1⟩⟩:=zmb h;have hx:=hw x (by simp);rw[zl3 hx,decide_eq_false_iff_not] at hf;have htot:lakR x≤8589934590:=by
      obtain⟨⟨h1,h2⟩,_⟩:=hx;unfold lakR totR;split <;>omega
    obtain⟨l,hl⟩:∃l,lakR x=l+1:=⟨lakR x-1,by omega⟩
    simp only[List.length_cons] at hd;simp only[List.length_cons,incB,rcL,zaix,hl,Nat.add_sub_cancel] at *
    rw[Int.natCast_add] at c1;have HS:=hid (zyb (l':=l) rfl h);clear h hx hw hf hl;generalize rcL r++rcB x.map l=XS at *
    generalize r.length=n at *
    have hw:IntKind.u64.wrap ((l:Int)+1-1)=(l:Int):=by simp only[IntKind.wrap_u64];omega
    have hw3:IntKind.u64.wrap (l:Int)=(l:Int):=by simp only[IntKind.wrap_u64];omega
    have hwn:wrap64 (n:Int)=(n:Int):=by unfold wrap64;omega
    have hwn2:IntKind.i64.wrap (n:Int)=(n:Int):=by simp only[IntKind.wrap_i64];omega
    have hz:((n:Int)≥0)=True:=by simp
    go_enter Tryz.func287,Tryz.ntmps287;go_wp2
    go_end0
    exact⟨rfl,HS.out,zal _ _ _ _ (by simp[Value.owner])⟩
end
section
open Go.RowKit
open Go.Lib
structure PoAt (w:World) (b o:Nat) (F:List Nat) (q:Kq):Prop where
 cells:∃a cp,At w b o [.slice a q.s.length cp,.bool q.dn]∧Win w 288 2 (.slice a q.s.length cp) q.s.length (rcL q.s)∧Value.owner (.slice a q.s.length cp)=F
 blk:∃cs t fr,w.heap[b]? = some (.cells cs t fr)∧t≠288
 fin:q.dn=true→q.s=[]
 wf:WfR q.s
theorem PoAt.lt {w:World} {b o:Nat} {F:List Nat} {q:Kq} (h:PoAt w b o F q):b<w.heap.size:=by
 obtain⟨cs,t,fr,hc,_⟩:=h.blk;exact(Array.getElem?_eq_some_iff.1 hc).1
theorem PoAt.row {w:World} {b o:Nat} {F:List Nat} {q:Kq} (h:PoAt w b o F q):∀k∈F,k<w.heap.size∧k≠b∧∃cur,w.heap[k]? = some (.cells cur 288 (0,0)):=by
 obtain⟨a,cp,_,hW,hF⟩:=h.cells;obtain⟨cs,t,fr,hc,ht⟩:=h.blk;subst hF;exact fun k hk=>⟨hW.lt k hk,fun e=>hW.apart hc (fun e'=>ht e'.symm) (e▸hk),hW.typed k hk⟩
theorem PoAt.keep {w w':World} {b o:Nat} {F:List Nat} {q:Kq} (h:PoAt w b o F q) (hk:∀k,k=b∨k∈F→w'.heap[k]? = w.heap[k]?):PoAt w' b o F q:=by
 obtain⟨a,cp,hA,hW,hF⟩:=h.cells;obtain⟨cs,t,fr,hc,ht⟩:=h.blk;exact⟨⟨a,cp,hA.keep (hk b (.inl rfl)),hW.keep (fun k ho=>hk k (.inr (hF▸ho))),hF⟩,⟨cs,t,fr,(hk b (.inl rfl)).trans hc,ht⟩,h.fin,h.wf⟩
theorem PoAt.go {w w':World} {b o:Nat} {F:List Nat} {q:Kq} (h:PoAt w b o F q) (k:Below w.heap.size w w'):PoAt w' b o F q :=
 h.keep fun i hi=>k.block i (hi.elim (fun e=>e▸h.lt) (fun hi=>(h.row i hi).1))
theorem PoAt.drewN {w:World} {b o:Nat} {F:List Nat} {q:Kq} (h:PoAt w b o F q) (n:Nat):PoAt (w.drewN n) b o F q:=h.keep fun _ _=>rfl
theorem PoAt.alloc {w:World} {b o:Nat} {F:List Nat} {q:Kq} (h:PoAt w b o F q) (x:Obj):PoAt (w.alloc x) b o F q:=h.go (zaa (Below.refl _ _) x)
theorem zzb {w:World} {b o:Nat} {F:List Nat} {x:Bx} {r:List Bx} {a':Option Addr} {c':Nat} (h:PoAt w b o F ⟨x::r,false⟩) (hW:Win w 288 2 (.slice a' r.length c') r.length (rcL r)) (hO:Value.owner (.slice a' r.length c')=F) :
  PoAt (w.setCell ⟨b,o,none⟩ (.slice a' r.length c')) b o F ⟨r,false⟩∧Jf b o F F w (w.setCell ⟨b,o,none⟩ (.slice a' r.length c')):=by
 obtain⟨a,cp,hA,_,_⟩:=h.cells;obtain⟨cs,t,fr,hc,ht⟩:=h.blk;have hap:b∉Value.owner (.slice a' r.length c'):=hW.apart hc (fun e=>ht e.symm);have hset:=hA.set 0 (by simp) (.slice a' r.length c');refine⟨⟨⟨a',c',by simpa using hset,hW.setCell_far hap _,hO⟩,⟨_,t,fr,zai w ⟨b,o,none⟩ _ _ _ _ rfl hc,ht⟩,fun e=>(by cases e),h.wf.tail⟩,(Jf.refl b o F w).set o _ (by omega)⟩
theorem zajr {w:World} {b o:Nat} {F:List Nat} {x:Bx} {r:List Bx} (h:PoAt w b o F ⟨x::r,false⟩) (hs:r.length≤999) :
    Calls Tryz.prog 286 #[.pointer (some ⟨b,o,none⟩)] w fun q w'=>q= .returned (.tuple #[])∧PoAt w' b o F ⟨r,false⟩∧Jf b o F F w w':=by
  have hfin:∃a cp,(w.cell? ⟨b,o,none⟩=some (.slice a (r.length+1) cp)∧w.frozen? ⟨b,o,none⟩=false) ∧
      ∃ a' c',(∀W,(Instr.slice 111 (.slice a (r.length+1) cp) none (some (.int .i64 (r.length:Int))) none).run Tryz.prog W= .ok (.slice a' r.length c') W) ∧
        PoAt ((w.setCell ⟨b,o,none⟩ (.slice a' r.length c')).drewN 1) b o F ⟨r,false⟩∧Jf b o F F w ((w.setCell ⟨b,o,none⟩ (.slice a' r.length c')).drewN 1):=by
    obtain⟨a,cp,hA,hW,hF⟩:=h.cells;obtain⟨⟨c0,f0⟩,⟨c1,f1⟩⟩:=zb6 hA;obtain⟨v',hsl,hw',ho'⟩:=hW.hi (P:=Tryz.prog) (t:=111) Tryz.underlying111 (fun w=>by kernel_rfl) r.length (by simp);simp only at hw' hsl;simp only[rcL] at hw';rw[← zd1,List.take_left] at hw';obtain⟨a',c',rfl,_,_⟩:=hw'.slice_form;have he:=zzb h hw' (ho'.trans hF);exact⟨_,cp,⟨c0,f0⟩,a',c',hsl,he.1.drewN 1,he.2.drewN 1⟩
  have hl:IntKind.i64.wrap (r.length:Int)=(r.length:Int):=by simp only[IntKind.wrap_i64];omega
  have hl2:wrap64 (r.length:Int)=(r.length:Int):=by unfold wrap64;omega
  have HFI:=hid hfin;generalize r.length=n' at *
  clear h hfin;obtain⟨a,cp,⟨y1,y2⟩,a',c',hsl,hE⟩:=HFI.out;have HE:=hid hE;clear hE HFI;go_enter Tryz.func286,Tryz.ntmps286;(go_wp2_with fail);refine za4 11 (by kernel_rfl) (by kernel_rfl) ?_;simp only[List.take_succ_cons,List.take_zero,List.drop_succ_cons,List.drop_zero]
  repeat still_step
  refine wpStill_nil ?_;go_wp2
  go_end0
  exact⟨rfl,HE.out⟩
theorem zj1 {w W w3:World} {b o n cp c3:Nat} {a a3:Option Addr} {F:List Nat} {s:List Bx} {m:Bool} {c:Int} {l:Nat} {ob:Obj} (h:PoAt w b o F ⟨s,false⟩) (hn:s.length=n) (hA:At w b o [.slice a n cp,.bool false]) (hF:Value.owner (.slice a n cp)=F) (k:Below w.heap.size w W) (hc:0≤c∧c≤4294967295)
    (hW:Win w3 288 2 (.slice a3 (n+1) c3) (n+1) (rcL s++rcB m l)) (hl:lakR ⟨m,c,0⟩=l) (hG:(W.alloc ob).drew.grownBy w3 (Value.slice a n cp).ownBlock) (hO:(Value.slice a3 (n+1) c3).ownBlock=(Value.slice a n cp).ownBlock∨(Value.slice a3 (n+1) c3).ownBlock=some (W.alloc ob).drew.heap.size∧(W.alloc ob).drew.heap.size<w3.heap.size) :
    (w3.cell? ⟨b,o,none⟩=some (.slice a n cp)∧w3.frozen? ⟨b,o,none⟩=false)∧∃F',PoAt (w3.setCell ⟨b,o,none⟩ (.slice a3 (n+1) c3)) b o F' ⟨⟨m,c,0⟩::s,false⟩∧Jf b o F F' w (w3.setCell ⟨b,o,none⟩ (.slice a3 (n+1) c3)):=by
  have hb:=h.lt;obtain⟨cs,t,fr,hcb,ht⟩:=h.blk;have hbF:b∉F:=fun hk=>(h.row b hk).2.1 rfl
  have hnb:(Value.slice a n cp).ownBlock≠some b:=fun e=>hbF (hF▸(zad _ _).1 e)
  have hsz:w.heap.size≤W.heap.size:=k.size;have hold:∀i,i<w.heap.size→i∉F→w3.heap[i]? = w.heap[i]? := by
    intro i hi hiF;refine(hG.block i (by show i<(W.alloc ob).heap.size;simp;omega) (fun e=>hiF (hF▸(zad _ _).1 e.symm))).trans ?_;exact(Below.heap_alloc W ob i (by omega)).trans (k.block i hi)
  have hblk:=hold b hb hbF;have A3:=hA.keep hblk;have hw3:w3.heap[b]? = some (.cells cs t fr):=hblk.trans hcb;have hap3:b∉Value.owner (.slice a3 (n+1) c3):=hW.apart hw3 (fun e=>ht e.symm);have hset:=A3.set 0 (by simp) (.slice a3 (n+1) c3);refine⟨A3 0 _ rfl,Value.owner (.slice a3 (n+1) c3),⟨⟨a3,c3,?_,?_,?_⟩,⟨_,t,fr,zai w3 ⟨b,o,none⟩ _ _ _ _ rfl hw3,ht⟩,fun e=>(by cases e),h.wf.open_ m c hc⟩,?_⟩
  · simp only[List.length_cons,hn]
    simpa using hset
  · simp only[List.length_cons,hn,rcL,hl]
    exact hW.setCell_far hap3 _
  · simp only[List.length_cons,hn]
  · have hstep:Step (b::F) (b::Value.owner (.slice a3 (n+1) c3)) w w3:=by
      refine⟨hG.os.trans k.os,hG.tape.trans ?_,hG.output.trans k.output,Nat.le_trans ?_ hG.size,fun i hi hiF=>hold i hi (fun e=>hiF (List.mem_cons_of_mem _ e)),fun i hi=> ?_⟩
      · exact k.tape
      · show w.heap.size≤(W.alloc ob).heap.size
        simp;omega
      · rcases List.mem_cons.1 hi with rfl|hi
        · exact .inl (by simp)
        · rcases hO with e|⟨e,_⟩
          · left
            refine List.mem_cons_of_mem _ ?_;rw[← hF];exact(zad _ _).1 (e▸(zad _ _).2 hi)
          · right
            have h2:=(zad _ _).2 hi;rw[e] at h2;cases h2;show w.heap.size≤(W.alloc ob).heap.size;simp;omega
    have hj:Jf b o F (Value.owner (.slice a3 (n+1) c3)) w w3:=⟨hstep,fun c1 t1 fr1 h1=>⟨c1,hblk.trans h1,rfl⟩,fun i _=>World.cell?_of_block (w:=w) hblk⟩
    exact hj.set o _ (by omega)
theorem zacv {w:World} {b o:Nat} {F:List Nat} {s:List Bx} (h:PoAt w b o F ⟨s,false⟩) (hs:s.length≤1000) (c:Int) (hc:0≤c∧c≤4294967295) :
  Calls Tryz.prog 288 #[.pointer (some ⟨b,o,none⟩),.agg #[.bool false,.int .i64 c]] w fun e w'=>e= .returned (.tuple #[])∧∃F',PoAt w' b o F' ⟨⟨false,c,0⟩::s,false⟩∧Jf b o F F' w w':=by
 have hb:=h.lt;obtain⟨n,hn⟩:∃n,s.length=n:=⟨_,rfl⟩
 have hwc:IntKind.u64.wrap c=c:=by simp only[IntKind.wrap_u64];omega
 obtain⟨l,hl,hlc⟩:∃l:Nat,lakR ⟨false,c,0⟩=l∧c=(l:Int):=⟨_,rfl,by unfold lakR totR;simp;omega⟩
 have hbel:Below w.heap.size w ((w.alloc (.cells #[.bool false,.int .i64 c] 166)).alloc (.cells #[.bool false,.int .u64 c] 288)):=zaa (zaa (Below.refl _ _) _) _;have E2:Hid (Blk ((w.alloc (.cells #[.bool false,.int .i64 c] 166)).alloc (.cells #[.bool false,.int .u64 c] 288)) (w.heap.size+1) #[.bool false,.int .u64 c] 288):=hid (by
  have h0:=zag (w.alloc (.cells #[.bool false,.int .i64 c] 166)) #[.bool false,.int .u64 c] 288
  rwa [show∀x,(w.alloc x).heap.size=w.heap.size+1 from fun x=>by simp] at h0)
 obtain⟨a,cp,hA,hWin,hF⟩:=h.cells;simp only[hn] at hA hWin hF;have hA2:=hA.keep (w':=((w.alloc (.cells #[.bool false,.int .i64 c] 166)).alloc (.cells #[.bool false,.int .u64 c] 288))) (hbel.block b hb);have WD:∀x,Hid (Win ((((w.alloc (.cells #[.bool false,.int .i64 c] 166)).alloc (.cells #[.bool false,.int .u64 c] 288))).alloc x).drew 288 2 (.slice a n cp) n (rcL s)):=fun x=>hid (((hWin.alloc _).alloc _).alloc x)
 have h5:(((w.alloc (.cells #[.bool false,.int .i64 c] 166)).alloc (.cells #[.bool false,.int .u64 c] 288))).cell? ⟨b,o,none⟩=some (.slice a n cp):=(hA2 0 _ rfl).1;have f5:∀x,((((w.alloc (.cells #[.bool false,.int .i64 c] 166)).alloc (.cells #[.bool false,.int .u64 c] 288))).alloc x).cell? ⟨b,o,none⟩=some (.slice a n cp):=fun x=>((hA2.alloc (by simp) x) 0 _ rfl).1
 have h0:(((w.alloc (.cells #[.bool false,.int .i64 c] 166)).alloc (.cells #[.bool false,.int .u64 c] 288))).cell? ⟨w.heap.size+1,0,none⟩=some (.bool false):=E2.out.cell 0;have h1:(((w.alloc (.cells #[.bool false,.int .i64 c] 166)).alloc (.cells #[.bool false,.int .u64 c] 288))).cell? ⟨w.heap.size+1,1,none⟩=some (.int .u64 c):=E2.out.cell 1;have e0:∀x,((((w.alloc (.cells #[.bool false,.int .i64 c] 166)).alloc (.cells #[.bool false,.int .u64 c] 288))).alloc x).cell? ⟨w.heap.size+1,0,none⟩=some (.bool false):=fun x=>(E2.out.alloc x).cell 0
 have e1:∀x,((((w.alloc (.cells #[.bool false,.int .i64 c] 166)).alloc (.cells #[.bool false,.int .u64 c] 288))).alloc x).cell? ⟨w.heap.size+1,1,none⟩=some (.int .u64 c):=fun x=>(E2.out.alloc x).cell 1
 have HE:=hid (fun(w3:World) (a3:Option Addr) (c3:Nat) ob hW hG hO=>zj1 (w:=w) (W:=((w.alloc (.cells #[.bool false,.int .i64 c] 166)).alloc (.cells #[.bool false,.int .u64 c] 288))) (w3:=w3) (a3:=a3) (c3:=c3) (m:=false) (c:=c) (l:=l) (ob:=ob) h hn hA hF hbel hc hW hl hG hO);simp only[rcB] at HE;rw[← hlc] at HE;clear h hbel hA hA2 hb E2 hWin hF hl hlc;go_enter Tryz.func288,Tryz.ntmps288;go_wp2;generalize ((w.alloc (.cells #[.bool false,.int .i64 c] 166)).alloc (.cells #[.bool false,.int .u64 c] 288))=W at *
 go_region_law (first
  |(refine zax rfl _ _ _ rfl Tryz.underlying111 zwa rfl rfl (WD _).out _ rfl 1 _ (zcl _ Tryz.underlying111 2 1 [.bool false,.int .u64 c] 288 _ rfl (by simp[Value.oneCell']) (heap_alloc_new _ _)) (by unfold maxLen;omega) (by omega) ?_;intro v3 w3 hW3 hG3 hO3;obtain⟨a3,c3,rfl,_,_⟩:=Win.slice_form hW3.out;have HP:=hid (HE.out w3 a3 c3 _ hW3.out hG3.out hO3.out);have g0:=HP.out.1.1;have g1:=HP.out.1.2;clear hW3 hG3 hO3))
 all_goals
  go_wp2
  go_end0
  exact⟨rfl,HP.out.2⟩
theorem zae6 {w:World} {b o:Nat} {F:List Nat} {s:List Bx} (h:PoAt w b o F ⟨s,false⟩) (hs:s.length≤1000) (c:Int) (hc:0≤c∧c≤4294967295) :
  Calls Tryz.prog 288 #[.pointer (some ⟨b,o,none⟩),.agg #[.bool true,.int .i64 c]] w fun e w'=>e= .returned (.tuple #[])∧∃F',PoAt w' b o F' ⟨⟨true,c,0⟩::s,false⟩∧Jf b o F F' w w':=by
 have hb:=h.lt;obtain⟨n,hn⟩:∃n,s.length=n:=⟨_,rfl⟩
 have hwc:IntKind.u64.wrap c=c:=by simp only[IntKind.wrap_u64];omega
 have hwc2:IntKind.u64.wrap (c*2)=c*2:=by simp only[IntKind.wrap_u64];omega
 obtain⟨l,hl,hlc⟩:∃l:Nat,lakR ⟨true,c,0⟩=l∧(c*2)=(l:Int):=⟨_,rfl,by unfold lakR totR;simp;omega⟩
 have hbel:Below w.heap.size w ((w.alloc (.cells #[.bool true,.int .i64 c] 166)).alloc (.cells #[.bool true,.int .u64 (c*2)] 288)):=zaa (zaa (Below.refl _ _) _) _;have E2:Hid (Blk ((w.alloc (.cells #[.bool true,.int .i64 c] 166)).alloc (.cells #[.bool true,.int .u64 (c*2)] 288)) (w.heap.size+1) #[.bool true,.int .u64 (c*2)] 288):=hid (by
  have h0:=zag (w.alloc (.cells #[.bool true,.int .i64 c] 166)) #[.bool true,.int .u64 (c*2)] 288
  rwa [show∀x,(w.alloc x).heap.size=w.heap.size+1 from fun x=>by simp] at h0)
 obtain⟨a,cp,hA,hWin,hF⟩:=h.cells;simp only[hn] at hA hWin hF;have hA2:=hA.keep (w':=((w.alloc (.cells #[.bool true,.int .i64 c] 166)).alloc (.cells #[.bool true,.int .u64 (c*2)] 288))) (hbel.block b hb);have WD:∀x,Hid (Win ((((w.alloc (.cells #[.bool true,.int .i64 c] 166)).alloc (.cells #[.bool true,.int .u64 (c*2)] 288))).alloc x).drew 288 2 (.slice a n cp) n (rcL s)):=fun x=>hid (((hWin.alloc _).alloc _).alloc x)
 have h5:(((w.alloc (.cells #[.bool true,.int .i64 c] 166)).alloc (.cells #[.bool true,.int .u64 (c*2)] 288))).cell? ⟨b,o,none⟩=some (.slice a n cp):=(hA2 0 _ rfl).1;have f5:∀x,((((w.alloc (.cells #[.bool true,.int .i64 c] 166)).alloc (.cells #[.bool true,.int .u64 (c*2)] 288))).alloc x).cell? ⟨b,o,none⟩=some (.slice a n cp):=fun x=>((hA2.alloc (by simp) x) 0 _ rfl).1
 have h0:(((w.alloc (.cells #[.bool true,.int .i64 c] 166)).alloc (.cells #[.bool true,.int .u64 (c*2)] 288))).cell? ⟨w.heap.size+1,0,none⟩=some (.bool true):=E2.out.cell 0;have h1:(((w.alloc (.cells #[.bool true,.int .i64 c] 166)).alloc (.cells #[.bool true,.int .u64 (c*2)] 288))).cell? ⟨w.heap.size+1,1,none⟩=some (.int .u64 (c*2)):=E2.out.cell 1;have e0:∀x,((((w.alloc (.cells #[.bool true,.int .i64 c] 166)).alloc (.cells #[.bool true,.int .u64 (c*2)] 288))).alloc x).cell? ⟨w.heap.size+1,0,none⟩=some (.bool true):=fun x=>(E2.out.alloc x).cell 0
 have e1:∀x,((((w.alloc (.cells #[.bool true,.int .i64 c] 166)).alloc (.cells #[.bool true,.int .u64 (c*2)] 288))).alloc x).cell? ⟨w.heap.size+1,1,none⟩=some (.int .u64 (c*2)):=fun x=>(E2.out.alloc x).cell 1
 have HE:=hid (fun(w3:World) (a3:Option Addr) (c3:Nat) ob hW hG hO=>zj1 (w:=w) (W:=((w.alloc (.cells #[.bool true,.int .i64 c] 166)).alloc (.cells #[.bool true,.int .u64 (c*2)] 288))) (w3:=w3) (a3:=a3) (c3:=c3) (m:=true) (c:=c) (l:=l) (ob:=ob) h hn hA hF hbel hc hW hl hG hO);simp only[rcB] at HE;rw[← hlc] at HE;clear h hbel hA hA2 hb E2 hWin hF hl hlc;go_enter Tryz.func288,Tryz.ntmps288;go_wp2;generalize ((w.alloc (.cells #[.bool true,.int .i64 c] 166)).alloc (.cells #[.bool true,.int .u64 (c*2)] 288))=W at *
 go_region_law (first
  |(refine zax rfl _ _ _ rfl Tryz.underlying111 zwa rfl rfl (WD _).out _ rfl 1 _ (zcl _ Tryz.underlying111 2 1 [.bool true,.int .u64 (c*2)] 288 _ rfl (by simp[Value.oneCell']) (heap_alloc_new _ _)) (by unfold maxLen;omega) (by omega) ?_;intro v3 w3 hW3 hG3 hO3;obtain⟨a3,c3,rfl,_,_⟩:=Win.slice_form hW3.out;have HP:=hid (HE.out w3 a3 c3 _ hW3.out hG3.out hO3.out);have g0:=HP.out.1.1;have g1:=HP.out.1.2;clear hW3 hG3 hO3))
 all_goals
  go_wp2
  go_end0
  exact⟨rfl,HP.out.2⟩
theorem zakh {w:World} {b o:Nat} {F:List Nat} {s:List Bx} (h:PoAt w b o F ⟨s,false⟩) (hs:s.length≤1000) (m:Bool) (c:Int) (hc:0≤c∧c≤4294967295) :
  Calls Tryz.prog 288 #[.pointer (some ⟨b,o,none⟩),.agg #[.bool m,.int .i64 c]] w fun e w'=>e= .returned (.tuple #[])∧∃F',PoAt w' b o F' ⟨⟨m,c,0⟩::s,false⟩∧Jf b o F F' w w':=by
 cases m
 ·exact zacv h hs c hc
 ·exact zae6 h hs c hc
end
section
open Go.RowKit
open Go.Lib
theorem PoAt.asks {w:World} {b o:Nat} {F:List Nat} {q:Kq} (h:PoAt w b o F q) (hd:q.s.length≤1000):∃a cp,(∀w',Below w.heap.size w w'→w'.cell? ⟨b,o,none⟩=some (.slice a q.s.length cp)∧w'.cell? ⟨b,o+1,none⟩=some (.bool q.dn)) ∧
  (∀w',Below w.heap.size w w'→Calls Tryz.prog 283 #[.slice a q.s.length cp] w' fun r w2=>r= .returned (.bool (fulT q.s))∧Below w'.heap.size w' w2) ∧
  (∀w',Below w.heap.size w w'→Calls Tryz.prog 284 #[.slice a q.s.length cp] w' fun r w2=>r= .returned (.bool (keyB q.s))∧Below w'.heap.size w' w2):=by
 obtain⟨a,cp,hA,hW,hF⟩:=h.cells;have hlt:=h.lt;have hw:∀w',Below w.heap.size w w'→Win w' 288 2 (.slice a q.s.length cp) q.s.length (rcL q.s):=fun w' k=>hW.keep fun i hi=>k.block i (hW.lt i hi)
 refine⟨a,cp,fun w' k=> ?_,fun w' k=>zve (hw w' k) hd h.wf,fun w' k=>zacx (hw w' k) hd h.wf⟩;have:=hA.keep (k.block b hlt);obtain⟨⟨c0,_⟩,⟨c1,_⟩⟩:=zb6 this;exact⟨c0,c1⟩
theorem zabx {w:World} {b o:Nat} {F:List Nat} {q:Kq} (h:PoAt w b o F q) (hd:q.s.length≤1000) :
    Calls Tryz.prog 282 #[.pointer (some ⟨b,o,none⟩)] w fun r w'=>r= .returned (.int .i64 ((if fulT q.s=true then 0 else 14:Nat):Int))∧Below w.heap.size w w':=by
  obtain⟨a,cp,h0,hM,_⟩:=h.asks hd;have c0:=(h0 w (Below.refl _ _)).1;have HM:=hid (hM w (Below.refl _ _));clear h0 hM h;generalize fulT q.s=M at *
  cases M with
  | false =>
    go_enter Tryz.func282,Tryz.ntmps282;(go_wp2_with fail);refine HM.out.mono ?_;rintro r w1 ⟨rfl,b1⟩;have B1:=hid b1;clear b1;go_wp2;go_ret;exact⟨rfl,B1.out⟩
  | true =>
    go_enter Tryz.func282,Tryz.ntmps282;(go_wp2_with fail);refine HM.out.mono ?_;rintro r w1 ⟨rfl,b1⟩;have B1:=hid b1;clear b1;go_wp2;go_ret;exact⟨rfl,B1.out⟩
theorem zadv (e:Ev) (hm:mayE e) (W:World):(Instr.typeAssert (valE e) 20 93 true).run Tryz.prog W= .ok (.tuple #[.agg #[.bool (if e.k=2 then e.y else false),.int .u64 (if e.k=2 then(e.m:Int) else 0)],.bool (decide (e.k=2))]) W:=by
 obtain⟨k,y,m,t,c⟩:=e;rcases zm6 hm with h|h|h|h|h|h|h|h <;>(simp only at h;subst h)
 ·kernel_rfl
 ·exact zbv _ (by decide) _ _
 ·exact ze7 _ _
 ·exact zbv _ (by decide) _ _
 ·exact zbv _ (by decide) _ _
 ·exact zbv _ (by decide) _ _
 ·exact zbv _ (by decide) _ _
 ·exact zbv _ (by decide) _ _
theorem zaae (v:Value) (y:Bool) (m:Nat) (w:World)
    (hW:∀W,(Instr.typeAssert v 20 93 true).run Tryz.prog W= .ok (.tuple #[.agg #[.bool y,.int .u64 (m:Int)],.bool true]) W) :
    Calls Tryz.prog 285 #[v] w fun r w'=>r= .returned (.bool (!y||decide (m≤9223372036854775807)))∧Below w.heap.size w w':=by
  have hz:((m:Int)≤9223372036854775807)=(m≤9223372036854775807):=by rw[eq_iff_iff];omega
  obtain⟨D,hD⟩:∃D,decide (m≤9223372036854775807)=D:=⟨_,rfl⟩
  have hzb:decide ((m:Int)≤9223372036854775807)=D:=by rw[← hD];simp only[hz]
  rw[hD];clear hz hD;cases y with
  | false =>
    go_enter Tryz.func285,Tryz.ntmps285;go_wp2;go_ret;exact⟨rfl,zaa (Below.refl _ _) _⟩
  | true =>
    go_enter Tryz.func285,Tryz.ntmps285;go_wp2;go_ret;exact⟨by simp,zaa (Below.refl _ _) _⟩
theorem zaab (v:Value) (m:Bool) (c:Int) (hc: -1≤c∧c≤9223372036854775807) (w:World)
  (hW:∀W,(Instr.typeAssert v 20 93 true).run Tryz.prog W= .ok (.tuple #[.agg #[.bool false,.int .u64 0],.bool false]) W)
  (hB:∀W,(Instr.typeAssert v 20 166 true).run Tryz.prog W= .ok (.tuple #[.agg #[.bool m,.int .i64 c],.bool true]) W) :
  Calls Tryz.prog 285 #[v] w fun r w'=>r= .returned (.bool (decide (0≤c∧c≤4294967295)))∧Below w.heap.size w w':=by
 by_cases h0:0≤c
 ·have z0:(c≥0)=True:=by simp only[eq_iff_iff,iff_true];exact h0
  have hw:IntKind.u64.wrap c=c:=by simp only[IntKind.wrap_u64];omega
  have hd:decide (0≤c∧c≤4294967295)=decide (c≤4294967295):=by rw[Bool.eq_iff_iff,decide_eq_true_eq,decide_eq_true_eq];omega
  rw[hd];go_enter Tryz.func285,Tryz.ntmps285;go_wp2;go_ret;exact⟨rfl,zaa (zaa (Below.refl _ _) _) _⟩
 ·have z0:(c≥0)=False:=by simp only[eq_iff_iff,iff_false];exact h0
  have hd:decide (0≤c∧c≤4294967295)=false:=by rw[decide_eq_false_iff_not];omega
  rw[hd];go_enter Tryz.func285,Tryz.ntmps285;go_wp2;go_ret;exact⟨rfl,zaa (zaa (Below.refl _ _) _) _⟩
theorem zab8 (v:Value) (w:World)
  (hW:∀W,(Instr.typeAssert v 20 93 true).run Tryz.prog W= .ok (.tuple #[.agg #[.bool false,.int .u64 0],.bool false]) W)
  (hB:∀W,(Instr.typeAssert v 20 166 true).run Tryz.prog W= .ok (.tuple #[.agg #[.bool false,.int .i64 0],.bool false]) W) :
  Calls Tryz.prog 285 #[v] w fun r w'=>r= .returned (.bool true)∧Below w.heap.size w w':=by
 go_enter Tryz.func285,Tryz.ntmps285;go_wp2;go_ret;exact⟨rfl,zaa (zaa (Below.refl _ _) _) _⟩
theorem zag9 (e:Ev) (hm:mayE e) (hok:EvOk e) (w:World):Calls Tryz.prog 285 #[valE e] w fun r w'=>r= .returned (.bool (!decide (zde e)))∧Below w.heap.size w w':=by
 have hW:=zadv e hm;have hB:=zdi e hm;by_cases h2:e.k=2
 ·rw[if_pos h2,if_pos h2,decide_eq_true h2] at hW
  refine(zaae (valE e) e.y e.m w hW).mono ?_;rintro r w' ⟨h1,h3⟩;refine⟨?_,h3⟩;rw[h1];congr 2;rw[Bool.eq_iff_iff,Bool.not_eq_true',decide_eq_false_iff_not];unfold zde;cases hy:e.y
  ·simp[h2]
  ·simp[h2]
   omega
 ·rw[if_neg h2,if_neg h2,decide_eq_false h2] at hW
  by_cases h56:e.k=5∨e.k=6
  ·rw[if_pos h56,decide_eq_true h56] at hB
   refine(zaab (valE e) _ e.c ⟨hm.2.2 h56,hok.2.2.1.2⟩ w hW hB).mono ?_;rintro r w' ⟨h1,h3⟩;refine⟨?_,h3⟩;rw[h1];congr 2;rw[Bool.eq_iff_iff,Bool.not_eq_true',decide_eq_false_iff_not,decide_eq_true_eq];unfold zde;omega
  ·rw[if_neg h56,decide_eq_false h56,decide_eq_false (by omega:¬e.k=6)] at hB
   refine(zab8 (valE e) w hW hB).mono ?_;rintro r w' ⟨h1,h3⟩;refine⟨?_,h3⟩;rw[h1];congr 2;rw[eq_comm,Bool.not_eq_true',decide_eq_false_iff_not];unfold zde;omega
theorem zni {w:World} {b o:Nat} {F:List Nat} {q:Kq} (h:PoAt w b o F q) (hs:q.s.length≤1000) (v:Value) (X:Ev) (hP:∀W,Calls Tryz.prog 67 #[v] W fun r w'=>r= .returned (.tuple #[evV X,.bool true])∧Below W.heap.size W w')
    (isC isW R:Bool) (S:ByteArray) (hC:∀W,(Instr.typeAssert v 20 169 true).run Tryz.prog W= .ok (.tuple #[.agg #[],.bool isC]) W)
    (hW:∀W,(Instr.typeAssert v 20 179 true).run Tryz.prog W= .ok (.tuple #[.string S,.bool isW]) W)
    (hR:∀W,Calls Tryz.prog 285 #[v] W fun r w'=>r= .returned (.bool R)∧Below W.heap.size W w') (n:Nat)
    (hn:n=if q.dn=true then 14 else if isC=true then(if fulT q.s=true then 0 else 14) else if fulT q.s=true then 14 else if isW=false∧keyB q.s=true then 8 else if R=true then 0 else 7) :
    Calls Tryz.prog 280 #[.pointer (some ⟨b,o,none⟩),v] w fun r w'=>r= .returned (.int .i64 n)∧Below w.heap.size w w':=by
  have HP:=hid hP;have HC:=hid hC;have HW:=hid hW;have HR:=hid hR;obtain⟨k,y,m,t,c⟩:=X;simp only[evV] at HP;have HE:Hid (∀w',Below w.heap.size w w'→Calls Tryz.prog 282 #[.pointer (some ⟨b,o,none⟩)] w' fun r w2=>r= .returned (.int .i64 ((if fulT q.s=true then 0 else 14:Nat):Int))∧Below w'.heap.size w' w2):=hid (fun w' k=>zabx (h.go k) hs);obtain⟨a,cp,hc0,hU,hK⟩:=h.asks hs;have HC0:=hid hc0;have HU:=hid hU;have HK:=hid hK;generalize (if fulT q.s=true then 0 else 14:Nat)=n2 at *
  clear hP h hC hW hR hc0 hU hK hs;generalize fulT q.s=U at *
  generalize keyB q.s=K at *
  generalize q.s.length=l at *
  generalize q.dn=D at *
  cases D with
  | true =>
    obtain rfl:n=14:=by rw[hn,if_pos rfl]
    clear hn;go_enter Tryz.func280,Tryz.ntmps280;(go_wp2_with fail);refine(HP.out _).mono ?_;rintro r w1 ⟨rfl,b1⟩;have B1:=hid (zaa b1 (.cells #[.int .i64 k,.bool y,.int .u64 m,.string t,.int .i64 c] 43));have d1:=(HC0.out _ B1.out).2;clear b1;go_wp2;go_ret;exact⟨rfl,B1.out⟩
  | false =>
    rw[if_neg (by simp)] at hn;have hC:=HC.out;cases isC with
    | true =>
      rw[if_pos rfl] at hn;subst hn;go_enter Tryz.func280,Tryz.ntmps280;(go_wp2_with fail);refine(HP.out _).mono ?_;rintro r w1 ⟨rfl,b1⟩;have B1:=hid (zaa b1 (.cells #[.int .i64 k,.bool y,.int .u64 m,.string t,.int .i64 c] 43));have d1:=(HC0.out _ B1.out).2;clear b1;(go_wp2_with fail);refine(HE.out _ (zaa B1.out _)).mono ?_;rintro r w3 ⟨rfl,b3⟩;have BX:=hid (zab (zaa B1.out _) b3);clear b3;go_wp2;go_ret;exact⟨rfl,BX.out⟩
    | false =>
      rw[if_neg (by simp)] at hn;cases U with
      | true =>
        rw[if_pos rfl] at hn;subst hn;go_enter Tryz.func280,Tryz.ntmps280;(go_wp2_with fail);refine(HP.out _).mono ?_;rintro r w1 ⟨rfl,b1⟩;have B1:=hid (zaa b1 (.cells #[.int .i64 k,.bool y,.int .u64 m,.string t,.int .i64 c] 43));have d1:=(HC0.out _ B1.out).2;clear b1;have B2:=hid (zaa B1.out (.cells #[] 169));have d2:=(HC0.out _ B2.out).1;(go_wp2_with fail);refine(HU.out _ B2.out).mono ?_;rintro r w2 ⟨rfl,b2⟩;have B3:=hid (zab B2.out b2);clear b2;go_wp2;go_ret;exact⟨rfl,B3.out⟩
      | false =>
        rw[if_neg (by simp)] at hn;have hW:=HW.out;cases isW with
        | true =>
          rw[if_neg (by simp)] at hn;cases R with
          | true =>
            rw[if_pos rfl] at hn;subst hn;go_enter Tryz.func280,Tryz.ntmps280;(go_wp2_with fail);refine(HP.out _).mono ?_;rintro r w1 ⟨rfl,b1⟩;have B1:=hid (zaa b1 (.cells #[.int .i64 k,.bool y,.int .u64 m,.string t,.int .i64 c] 43));have d1:=(HC0.out _ B1.out).2;clear b1;have B2:=hid (zaa B1.out (.cells #[] 169));have d2:=(HC0.out _ B2.out).1;(go_wp2_with fail);refine(HU.out _ B2.out).mono ?_;rintro r w2 ⟨rfl,b2⟩;have B3:=hid (zab B2.out b2);clear b2;(go_wp2_with fail);refine(HR.out _).mono ?_;rintro r w4 ⟨rfl,b4⟩;have B5:=hid (zab B3.out b4);clear b4;go_wp2;go_ret;exact⟨rfl,B5.out⟩
          | false =>
            rw[if_neg (by simp)] at hn;subst hn;go_enter Tryz.func280,Tryz.ntmps280;(go_wp2_with fail);refine(HP.out _).mono ?_;rintro r w1 ⟨rfl,b1⟩;have B1:=hid (zaa b1 (.cells #[.int .i64 k,.bool y,.int .u64 m,.string t,.int .i64 c] 43));have d1:=(HC0.out _ B1.out).2;clear b1;have B2:=hid (zaa B1.out (.cells #[] 169));have d2:=(HC0.out _ B2.out).1;(go_wp2_with fail);refine(HU.out _ B2.out).mono ?_;rintro r w2 ⟨rfl,b2⟩;have B3:=hid (zab B2.out b2);clear b2;(go_wp2_with fail);refine(HR.out _).mono ?_;rintro r w4 ⟨rfl,b4⟩;have B5:=hid (zab B3.out b4);clear b4;go_wp2;go_ret;exact⟨rfl,B5.out⟩
        | false =>
          cases K with
          | true =>
            rw[if_pos (by simp)] at hn;subst hn;go_enter Tryz.func280,Tryz.ntmps280;(go_wp2_with fail);refine(HP.out _).mono ?_;rintro r w1 ⟨rfl,b1⟩;have B1:=hid (zaa b1 (.cells #[.int .i64 k,.bool y,.int .u64 m,.string t,.int .i64 c] 43));have d1:=(HC0.out _ B1.out).2;clear b1;have B2:=hid (zaa B1.out (.cells #[] 169));have d2:=(HC0.out _ B2.out).1;(go_wp2_with fail);refine(HU.out _ B2.out).mono ?_;rintro r w2 ⟨rfl,b2⟩;have B3:=hid (zab B2.out b2);clear b2;have d3:=(HC0.out _ B3.out).1;(go_wp2_with fail);refine(HK.out _ B3.out).mono ?_;rintro r w3 ⟨rfl,b3⟩;have B4:=hid (zab B3.out b3);clear b3;go_wp2;go_ret;exact⟨rfl,B4.out⟩
          | false =>
            rw[if_neg (by simp)] at hn;cases R with
            | true =>
              rw[if_pos rfl] at hn;subst hn;go_enter Tryz.func280,Tryz.ntmps280;(go_wp2_with fail);refine(HP.out _).mono ?_;rintro r w1 ⟨rfl,b1⟩;have B1:=hid (zaa b1 (.cells #[.int .i64 k,.bool y,.int .u64 m,.string t,.int .i64 c] 43));have d1:=(HC0.out _ B1.out).2;clear b1;have B2:=hid (zaa B1.out (.cells #[] 169));have d2:=(HC0.out _ B2.out).1;(go_wp2_with fail);refine(HU.out _ B2.out).mono ?_;rintro r w2 ⟨rfl,b2⟩;have B3:=hid (zab B2.out b2);clear b2;have d3:=(HC0.out _ B3.out).1;(go_wp2_with fail);refine(HK.out _ B3.out).mono ?_;rintro r w3 ⟨rfl,b3⟩;have B4:=hid (zab B3.out b3);clear b3;(go_wp2_with fail);refine(HR.out _).mono ?_;rintro r w4 ⟨rfl,b4⟩;have B5:=hid (zab B4.out b4);clear b4;go_wp2;go_ret;exact⟨rfl,B5.out⟩
            | false =>
              rw[if_neg (by simp)] at hn;subst hn;go_enter Tryz.func280,Tryz.ntmps280;(go_wp2_with fail);refine(HP.out _).mono ?_;rintro r w1 ⟨rfl,b1⟩;have B1:=hid (zaa b1 (.cells #[.int .i64 k,.bool y,.int .u64 m,.string t,.int .i64 c] 43));have d1:=(HC0.out _ B1.out).2;clear b1;have B2:=hid (zaa B1.out (.cells #[] 169));have d2:=(HC0.out _ B2.out).1;(go_wp2_with fail);refine(HU.out _ B2.out).mono ?_;rintro r w2 ⟨rfl,b2⟩;have B3:=hid (zab B2.out b2);clear b2;have d3:=(HC0.out _ B3.out).1;(go_wp2_with fail);refine(HK.out _ B3.out).mono ?_;rintro r w3 ⟨rfl,b3⟩;have B4:=hid (zab B3.out b3);clear b3;(go_wp2_with fail);refine(HR.out _).mono ?_;rintro r w4 ⟨rfl,b4⟩;have B5:=hid (zab B4.out b4);clear b4;go_wp2;go_ret;exact⟨rfl,B5.out⟩
theorem zmm {q:Kq} {e:Ev} (hw:WfR q.s) (hm:mayE e) :
    (zbp q e).1.2=if q.dn=true then 14 else if decide (e.k=7)=true then(if fulT q.s=true then 0 else 14) else if fulT q.s=true then 14 else if decide (e.k=3)=false∧keyB q.s=true then 8 else if(!decide (zde e))=true then 0 else 7:=by
  obtain⟨s,dn⟩:=q;cases dn with
  | true=>rw[znl ⟨s,true⟩ e (.inr rfl),if_pos rfl]
  | false =>
    rw[if_neg (by simp)];by_cases h7:e.k=7
    · rw[if_pos (decide_eq_true h7)]
      cases s with
      | nil=>rw[zko hm h7];rfl
      | cons x r =>
        have hx:=hw x (by simp);have he:=zaci hx;rw[← zl3 hx r] at he;rw[← he];by_cases ho:zet x
        · rw[zks hm h7 ho,if_neg (by simpa using ho)]
        · rw[znx hm h7 ho,if_pos (by simpa using ho)]
    · rw [if_neg (by simpa using h7)]
      by_cases hf:fulT s=true
      · rw[zj8 hm h7 hf,if_pos hf]
      · rw [if_neg hf]
        have hf:fulT s=false:=by simpa using hf
        by_cases hk:keyB s=true∧e.k≠3
        · rw[zoi hm h7 hf hk.1 hk.2,if_pos ⟨by simpa using hk.2,hk.1⟩]
        · rw [if_neg (fun h=>hk ⟨h.2,by simpa using h.1⟩)]
          by_cases hr:zde e
          · rw[zh9 hm h7 hf hk hr,if_neg (by simpa using hr)]
          · rw [if_pos (by simpa using hr)]
            by_cases h56:e.k=5∨e.k=6
            · have hkf:keyB s=false:=by
                cases hq:keyB s with
                | false=>rfl
                | true=>exact absurd ⟨hq,by omega⟩ hk
              rw[zj3 hm h56 hf hkf hr]
            · rw[znn hm h7 h56 hf hk hr]
theorem zac0 {w:World} {b o:Nat} {F:List Nat} {q:Kq} (h:PoAt w b o F q) (hs:q.s.length≤1000) (e:Ev) (hm:mayE e) (hok:EvOk e) :
  Calls Tryz.prog 280 #[.pointer (some ⟨b,o,none⟩),valE e] w fun r w'=>r= .returned (.int .i64 ((zbp q e).1.2:Nat))∧Below w.heap.size w w' :=
 zni h hs (valE e) (zfi e) (zgf e hm) _ _ _ _ (zct e hm) (zom e hm) (fun W=>zag9 e hm hok W) _ (zmm h.wf hm)
end
end Go.Proofs.YtpaciekgbhoncaaGreat
