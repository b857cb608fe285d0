/-
  Parts: JoutE, JoX, CoutPure, PinBack, PoutPure, StgPure, CoA, CoB, CoC.
-/
import Derived.Test.YtpaciekgbhoncaaGreatG0k
import Derived.Test.YtpaciekgbhoncaaGreatG0f
import Derived.Test.YtpaciekgbhoncaaGreatG0g
import Derived.Test.YtpaciekgbhoncaaGreatG0a
import Derived.Test.YtpaciekgbhoncaaGreatG0b
import Derived.Test.YtpaciekgbhoncaaGreatG0j
import Derived.Deep.QuietTactic
import Derived.Deep.RegionWith
set_option maxRecDepth 100000
set_option maxHeartbeats 16000000
open Go.Lib (hid)
namespace Go.Proofs.YtpaciekgbhoncaaGreat
section
open Go.RowKit
open Go.Lib
theorem zn3 (s:List Bx):(⟨(sepW s).toArray⟩:ByteArray).size≤1:=by
 rw[zbd];unfold sepW
 repeat' split
 all_goals simp
theorem zyt {w:World} {b o:Nat} {F:List Nat} {x:Bx} {r:List Bx} (h:JAt w b o F ⟨x::r,false⟩) (hs:r.length≤999) (v:Value)
  (hC:∀W,(Instr.typeAssert v 20 169 true).run Tryz.prog W= .ok (.tuple #[.agg #[],.bool true]) W) :
  Calls Tryz.prog 220 #[.pointer (some ⟨b,o,none⟩),v] w fun q w'=>q= .returned (.string ⟨#[if x.map=true then 125 else 93]⟩)∧JAt w' b o F ⟨r,r.isEmpty⟩∧Jf b o F F w w':=by
 have HE:Hid (∀X,Calls Tryz.prog 223 #[.pointer (some ⟨b,o,none⟩)] (w.alloc X) fun q w'=>q= .returned (.string ⟨#[if x.map=true then 125 else 93]⟩)∧JAt w' b o F ⟨r,r.isEmpty⟩∧Jf b o F F w w'):=hid (fun X=>by
  refine(endO (h.alloc X) hs).mono ?_;rintro q w' ⟨h1,h2,h3⟩;exact⟨h1,h2,(Jf.of (zaa (Below.refl _ _) X) h.lt).trans h3⟩)
 obtain⟨Z,hZ⟩:∃Z:ByteArray,(⟨#[if x.map=true then 125 else 93]⟩:ByteArray)=Z:=⟨_,rfl⟩
 rw[hZ] at HE ⊢;clear h hZ;go_enter Tryz.func220,Tryz.ntmps220;(go_wp2_with fail);refine(HE.out _).mono ?_;rintro q w1 ⟨rfl,hj⟩;have HJ:=hid hj;clear hj;go_wp2;go_ret;exact⟨rfl,HJ.out⟩
theorem zuj {w:World} {b o:Nat} {F:List Nat} {q:Os} (h:JAt w b o F q) (hd:q.dn=false) (hs:q.s.length≤1000) (hk:keyB q.s=false) (v:Value) (m:Bool) (c:Int)
  (hC:∀W,(Instr.typeAssert v 20 169 true).run Tryz.prog W= .ok (.tuple #[.agg #[],.bool false]) W)
  (hB:∀W,(Instr.typeAssert v 20 166 true).run Tryz.prog W= .ok (.tuple #[.agg #[.bool m,.int .i64 c],.bool true]) W) :
  Calls Tryz.prog 220 #[.pointer (some ⟨b,o,none⟩),v] w fun r w'=>r= .returned (.string (⟨(sepW q.s).toArray⟩++⟨#[if m=true then 123 else 91]⟩))∧∃F',JAt w' b o F' ⟨⟨m,c,0⟩::incB q.s,false⟩∧Jf b o F F' w w':=by
 have HS:Hid (∀X,Calls Tryz.prog 224 #[.pointer (some ⟨b,o,none⟩)] (w.alloc X) fun r w'=>r= .returned (.string ⟨(sepW q.s).toArray⟩)∧w.alloc X=w'):=hid (fun X=>zajg (h.alloc X) hd);have HE:Hid (∀X Y,Calls Tryz.prog 225 #[.pointer (some ⟨b,o,none⟩),.bool m] ((w.alloc X).alloc Y) fun r w'=>r= .returned (.string ⟨#[if m=true then 123 else 91]⟩)∧∃F',JAt w' b o F' ⟨⟨m,c,0⟩::incB q.s,false⟩∧Jf b o F F' w w'):=hid (fun X Y=>by
  refine(zajv ((h.alloc X).alloc Y) hd hs hk m c).mono ?_;rintro r w' ⟨h1,F',h2,h3⟩;exact⟨h1,F',h2,(Jf.of (zaa (zaa (Below.refl _ _) X) Y) h.lt).trans h3⟩)
 have hz1:=zn3 q.s;obtain⟨S,hS⟩:∃S:ByteArray,(⟨(sepW q.s).toArray⟩:ByteArray)=S:=⟨_,rfl⟩
 obtain⟨Z,hZ⟩:∃Z:ByteArray,(⟨#[if m=true then 123 else 91]⟩:ByteArray)=Z:=⟨_,rfl⟩
 have hz2:Z.size=1:=by rw[← hZ];rfl
 rw[hS] at HS hz1 ⊢;rw[hZ] at HE ⊢;have z1:¬9223372036854775807<S.size+Z.size:=by omega
 clear h hS hZ hz1 hz2;go_enter Tryz.func220,Tryz.ntmps220;(go_wp2_with fail);refine(HS.out _).mono ?_;rintro r w1 ⟨rfl,rfl⟩;(go_wp2_with fail);refine(HE.out _ _).mono ?_;rintro r w2 ⟨rfl,hj⟩;have HJ:=hid hj;clear hj;go_wp2;go_ret;exact⟨rfl,HJ.out⟩
theorem zajh (s:List Bx):plO ⟨incB s,s.isEmpty⟩=if keyB s=true then 1 else 2:=by
  cases s with
  | nil=>rfl
  | cons x r =>
    obtain⟨m,c,n⟩:=x;have hp:plO ⟨incB (⟨m,c,n⟩::r),(⟨m,c,n⟩::r:List Bx).isEmpty⟩=if m=true∧(n+1)%2=1 then 1 else if n+1=0 then 0 else 2:=rfl
    rw[hp];cases m with
    | false =>
      have hk:keyB (⟨false,c,n⟩::r)=false:=rfl;rw[hk,if_neg (fun h=>by cases h.1),if_neg (by omega),if_neg (by simp)]
    | true =>
      by_cases h:n%2=0
      · have hk:keyB (⟨true,c,n⟩::r)=true:=by simp[keyB,h]
        rw[hk,if_pos ⟨rfl,by omega⟩,if_pos rfl]
      · have hk:keyB (⟨true,c,n⟩::r)=false:=by simp[keyB];omega
        rw[hk,if_neg (fun hh=>by omega),if_neg (by omega),if_neg (by simp)]
theorem zwy {w:World} {b o:Nat} {F:List Nat} {s:List Bx} (h:JAt w b o F ⟨s,false⟩) (hs:s.length≤1000) (v:Value) (T:ByteArray) (hTs:T.size≤100000)
    (hC:∀W,(Instr.typeAssert v 20 169 true).run Tryz.prog W= .ok (.tuple #[.agg #[],.bool false]) W)
    (hB:∀W,(Instr.typeAssert v 20 166 true).run Tryz.prog W= .ok (.tuple #[.agg #[.bool false,.int .i64 0],.bool false]) W)
    (hX:∀W,Below w.heap.size w W∨Jf b o F F w W→Calls Tryz.prog 226 #[v] W fun r w'=>r= .returned (.string T)∧Below W.heap.size W w') :
    Calls Tryz.prog 220 #[.pointer (some ⟨b,o,none⟩),v] w fun r w'=>r= .returned (.string (⟨(sepW s).toArray⟩++T))∧JAt w' b o F ⟨incB s,s.isEmpty⟩∧Jf b o F F w w':=by
  have HS:Hid (∀X,Calls Tryz.prog 224 #[.pointer (some ⟨b,o,none⟩)] (w.alloc X) fun r w'=>r= .returned (.string ⟨(sepW s).toArray⟩)∧w.alloc X=w'):=hid (fun X=>zajg (h.alloc X) rfl);obtain⟨K,hK⟩:∃K,keyB s=K:=⟨_,rfl⟩
  have HA:Hid (∀X Y,Calls Tryz.prog 222 #[.pointer (some ⟨b,o,none⟩)] ((w.alloc X).alloc Y) fun r w'=>r= .returned (.bool K)∧(w.alloc X).alloc Y=w'):=hid (fun X Y=>hK▸zyf ((h.alloc X).alloc Y) hs);have hp:=zajh s;rw[hK] at hp;have hfin:∀X Y,((∃u,((w.alloc X).alloc Y).cell? ⟨b,o,none⟩=some u)∧((w.alloc X).alloc Y).frozen? ⟨b,o,none⟩=false)∧(Jf b o F F w (((w.alloc X).alloc Y).setCell ⟨b,o,none⟩ (.int .i64 ((if K=true then 1 else 2:Nat):Int)))) ∧
      ∀w',Below (((w.alloc X).alloc Y).setCell ⟨b,o,none⟩ (.int .i64 ((if K=true then 1 else 2:Nat):Int))).heap.size (((w.alloc X).alloc Y).setCell ⟨b,o,none⟩ (.int .i64 ((if K=true then 1 else 2:Nat):Int))) w'→JAt w' b o F ⟨incB s,s.isEmpty⟩∧Jf b o F F w w':=by
    intro X Y;have h2:=(h.alloc X).alloc Y;obtain⟨a,cp,hA,_,_⟩:=h2.cells;obtain⟨⟨c0,f0⟩,_⟩:=zb6 hA;obtain⟨p1,p2⟩:=h2.place (q':=⟨incB s,s.isEmpty⟩) (by rw[zjw]) (fun e=>by cases s <;>simp_all [incB]) h.wf.inc;rw[hp] at p1 p2;have hj:Jf b o F F w ((w.alloc X).alloc Y):=Jf.of (zaa (zaa (Below.refl _ _) X) Y) h.lt;refine⟨⟨⟨_,c0⟩,f0⟩,hj.trans p2,fun w' k=>⟨p1.go k,(hj.trans p2).up h.lt k⟩⟩
  have HFI:=hid hfin;have hz1:=zn3 s;obtain⟨S,hS⟩:∃S:ByteArray,(⟨(sepW s).toArray⟩:ByteArray)=S:=⟨_,rfl⟩
  rw[hS] at HS hz1 ⊢;have z1:¬9223372036854775807<S.size+T.size:=by omega
  have HX:=hid hX;clear h hS hz1 hX hfin hp hK hTs;cases K with
  | true =>
    simp only[if_true] at HFI;go_enter Tryz.func220,Tryz.ntmps220;(go_wp2_with fail);refine(HS.out _).mono ?_;rintro r w1 ⟨rfl,rfl⟩;(go_wp2_with fail);refine(HA.out _ _).mono ?_;rintro r w1 ⟨rfl,rfl⟩;obtain⟨⟨⟨u,c0⟩,f0⟩,hj,hg⟩:=HFI.out (.cells #[] 169) (.cells #[.bool false,.int .i64 0] 166);have HJ:=hid hj;have HG:=hid hg;clear hj hg;(go_wp2_with fail);refine(HX.out _ (.inr HJ.out)).mono ?_;rintro r w2 ⟨rfl,hb⟩;have HK:=hid (HG.out _ hb);clear hb;go_wp2;go_ret;exact⟨rfl,HK.out⟩
  | false =>
    simp only[Bool.false_eq_true,if_false] at HFI;go_enter Tryz.func220,Tryz.ntmps220;(go_wp2_with fail);refine(HS.out _).mono ?_;rintro r w1 ⟨rfl,rfl⟩;(go_wp2_with fail);refine(HA.out _ _).mono ?_;rintro r w1 ⟨rfl,rfl⟩;obtain⟨⟨⟨u,c0⟩,f0⟩,hj,hg⟩:=HFI.out (.cells #[] 169) (.cells #[.bool false,.int .i64 0] 166);have HJ:=hid hj;have HG:=hid hg;clear hj hg;(go_wp2_with fail);refine(HX.out _ (.inr HJ.out)).mono ?_;rintro r w2 ⟨rfl,hb⟩;have HK:=hid (HG.out _ hb);clear hb;go_wp2;go_ret;exact⟨rfl,HK.out⟩
theorem zajp {w:World} {b o:Nat} {F:List Nat} {q:Os} (h:JAt w b o F q) (v:Value) (n:Nat) (hn:n=14∨n=8)
  (hR:Calls Tryz.prog 219 #[.pointer (some ⟨b,o,none⟩),v] w fun r w'=>r= .returned (.int .i64 n)∧Below w.heap.size w w') :
  Calls Tryz.prog 218 #[.pointer (some ⟨b,o,none⟩),v] w fun r w'=>r= .returned (.tuple #[.string ⟨#[]⟩,.int .i64 n])∧JAt w' b o F q∧Jf b o F F w w':=by
 have HR:=hid hR;have HF:Hid (∀w',Below w.heap.size w w'→JAt w' b o F q∧Jf b o F F w w'):=hid (fun w' k=>⟨h.go k,Jf.of k h.lt⟩);clear h hR;rcases hn with rfl|rfl
 all_goals
  go_enter Tryz.func218,Tryz.ntmps218;(go_wp2_with fail);refine HR.out.mono ?_;rintro r w1 ⟨rfl,b1⟩;have H1:=hid (HF.out _ b1);clear b1;go_wp2;go_ret2;exact⟨rfl,H1.out⟩
theorem zage {w:World} {b o:Nat} {F:List Nat} {q:Os} (h:JAt w b o F q) (v:Value) (T:ByteArray) (q':Os)
  (hR:Calls Tryz.prog 219 #[.pointer (some ⟨b,o,none⟩),v] w fun r w'=>r= .returned (.int .i64 0)∧Below w.heap.size w w')
  (hW:∀W,Below w.heap.size w W→Calls Tryz.prog 220 #[.pointer (some ⟨b,o,none⟩),v] W fun r w'=>r= .returned (.string T)∧∃F',JAt w' b o F' q'∧Jf b o F F' W w') :
  Calls Tryz.prog 218 #[.pointer (some ⟨b,o,none⟩),v] w fun r w'=>r= .returned (.tuple #[.string T,.int .i64 0])∧∃F',JAt w' b o F' q'∧Jf b o F F' w w':=by
 have HR:=hid hR;have HW:=hid hW;have hb:=h.lt;clear h hR hW;have HB:=hid hb;clear hb;go_enter Tryz.func218,Tryz.ntmps218;(go_wp2_with fail);refine HR.out.mono ?_;rintro r w1 ⟨rfl,b1⟩;have H1:=hid b1;clear b1;(go_wp2_with fail);refine(HW.out _ H1.out).mono ?_;rintro r w2 ⟨rfl,F',hj,hf⟩;have H2:Hid (∃F',JAt w2 b o F' q'∧Jf b o F F' w w2):=hid ⟨F',hj,(Jf.of H1.out HB.out).trans hf⟩;clear hj hf;go_wp2;go_ret2;exact⟨rfl,H2.out⟩
structure JW (w0 w:World) (b:Nat) (F:List Nat) (q:Os):Prop where
 at_:JAt w b 0 F q
 lo:w0.heap.size≤b
 row:∀k∈F,w0.heap.size≤k
 bel:Below w0.heap.size w0 w
 typ:∃cs fr,w.heap[b]? = some (.cells cs 103 fr)
theorem JW.next {w0 w w':World} {b:Nat} {F F':List Nat} {q q':Os} (h:JW w0 w b F q) (hj:JAt w' b 0 F' q') (k:Jf b 0 F F' w w'):JW w0 w' b F' q':=by
 have h1:=k.step.low (B:=w0.heap.size) (fun i hi=>(List.mem_cons.1 hi).elim (fun e=>e▸h.lo) (fun hi=>h.row i hi)) h.bel.size;obtain⟨cs,fr,hc⟩:=h.typ;obtain⟨c',hc',_⟩:=k.shape _ _ _ hc;exact⟨hj,h.lo,fun i hi=>h1 i (List.mem_cons_of_mem _ hi),h.bel.trans (k.below h.lo h.row h.bel.size),c',fr,hc'⟩
theorem zaj1 (w0 w:World) (hb:Below w0.heap.size w0 w):JW w0 (w.alloc (.cells #[.int .i64 0,.slice none 0 0] 103)) w.heap.size [] ⟨[],false⟩ :=
 ⟨⟨⟨none,0,zjf (heap_alloc_new w _),Win.nil_ _ _ _,rfl⟩,⟨_,_,_,heap_alloc_new w _,by decide⟩,fun e=>(by cases e),trivial⟩,hb.size,fun k hk=>(by simp at hk),zaa hb _,_,_,heap_alloc_new w _⟩
theorem JW.off {w0 w w':World} {b:Nat} {F F':List Nat} {q:Os} (h:JW w0 w b F q) (k:Jf b 0 F F' w w'):Off [103,4] w w':=by
 intro i c t fr hi ht;have hlt:=(Array.getElem?_eq_some_iff.1 hi).1;rw[k.step.block i hlt ?_]
 ·exact hi
 ·intro hm
  rcases List.mem_cons.1 hm with e|hm
  ·subst e
   obtain⟨cs,fr',hc⟩:=h.typ;rw[hi] at hc;cases hc;exact ht (by simp)
  ·obtain⟨_,_,cur,hc⟩:=h.at_.row i hm
   rw[hi] at hc;cases hc;exact ht (by simp)
end
section
open Go.RowKit
open Go.Lib
def zds (pr:Bool→Nat→List UInt8) (e:Ev):List UInt8:=if e.k=2 then pr e.y e.m else outB e
def zbb (pr:Bool→Nat→List UInt8) (o:Os) (e:Ev):(List UInt8×Nat)×Os :=
  if¬mayE e∨o.dn=true then(([],14),o)
  else if e.k=7 then
    match o.s with
    | []=>(([],14),o)
    | b::r=>if b.map=true∧b.have_%2=1 then(([],14),o) else(([if b.map=true then 125 else 93],0),⟨r,r.isEmpty⟩)
  else if keyB o.s=true∧e.k≠3 then(([],8),o)
  else if e.k=5∨e.k=6 then((sepW o.s++[if e.k=6 then 123 else 91],0),⟨⟨decide (e.k=6),e.c,0⟩::incB o.s,false⟩)
  else((sepW o.s++zds pr e,0),⟨incB o.s,o.s.isEmpty⟩)
theorem zth (pr:Bool→Nat→List UInt8) (o:Os) (e:Ev) (h:¬mayE e∨o.dn=true):zbb pr o e=(([],14),o):=if_pos h
theorem zs3 (pr:Bool→Nat→List UInt8) {b:Bx} {r:List Bx} {e:Ev} (hm:mayE e) (h7:e.k=7) (h:¬(b.map=true∧b.have_%2=1)):zbb pr ⟨b::r,false⟩ e=(([if b.map=true then 125 else 93],0),⟨r,r.isEmpty⟩):=by
 unfold zbb;rw[if_neg (by simp[hm]),if_pos h7];simp only;rw[if_neg h]
theorem zsd (pr:Bool→Nat→List UInt8) {b:Bx} {r:List Bx} {e:Ev} (hm:mayE e) (h7:e.k=7) (h:b.map=true∧b.have_%2=1):zbb pr ⟨b::r,false⟩ e=(([],14),⟨b::r,false⟩):=by
 unfold zbb;rw[if_neg (by simp[hm]),if_pos h7];simp only;rw[if_pos h]
theorem zpy (pr:Bool→Nat→List UInt8) {e:Ev} (hm:mayE e) (h7:e.k=7):zbb pr ⟨[],false⟩ e=(([],14),⟨[],false⟩):=by
 unfold zbb;rw[if_neg (by simp[hm]),if_pos h7]
theorem zui (pr:Bool→Nat→List UInt8) {s:List Bx} {e:Ev} (hm:mayE e) (h7:e.k≠7) (hk:keyB s=true) (h3:e.k≠3):zbb pr ⟨s,false⟩ e=(([],8),⟨s,false⟩):=by
 unfold zbb;rw[if_neg (by simp[hm]),if_neg h7,if_pos ⟨hk,h3⟩]
theorem zpr (pr:Bool→Nat→List UInt8) {s:List Bx} {e:Ev} (hm:mayE e) (h56:e.k=5∨e.k=6) (hk:keyB s=false):zbb pr ⟨s,false⟩ e=((sepW s++[if e.k=6 then 123 else 91],0),⟨⟨decide (e.k=6),e.c,0⟩::incB s,false⟩):=by
 unfold zbb;rw[if_neg (by simp[hm]),if_neg (by omega),if_neg (by simp[hk]),if_pos h56]
theorem zuo (pr:Bool→Nat→List UInt8) {s:List Bx} {e:Ev} (hm:mayE e) (h7:e.k≠7) (h56:¬(e.k=5∨e.k=6)) (hk:¬(keyB s=true∧e.k≠3)):zbb pr ⟨s,false⟩ e=((sepW s++zds pr e,0),⟨incB s,s.isEmpty⟩):=by
 unfold zbb;rw[if_neg (by simp[hm]),if_neg h7,if_neg hk,if_neg h56]
theorem zwb (pr:Bool→Nat→List UInt8) (q:Os) (e:Ev):(zbb pr q e).2.s.length≤q.s.length+1:=by
  have hi:(incB q.s).length=q.s.length:=by cases q.s <;>rfl
  unfold zbb;split
  · simp
  · split
    · split
      · simp
      · split
        · simp
        · simp_all;omega
    · split
      · simp
      · split
        · simp[hi]
        · simp[hi]
theorem zum {pr:Bool→Nat→List UInt8} (hpr:∀y m,(pr y m).length≤100) (q:Os) (e:Ev) (hm:mayE e) (hmag:e.m<18446744073709551616) (ht:e.t.size≤1000):(zbb pr q e).1.1.length≤100001:=by
  have hs:(sepW q.s).length≤1:=by
    unfold sepW
    repeat' split
    all_goals simp
  unfold zbb;split
  · simp
  · split
    · split
      · simp
      · split <;>simp
    · rename_i h7
      split
      · simp
      · split
        · simp;omega
        · rename_i h56
          have hk5:e.k=0∨e.k=1∨e.k=2∨e.k=3∨e.k=4:=by
            have:=zm6 hm;omega
          have:(zds pr e).length≤100000:=by
            unfold zds;split
            · have:=hpr e.y e.m
              omega
            · exact ziv e hk5 hmag ht
          simp only[List.length_append];omega
structure PrintC (w0:World) (pr:Bool→Nat→List UInt8):Prop where
 call:∀(y:Bool) (m:Nat),m<18446744073709551616→∀w,Below w0.heap.size w0 w→Calls Tryz.prog 229 #[.agg #[.bool y,.int .u64 m]] w fun e w'=>e= .returned (.string ⟨(pr y m).toArray⟩)∧Below w.heap.size w w'
 size:∀y m,(pr y m).length≤100
theorem zaj6 {w0:World} {pr:Bool→Nat→List UInt8} (hPr:PrintC w0 pr) (e:Ev) (hk:e.k=0∨e.k=1∨e.k=2∨e.k=3∨e.k=4) (hm:e.m<18446744073709551616) (ht:e.t.size≤1000) (w:World) (hT:Below w0.heap.size w0 w) :
    Calls Tryz.prog 226 #[valE e] w fun r w'=>r= .returned (.string ⟨(zds pr e).toArray⟩)∧Below w.heap.size w w':=by
  have n0:=zpu;have n1:=zwc;have a1:=zjn;have a2:=ze7;have a3:=zfq;have a4:=zik;have b1:=fun d h=>zf3 d h
  have b2:=fun d h=>zbv d h
  have b3:=fun d h=>zb4 d h
  have b4:=fun d h=>zf2 d h
  have hB:=hid (Below.refl w.heap.size w);obtain⟨k,y,m,t,c⟩:=e;simp only at hk hm ht;rcases hk with rfl|rfl|rfl|rfl|rfl
  · have ho:zds pr ⟨0,y,m,t,c⟩=[110,117,108,108]:=by simp[zds,outB,outW]
    rw[ho];have p1:∀W,(Instr.typeAssert .nilIface 20 4 true).run Tryz.prog W= .ok (.tuple #[.bool false,.bool false]) W:=fun W=>by kernel_rfl
    have p2:∀W,(Instr.typeAssert .nilIface 20 93 true).run Tryz.prog W= .ok (.tuple #[.agg #[.bool false,.int .u64 0],.bool false]) W:=fun W=>by kernel_rfl
    have p3:∀W,(Instr.typeAssert .nilIface 20 179 true).run Tryz.prog W= .ok (.tuple #[.string ⟨#[]⟩,.bool false]) W:=fun W=>by kernel_rfl
    have p4:∀W,(Instr.typeAssert .nilIface 20 181 true).run Tryz.prog W= .ok (.tuple #[.string ⟨#[]⟩,.bool false]) W:=fun W=>by kernel_rfl
    clear ho hT hm ht;simp only[valE];go_enter Tryz.func226,Tryz.ntmps226;go_wp2;go_ret;exact⟨rfl,by repeat (first | exact Below.refl _ _|refine zaa ?_ _)⟩
  · cases y with
    | true =>
      have ho:zds pr ⟨1,true,m,t,c⟩=[116,114,117,101]:=by simp[zds,outB,outW]
      rw[ho];clear ho hT hm ht;simp only[valE];go_enter Tryz.func226,Tryz.ntmps226;go_wp2;go_ret;exact⟨rfl,hB.out⟩
    | false =>
      have ho:zds pr ⟨1,false,m,t,c⟩=[102,97,108,115,101]:=by simp[zds,outB,outW]
      rw[ho];clear ho hT hm ht;simp only[valE];go_enter Tryz.func226,Tryz.ntmps226;go_wp2;go_ret;exact⟨rfl,hB.out⟩
  · have ho:zds pr ⟨2,y,m,t,c⟩=pr y m:=by simp[zds]
    rw[ho];have HP:Hid (∀x,Calls Tryz.prog 229 #[.agg #[.bool y,.int .u64 m]] (w.alloc x) fun e w'=>e= .returned (.string ⟨(pr y m).toArray⟩)∧Below (w.alloc x).heap.size (w.alloc x) w'):=hid (fun x=>hPr.call y m hm _ (zaa hT x));generalize (⟨(pr y m).toArray⟩:ByteArray)=Z at *
    clear ho hT ht;simp only[valE];go_enter Tryz.func226,Tryz.ntmps226;(go_wp2_with fail);refine(HP.out _).mono ?_;rintro r w1 ⟨rfl,hb⟩;have HB1:=hid (zab (zaa hB.out _) hb);clear hb;go_wp2;go_ret;exact⟨rfl,HB1.out⟩
  · have ho:zds pr ⟨3,y,m,t,c⟩=34::escW t.data.toList++[34]:=by simp[zds,outB,outW]
    rw[ho,← zqx];have hWr:Hid (∀W,Calls Tryz.prog 231 #[.string t] W fun e w'=>e= .returned (.string ⟨(escW t.data.toList).toArray⟩)∧Below W.heap.size W w'):=hid (fun W=>zz8 t W (by omega));have hXs:(⟨(escW t.data.toList).toArray⟩:ByteArray).size≤10000000:=by
      rw[zbd];have h1:=zht t.data.toList;rw[zb3] at h1;omega
    generalize (⟨(escW t.data.toList).toArray⟩:ByteArray)=X at *
    have HQ:=hid (fun W=>zy9 X hXs W);clear ho hXs hT;simp only[valE];go_enter Tryz.func226,Tryz.ntmps226;(go_wp2_with fail);refine(hWr.out _).mono ?_;rintro r w1 ⟨rfl,hb⟩;have HB1:=hid (zab (zaa hB.out _) hb);clear hb;(go_wp2_with fail);refine(HQ.out _).mono ?_;rintro r w2 ⟨rfl,rfl⟩;go_wp2;go_ret;exact⟨rfl,HB1.out⟩
  · have ho:zds pr ⟨4,y,m,t,c⟩=34::putS t.data.toList++[34]:=by simp[zds,outB]
    rw[ho,← zqx];have hWr:Hid (∀W,Calls Tryz.prog 232 #[.string t] W fun e w'=>e= .returned (.string ⟨(putS t.data.toList).toArray⟩)∧Below W.heap.size W w'):=hid (fun W=>zafh t W (by omega));have hXs:(⟨(putS t.data.toList).toArray⟩:ByteArray).size≤10000000:=by
      rw[zbd];have h1:=zh5 t.data.toList;rw[zb3] at h1;omega
    generalize (⟨(putS t.data.toList).toArray⟩:ByteArray)=X at *
    have HQ:=hid (fun W=>zy9 X hXs W);clear ho hXs hT;simp only[valE];go_enter Tryz.func226,Tryz.ntmps226;(go_wp2_with fail);refine(hWr.out _).mono ?_;rintro r w1 ⟨rfl,hb⟩;have HB1:=hid (zab (zaa hB.out _) hb);clear hb;(go_wp2_with fail);refine(HQ.out _).mono ?_;rintro r w2 ⟨rfl,rfl⟩;go_wp2;go_ret;exact⟨rfl,HB1.out⟩
theorem zsh (pr:Bool→Nat→List UInt8) (o:Os) (e:Ev):(zbb pr o e).1.2=(zem o e).1.2:=by
 unfold zbb zem;by_cases h1:¬mayE e∨o.dn=true
 ·rw[if_pos h1,if_pos h1]
 ·rw[if_neg h1,if_neg h1]
  by_cases h7:e.k=7
  ·rw[if_pos h7,if_pos h7]
   obtain⟨s,dn⟩:=o;cases s <;>rfl
  ·rw[if_neg h7,if_neg h7]
   repeat' split
   all_goals rfl
theorem zyy {w0:World} {pr:Bool→Nat→List UInt8} (hPr:PrintC w0 pr) (e:Ev) (hk:e.k=0∨e.k=1∨e.k=2∨e.k=3∨e.k=4) (hm:e.m<18446744073709551616) (ht:e.t.size≤1000):(⟨(zds pr e).toArray⟩:ByteArray).size≤100000:=by
 rw[zbd];unfold zds;split
 ·have:=hPr.size e.y e.m
  omega
 ·exact ziv e hk hm ht
theorem zagz {pr:Bool→Nat→List UInt8} {w:World} {b o:Nat} {F:List Nat} {q:Os} (h:JAt w b o F q) (hs:q.s.length≤900) (e:Ev) (hm:mayE e) (hmag:e.m<18446744073709551616) (ht:e.t.size≤1000) {w0:World} (hT:PrintC w0 pr) (lo:w0.heap.size≤b) (row:∀k∈F,w0.heap.size≤k) (bel:Below w0.heap.size w0 w) :
    Calls Tryz.prog 218 #[.pointer (some ⟨b,o,none⟩),valE e] w fun r w'=>r= .returned (.tuple #[.string ⟨(zbb pr q e).1.1.toArray⟩,.int .i64 ((zbb pr q e).1.2:Nat)])∧∃F',JAt w' b o F' (zbb pr q e).2∧Jf b o F F' w w':=by
  have hR:=zade h (by omega) e hm;rw[← zsh pr q e] at hR;have bad:∀n:Nat,(n=14∨n=8)→zbb pr q e=(([],n),q)→Calls Tryz.prog 218 #[.pointer (some ⟨b,o,none⟩),valE e] w fun r w'=>r= .returned (.tuple #[.string ⟨(zbb pr q e).1.1.toArray⟩,.int .i64 ((zbb pr q e).1.2:Nat)])∧∃F',JAt w' b o F' (zbb pr q e).2∧Jf b o F F' w w':=by
    intro n hn hq;rw[hq] at hR ⊢;refine(zajp h (valE e) n hn hR).mono ?_;rintro r w' ⟨h1,h2,h3⟩;exact⟨h1,F,h2,h3⟩
  have hC:=zct e hm;have hB:=zdi e hm;have hf:=h.fin;obtain⟨s,dn⟩:=q;simp only at hs;cases dn with
  | true=>exact bad 14 (.inl rfl) (zth pr ⟨s,true⟩ e (.inr rfl))
  | false =>
    by_cases h7:e.k=7
    · cases s with
      | nil=>exact bad 14 (.inl rfl) (zpy pr hm h7)
      | cons x r =>
        by_cases ho:x.map=true∧x.have_%2=1
        · exact bad 14 (.inl rfl) (zsd pr hm h7 ho)
        · rw[zs3 pr hm h7 ho] at hR ⊢
          rw[decide_eq_true h7] at hC;refine zage h (valE e) _ _ hR (fun W k=> ?_);refine(zyt (h.go k) (by simp only[List.length_cons] at hs;omega) (valE e) hC).mono ?_;rintro q w' ⟨h1,h2,h3⟩;exact⟨h1,F,h2,h3⟩
    · rw [decide_eq_false h7] at hC
      by_cases hk:keyB s=true∧e.k≠3
      · exact bad 8 (.inr rfl) (zui pr hm h7 hk.1 hk.2)
      · by_cases h56:e.k=5∨e.k=6
        · have hkf:keyB s=false:=by
            cases hq:keyB s with
            | false=>rfl
            | true=>exact absurd ⟨hq,by omega⟩ hk
          rw[decide_eq_true h56,if_pos h56] at hB;rw[zpr pr hm h56 hkf] at hR ⊢;refine zage h (valE e) _ _ hR (fun W k=> ?_);refine(zuj (h.go k) rfl (by show s.length≤1000;omega) hkf (valE e) (decide (e.k=6)) e.c hC hB).mono ?_;rintro q w' ⟨h1,F',h2,h3⟩;refine⟨?_,F',h2,h3⟩;rw[h1,← zc8];by_cases h6:e.k=6
          · rw[decide_eq_true h6,if_pos rfl,if_pos h6]
          · rw[decide_eq_false h6,if_neg (by simp),if_neg h6]
        · rw[decide_eq_false h56,if_neg h56,decide_eq_false (by omega:¬e.k=6)] at hB
          have hk5:e.k=0∨e.k=1∨e.k=2∨e.k=3∨e.k=4:=by
            have:=zm6 hm;omega
          rw[zuo pr hm h7 h56 hk] at hR ⊢;refine zage h (valE e) _ _ hR (fun W k=> ?_);have hX:∀W',Below W.heap.size W W'∨Jf b o F F W W'→Calls Tryz.prog 226 #[valE e] W' fun r w'=>r= .returned (.string ⟨(zds pr e).toArray⟩)∧Below W'.heap.size W' w':=by
            intro W' hW';refine zaj6 hT e hk5 hmag ht W' ?_;have k0:Below w0.heap.size w0 W:=bel.trans (k.mono bel.size);refine k0.trans ?_;rcases hW' with hW'|hW'
            · exact hW'.mono k0.size
            · exact hW'.below lo row k0.size
          refine(zwy (h.go k) (by omega) (valE e) _ (zyy hT e hk5 hmag ht) hC hB hX).mono ?_;rintro q w' ⟨h1,h2,h3⟩;refine⟨?_,F,h2,h3⟩;rw[h1,zc8]
theorem zac5 {pr:Bool→Nat→List UInt8} {w0 w:World} {b:Nat} {F:List Nat} {q:Os} (h:JW w0 w b F q) (hT:PrintC w0 pr) (hs:q.s.length≤900) (e:Ev) (hm:mayE e) (hmag:e.m<18446744073709551616) (ht:e.t.size≤1000) :
  Calls Tryz.prog 218 #[.pointer (some ⟨b,0,none⟩),valE e] w fun r w'=>r= .returned (.tuple #[.string ⟨(zbb pr q e).1.1.toArray⟩,.int .i64 ((zbb pr q e).1.2:Nat)])∧∃F',JW w0 w' b F' (zbb pr q e).2∧Jf b 0 F F' w w':=by
 refine(zagz h.at_ hs e hm hmag ht hT h.lo h.row h.bel).mono ?_;rintro r w' ⟨h1,F',h2,h3⟩;exact⟨h1,F',h.next h2 h3,h3⟩
end
section
open Go.Lib
structure Kq where
 s:List Bx
 dn:Bool
def fulT:List Bx→Bool
 | []=>false
 | b::_=>decide (0≤b.c∧(if b.map=true then 2*b.c else b.c)≤(b.have_:Int))
def zb0 (o:Kq) (e:Ev):(List UInt8×Nat)×Kq :=
  if¬mayE e∨o.dn=true then(([],14),o)
  else if e.k=7 then
    match o.s with
    | []=>(([],14),o)
    | b::r=>if zet b then(([],14),o) else((zbl (b::r) e,0),⟨r,r.isEmpty⟩)
  else if fulT o.s=true then(([],14),o)
  else if keyB o.s=true∧e.k≠3 then(([],8),o)
  else if e.k=5∨e.k=6 then((zbl o.s e,0),⟨⟨decide (e.k=6),e.c,0⟩::incB o.s,false⟩)
  else((zbl o.s e,0),⟨incB o.s,o.s.isEmpty⟩)
theorem zok (o:Kq) (e:Ev) (h:¬mayE e∨o.dn=true):zb0 o e=(([],14),o):=if_pos h
theorem znv {b:Bx} {r:List Bx} {e:Ev} (hm:mayE e) (h7:e.k=7) (h:¬zet b):zb0 ⟨b::r,false⟩ e=((zbl (b::r) e,0),⟨r,r.isEmpty⟩):=by
 unfold zb0;rw[if_neg (by simp[hm]),if_pos h7];simp only;rw[if_neg h]
theorem zkn {b:Bx} {r:List Bx} {e:Ev} (hm:mayE e) (h7:e.k=7) (h:zet b):zb0 ⟨b::r,false⟩ e=(([],14),⟨b::r,false⟩):=by
 unfold zb0;rw[if_neg (by simp[hm]),if_pos h7];simp only;rw[if_pos h]
theorem zjx {e:Ev} (hm:mayE e) (h7:e.k=7):zb0 ⟨[],false⟩ e=(([],14),⟨[],false⟩):=by
 unfold zb0;rw[if_neg (by simp[hm]),if_pos h7]
theorem zk1 {s:List Bx} {e:Ev} (hm:mayE e) (h7:e.k≠7) (hf:fulT s=true):zb0 ⟨s,false⟩ e=(([],14),⟨s,false⟩):=by
 unfold zb0;rw[if_neg (by simp[hm]),if_neg h7,if_pos hf]
theorem zn9 {s:List Bx} {e:Ev} (hm:mayE e) (h7:e.k≠7) (hf:fulT s=false) (hk:keyB s=true) (h3:e.k≠3):zb0 ⟨s,false⟩ e=(([],8),⟨s,false⟩):=by
 unfold zb0;rw[if_neg (by simp[hm]),if_neg h7,if_neg (by simp[hf]),if_pos ⟨hk,h3⟩]
theorem zj7 {s:List Bx} {e:Ev} (hm:mayE e) (h56:e.k=5∨e.k=6) (hf:fulT s=false) (hk:keyB s=false):zb0 ⟨s,false⟩ e=((zbl s e,0),⟨⟨decide (e.k=6),e.c,0⟩::incB s,false⟩):=by
 unfold zb0;rw[if_neg (by simp[hm]),if_neg (by omega),if_neg (by simp[hf]),if_neg (by simp[hk]),if_pos h56]
theorem zm0 {s:List Bx} {e:Ev} (hm:mayE e) (h7:e.k≠7) (h56:¬(e.k=5∨e.k=6)) (hf:fulT s=false) (hk:¬(keyB s=true∧e.k≠3)):zb0 ⟨s,false⟩ e=((zbl s e,0),⟨incB s,s.isEmpty⟩):=by
 unfold zb0;rw[if_neg (by simp[hm]),if_neg h7,if_neg (by simp[hf]),if_neg hk,if_neg h56]
end
section
open Go.Lib
def zjs (one two four v:Nat):List UInt8 :=
 if one≠0∧v<256 then UInt8.ofNat one::bigB 1 v else if v<65536 then UInt8.ofNat two::bigB 2 v else UInt8.ofNat four::bigB 4 v
def zdw (y:Bool) (v:Nat):List UInt8 :=
 if y=false then(if v<128 then [UInt8.ofNat v] else if v<256 then UInt8.ofNat 204::bigB 1 v else if v<65536 then UInt8.ofNat 205::bigB 2 v else if v<4294967296 then UInt8.ofNat 206::bigB 4 v else UInt8.ofNat 207::bigB 8 v)
 else if v<32 then [UInt8.ofNat (255-v)]
 else if v<128 then UInt8.ofNat 208::bigB 1 (18446744073709551615-v) else if v<32768 then UInt8.ofNat 209::bigB 2 (18446744073709551615-v) else if v<2147483648 then UInt8.ofNat 210::bigB 4 (18446744073709551615-v) else UInt8.ofNat 211::bigB 8 (18446744073709551615-v)
def txPk (m:Bool) (n:Nat):List UInt8:=if m=true then(if n<32 then [UInt8.ofNat (160+n)] else zjs 217 218 219 n) else zjs 196 197 198 n
def zfh (m:Bool) (n:Nat):List UInt8:=if m=true then(if n<16 then [UInt8.ofNat (128+n)] else zjs 0 222 223 n) else(if n<16 then [UInt8.ofNat (144+n)] else zjs 0 220 221 n)
def zcb (e:Ev):List UInt8 :=
 if e.k=7 then []
 else if e.k=0 then [192]
 else if e.k=1 then [if e.y=true then 195 else 194]
 else if e.k=2 then zdw e.y e.m
 else if e.k=3∨e.k=4 then txPk (decide (e.k=3)) e.t.data.toList.length++e.t.data.toList
 else zfh (decide (e.k=6)) e.c.toNat
def zde (e:Ev):Prop:=e.k=2∧e.y=true∧9223372036854775808≤e.m∨(e.k=5∨e.k=6)∧(e.c<0∨4294967295<e.c)
end
section
open Go.Lib
instance (e:Ev):Decidable (zde e):=by unfold zde;infer_instance
def zbp (o:Kq) (e:Ev):(List UInt8×Nat)×Kq :=
  if¬mayE e∨o.dn=true then(([],14),o)
  else if e.k=7 then
    match o.s with
    | []=>(([],14),o)
    | b::r=>if zet b then(([],14),o) else(([],0),⟨r,r.isEmpty⟩)
  else if fulT o.s=true then(([],14),o)
  else if keyB o.s=true∧e.k≠3 then(([],8),o)
  else if zde e then(([],7),o)
  else if e.k=5∨e.k=6 then((zcb e,0),⟨⟨decide (e.k=6),e.c,0⟩::incB o.s,false⟩)
  else((zcb e,0),⟨incB o.s,o.s.isEmpty⟩)
theorem znl (o:Kq) (e:Ev) (h:¬mayE e∨o.dn=true):zbp o e=(([],14),o):=if_pos h
theorem znx {b:Bx} {r:List Bx} {e:Ev} (hm:mayE e) (h7:e.k=7) (h:¬zet b):zbp ⟨b::r,false⟩ e=(([],0),⟨r,r.isEmpty⟩):=by
 unfold zbp;rw[if_neg (by simp[hm]),if_pos h7];simp only;rw[if_neg h]
theorem zks {b:Bx} {r:List Bx} {e:Ev} (hm:mayE e) (h7:e.k=7) (h:zet b):zbp ⟨b::r,false⟩ e=(([],14),⟨b::r,false⟩):=by
 unfold zbp;rw[if_neg (by simp[hm]),if_pos h7];simp only;rw[if_pos h]
theorem zko {e:Ev} (hm:mayE e) (h7:e.k=7):zbp ⟨[],false⟩ e=(([],14),⟨[],false⟩):=by
 unfold zbp;rw[if_neg (by simp[hm]),if_pos h7]
theorem zj8 {s:List Bx} {e:Ev} (hm:mayE e) (h7:e.k≠7) (hf:fulT s=true):zbp ⟨s,false⟩ e=(([],14),⟨s,false⟩):=by
 unfold zbp;rw[if_neg (by simp[hm]),if_neg h7,if_pos hf]
theorem zoi {s:List Bx} {e:Ev} (hm:mayE e) (h7:e.k≠7) (hf:fulT s=false) (hk:keyB s=true) (h3:e.k≠3):zbp ⟨s,false⟩ e=(([],8),⟨s,false⟩):=by
 unfold zbp;rw[if_neg (by simp[hm]),if_neg h7,if_neg (by simp[hf]),if_pos ⟨hk,h3⟩]
theorem zh9 {s:List Bx} {e:Ev} (hm:mayE e) (h7:e.k≠7) (hf:fulT s=false) (hk:¬(keyB s=true∧e.k≠3)) (hr:zde e):zbp ⟨s,false⟩ e=(([],7),⟨s,false⟩):=by
 unfold zbp;rw[if_neg (by simp[hm]),if_neg h7,if_neg (by simp[hf]),if_neg hk,if_pos hr]
theorem zj3 {s:List Bx} {e:Ev} (hm:mayE e) (h56:e.k=5∨e.k=6) (hf:fulT s=false) (hk:keyB s=false) (hr:¬zde e):zbp ⟨s,false⟩ e=((zcb e,0),⟨⟨decide (e.k=6),e.c,0⟩::incB s,false⟩):=by
 unfold zbp;rw[if_neg (by simp[hm]),if_neg (by omega),if_neg (by simp[hf]),if_neg (by simp[hk]),if_neg hr,if_pos h56]
theorem znn {s:List Bx} {e:Ev} (hm:mayE e) (h7:e.k≠7) (h56:¬(e.k=5∨e.k=6)) (hf:fulT s=false) (hk:¬(keyB s=true∧e.k≠3)) (hr:¬zde e):zbp ⟨s,false⟩ e=((zcb e,0),⟨incB s,s.isEmpty⟩):=by
 unfold zbp;rw[if_neg (by simp[hm]),if_neg h7,if_neg (by simp[hf]),if_neg hk,if_neg hr,if_neg h56]
end
section
open Go.Lib
def sizG (e:Ev):Nat:=1+(zfi e).t.size
structure Cn where
 m:Bool
 c:Int
 at_:Nat
 n:Nat
deriving DecidableEq
def cntE (x:Cn):Ev:=⟨if x.m=true then 6 else 5,false,0,⟨#[]⟩,if x.c≠ -1 then x.c else if x.m=true then((x.n/2:Nat):Int) else(x.n:Int)⟩
inductive Gs
 | bad
 | live (z:Nat) (H:List Ev) (op:List Cn)
def gs0:Gs:= .live 0 [] []
def opnE (e:Ev):Prop:=(e.k=5∨e.k=6)∧e.c= -1
instance (e:Ev):Decidable (opnE e):=by unfold opnE;infer_instance
def incN:List Cn→List Cn
 | []=>[]
 | x::r=>⟨x.m,x.c,x.at_,x.n+1⟩::r
def zim (H:List Ev):List Cn→List Ev
 | []=>H
 | x::_=>H.set x.at_ (cntE x)
def zox (e:Ev) (n:Nat) (op:List Cn):List Cn:=if e.k=7 then op.tail else if e.k=5∨e.k=6 then⟨decide (e.k=6),e.c,n,0⟩::incN op else incN op
def zpl (e:Ev) (H:List Ev) (op:List Cn):List Ev:=(if e.k=7 then zim H op else H)++[e]
structure Gr where
 s:Gs
 l:List Ev
 e:Nat
def zgh (lim:Nat):Gs→Ev→Gr
  | .bad,_=>⟨.bad,[],10⟩
  | .live z H op,e =>
    if op=[]∧¬opnE e then⟨.live z H op,[e],0⟩
    else if e.k=7∧op.length=1 then⟨gs0,zim H op++[e],0⟩
    else if lim<z+sizG e then⟨.bad,[],10⟩
    else⟨.live (z+sizG e) (zpl e H op) (zox e H.length op),[],0⟩
def zale:Gs→Nat
 | .bad=>0
 | .live z _ _=>z
def zafv:Gs→Bool
 | .bad=>false
 | .live _ H _=>decide (H.length=0)
def WfG (lim:Nat):Gs→Prop
 | .bad=>True
 | .live z H op=>z≤lim∧H.length≤z∧op.length≤H.length∧∀x∈op,x.at_<H.length∧x.n≤H.length
theorem zh8 (H:List Ev) (op:List Cn):(zim H op).length=H.length:=by
 cases op <;>simp[zim]
theorem zdl (e:Ev) (H:List Ev) (op:List Cn):(zpl e H op).length=H.length+1:=by
 unfold zpl;split <;>simp[zh8]
theorem zfz (e:Ev):1≤sizG e:=by unfold sizG;omega
theorem zd9 (op:List Cn):(incN op).length=op.length:=by cases op <;>rfl
theorem zqs {op:List Cn} {N:Nat} (h:∀x∈op,x.at_<N∧x.n≤N):∀x∈incN op,x.at_<N+1∧x.n≤N+1:=by
  cases op with
  | nil=>intro x hx;simp[incN] at hx
  | cons y r =>
    intro x hx;simp only[incN,List.mem_cons] at hx;rcases hx with rfl|hx
    · have:=h y (by simp);simp only;omega
    · have:=h x (by simp[hx]);omega
theorem zadd {lim:Nat} {s:Gs} (h:WfG lim s) (e:Ev):WfG lim (zgh lim s e).s:=by
  cases s with
  | bad=>trivial
  | live z H op =>
    obtain⟨h1,h2,h3,h4⟩:=h;simp only[zgh];split
    · exact⟨h1,h2,h3,h4⟩
    · split
      · exact⟨Nat.zero_le _,Nat.le_refl _,Nat.le_refl _,fun x hx=>by simp at hx⟩
      · split
        · trivial
        · have:=zfz e
          refine⟨by omega,by rw[zdl];omega,?_,?_⟩
          · rw[zdl]
            unfold zox;split
            · simp;omega
            · split
              · simp[zd9];omega
              · rw[zd9];omega
          · rw [zdl]
            unfold zox;split
            · intro x hx
              have:=h4 x (List.mem_of_mem_tail hx);omega
            · split
              · intro x hx
                rcases List.mem_cons.1 hx with rfl|hx
                · simp
                · exact zqs h4 x hx
              · exact zqs h4
theorem zaj8 (lim:Nat):WfG lim gs0:=⟨Nat.zero_le _,Nat.le_refl _,Nat.le_refl _,fun x hx=>by simp at hx⟩
end
section
open Go.RowKit
open Go.Lib
def kcB (b:Bx):List Value:=[.bool b.map,.int .i64 b.c,.int .i64 (b.have_:Int)]
def kcL:List Bx→List Value
 | []=>[]
 | b::r=>kcL r++kcB b
theorem zdu:∀s:List Bx,(kcL s).length=s.length*3
 | []=>rfl
 | b::r=>by rw[kcL,List.length_append,zdu r];simp[kcB];omega
def WfQ (s:List Bx):Prop:=∀b∈s, -1≤b.c∧b.c≤9223372036854775807∧(0≤b.c→(b.have_:Int)≤if b.map=true then 2*b.c else b.c)
theorem WfQ.tail {x:Bx} {r:List Bx} (h:WfQ (x::r)):WfQ r:=fun b hb=>h b (List.mem_cons_of_mem _ hb)
theorem WfQ.inc {s:List Bx} (h:WfQ s) (hf:fulT s=false):WfQ (incB s):=by
  cases s with
  | nil=>exact h
  | cons x r =>
    intro b hb;simp only[incB,List.mem_cons] at hb;rcases hb with rfl|hb
    · obtain⟨h1,h2,_⟩:=h x (by simp)
      simp only[fulT,decide_eq_false_iff_not] at hf;refine⟨h1,h2,fun h0=> ?_⟩;have h0:0≤x.c:=h0;have:¬(if x.map=true then 2*x.c else x.c)≤(x.have_:Int):=fun hh=>hf ⟨h0,hh⟩
      show((x.have_+1:Nat):Int)≤if x.map=true then 2*x.c else x.c
      omega
    · exact h b (List.mem_cons_of_mem _ hb)
def dpQ (s:List Bx):Nat:=max s.length (s.foldr (fun b m=>max b.have_ m) 0)
theorem zj0 (s:List Bx):s.length≤dpQ s:=Nat.le_max_left _ _
theorem zx3:∀(s:List Bx) (b:Bx),b∈s→b.have_≤s.foldr (fun b m=>max b.have_ m) 0
  | x::r,b,h=>by
    rw[List.foldr_cons];rcases List.mem_cons.1 h with rfl|h
    · exact Nat.le_max_left _ _
    · exact Nat.le_trans (zx3 r b h) (Nat.le_max_right _ _)
theorem zpf {s:List Bx} {b:Bx} (h:b∈s):b.have_≤dpQ s:=Nat.le_trans (zx3 s b h) (Nat.le_max_right _ _)
theorem zagq (x:Bx) (r:List Bx):dpQ r≤dpQ (x::r):=by
 unfold dpQ;simp only[List.length_cons,List.foldr_cons];omega
theorem zaf2 (s:List Bx):dpQ (incB s)≤dpQ s+1:=by
  cases s with
  | nil=>exact Nat.le_succ _
  | cons x r =>
    unfold dpQ;simp only[incB,List.length_cons,List.foldr_cons];omega
theorem zagf (s:List Bx) (m:Bool) (c:Int):dpQ (⟨m,c,0⟩::incB s)≤dpQ s+1:=by
  cases s with
  | nil=>simp[dpQ,incB]
  | cons x r =>
    unfold dpQ;simp only[incB,List.length_cons,List.foldr_cons];omega
theorem zacs (q:Kq) (e:Ev):dpQ (zb0 q e).2.s≤dpQ q.s+1:=by
  unfold zb0;split
  · exact Nat.le_succ _
  · split
    · split
      · exact Nat.le_succ _
      · rename_i b r hs
        split
        · exact Nat.le_succ _
        · rw[hs]
          exact Nat.le_trans (zagq b r) (Nat.le_succ _)
    · split
      · exact Nat.le_succ _
      · split
        · exact Nat.le_succ _
        · split
          · exact zagf _ _ _
          · exact zaf2 _
theorem zahv:(Tryz.prog.info? 284).map (fun i=>(i.zero,i.size,i.bytes))=some (some (.agg #[.bool false,.int .i64 0,.int .i64 0]),3,24):=by kernel_rfl
def hasK (m:Bool) (c:Int) (h:Nat):Bool:=decide (((if m=true then h/2 else h:Nat):Int)=c)
theorem zahr {b:Bx} (h1: -1≤b.c) (h2:0≤b.c→(b.have_:Int)≤if b.map=true then 2*b.c else b.c):hasK b.map b.c b.have_=decide (0≤b.c∧(if b.map=true then 2*b.c else b.c)≤(b.have_:Int)):=by
 obtain⟨m,c,h⟩:=b;simp only at h1 h2;unfold hasK;simp only;rw[Bool.eq_iff_iff,decide_eq_true_eq,decide_eq_true_eq];cases m <;>simp at h2 ⊢ <;>omega
theorem zuw {b:Bx} (h1: -1≤b.c) (h2:0≤b.c→(b.have_:Int)≤if b.map=true then 2*b.c else b.c):(if b.c= -1 then !(b.map&&decide (b.have_%2=1)) else hasK b.map b.c b.have_)=decide (¬zet b):=by
 obtain⟨m,c,h⟩:=b;simp only at h1 h2;unfold hasK zet;simp only;rw[Bool.eq_iff_iff,decide_eq_true_eq];by_cases hc:c= -1
 ·subst hc
  rw[if_pos rfl];cases m <;>simp
 ·rw[if_neg hc,decide_eq_true_eq]
  cases m <;>simp at h2 ⊢ <;>omega
theorem zku (m:Bool) (c:Int) (h:Nat) (w:World) :
    Calls Tryz.prog 269 #[.agg #[.bool m,.int .i64 c,.int .i64 (h:Int)]] w fun r w'=>r= .returned (.bool (m&&decide (h%2=1)))∧Below w.heap.size w w':=by
  have hz:((h:Int)%2 !=0)=decide (h%2=1):=by
    rw[Bool.eq_iff_iff,bne_iff_ne,decide_eq_true_eq];omega
  go_enter Tryz.func269,Tryz.ntmps269;cases m with
  | false =>
    go_wp2;go_ret;exact⟨rfl,zaa (Below.refl _ _) _⟩
  | true =>
    go_wp2;go_ret;exact⟨rfl,zaa (Below.refl _ _) _⟩
theorem zrb (m:Bool) (c:Int) (h:Nat) (hh:h≤1000000) (w:World) :
    Calls Tryz.prog 268 #[.agg #[.bool m,.int .i64 c,.int .i64 (h:Int)]] w fun r w'=>r= .returned (.bool (hasK m c h))∧Below w.heap.size w w':=by
  unfold hasK;cases m with
  | false =>
    have hz:((h:Int)==c)=decide ((h:Int)=c):=by
      rw[Bool.eq_iff_iff,beq_iff_eq,decide_eq_true_eq]
    simp only[Bool.false_eq_true,if_false];rw[← hz];clear hz;go_enter Tryz.func268,Tryz.ntmps268;go_wp2;go_ret;exact⟨rfl,zaa (Below.refl _ _) _⟩
  | true =>
    simp only[if_true];have hz:((h:Int)/2==c)=decide (((h/2:Nat):Int)=c):=by
      rw[Bool.eq_iff_iff,beq_iff_eq,decide_eq_true_eq,Int.natCast_ediv];rfl
    have hw:IntKind.i64.wrap ((h:Int)/2)=(h:Int)/2:=by simp only[IntKind.wrap_i64];omega
    rw[← hz];clear hz;go_enter Tryz.func268,Tryz.ntmps268;go_wp2;go_ret;exact⟨rfl,zaa (Below.refl _ _) _⟩
end
section
open Go.RowKit
open Go.Lib
theorem zacq (m:Bool) (c:Int) (h:Nat) (hh:h≤1000000) (w:World) :
  Calls Tryz.prog 276 #[.agg #[.bool m,.int .i64 c,.int .i64 (h:Int)]] w fun r w'=>r= .returned (.bool (if c= -1 then !(m&&decide (h%2=1)) else hasK m c h))∧Below w.heap.size w w':=by
 have HL:=hid (fun(W:World)=>zku m c h W);have HH:=hid (fun(W:World)=>zrb m c h hh W);by_cases hc:c= -1
 ·subst hc
  rw[if_pos rfl];generalize (m&&decide (h%2=1))=K at *
  go_enter Tryz.func276,Tryz.ntmps276;(go_wp2_with fail);refine(HL.out _).mono ?_;rintro r w1 ⟨rfl,b1⟩;have B1:=hid (zab (zaa (Below.refl _ _) _) b1);clear b1;go_wp2;go_ret;exact⟨rfl,B1.out⟩
 ·rw[if_neg hc]
  have hz:(c== -1)=false:=by rw[beq_eq_false_iff_ne];exact hc
  generalize hasK m c h=K at *
  clear hc;go_enter Tryz.func276,Tryz.ntmps276;(go_wp2_with fail);refine(HH.out _).mono ?_;rintro r w1 ⟨rfl,b1⟩;have B1:=hid (zab (zaa (Below.refl _ _) _) b1);clear b1;go_wp2;go_ret;exact⟨rfl,B1.out⟩
theorem zgq {w:World} {v:Value} {b:Bx} {r:List Bx} (h:Win w 284 3 v (r.length+1) (kcL r++kcB b)) :
    ∃ g off cap,v= .slice (some ⟨g,off,none⟩) (r.length+1) cap ∧
      (w.cell? ⟨g,off+r.length*3,none⟩=some (.bool b.map)∧w.cell? ⟨g,off+r.length*3+1,none⟩=some (.int .i64 b.c)∧w.cell? ⟨g,off+r.length*3+2,none⟩=some (.int .i64 (b.have_:Int))) ∧
      (w.frozen? ⟨g,off+r.length*3,none⟩=false∧w.frozen? ⟨g,off+r.length*3+1,none⟩=false∧w.frozen? ⟨g,off+r.length*3+2,none⟩=false):=by
  obtain⟨g,off,cap,rfl,h1,h2,_,_,h3⟩:=h.form (by simp);have hl:=zdu r;have hx:∀j u,(kcB b)[j]? = some u→w.cell? ⟨g,off+(r.length*3+j),none⟩=some u∧w.frozen? ⟨g,off+(r.length*3+j),none⟩=false:=fun j u hu=>by
    refine h3 _ u ?_;rw[← hl,List.getElem?_append_right (by omega),Nat.add_sub_cancel_left];exact hu
  have x0:=hx 0 _ rfl;have x1:=hx 1 _ rfl;have x2:=hx 2 _ rfl;simp only[← Nat.add_assoc,Nat.add_zero] at x0 x1 x2;exact⟨g,off,cap,rfl,⟨x0.1,x1.1,x2.1⟩,⟨x0.2,x1.2,x2.2⟩⟩
theorem zaev (x:Bx) (r:List Bx):keyB (x::r)=(x.map&& !decide (x.have_%2=1)):=by
 simp only[keyB];rw[Bool.eq_iff_iff];simp
theorem zadz {w:World} {v:Value} {s:List Bx} (h:Win w 284 3 v s.length (kcL s)) (hd:s.length≤1000) :
    Calls Tryz.prog 261 #[v] w fun r w'=>r= .returned (.bool (keyB s))∧Below w.heap.size w w':=by
  cases s with
  | nil =>
    obtain⟨a,cp,rfl,_,_⟩:=h.slice_form;clear h;go_enter Tryz.func261,Tryz.ntmps261;go_wp2;go_ret;exact⟨rfl,Below.refl _ _⟩
  | cons x r =>
    obtain⟨g,off,cap,rfl,⟨c0,c1,c2⟩,⟨f0,f1,f2⟩⟩:=zgq h;rw[zaev];obtain⟨m,c,k⟩:=x;simp only[List.length_cons] at *
    have HL:=hid (fun(W:World)=>zku m c k W);clear h;generalize r.length=n at *
    have hwn:wrap64 (n:Int)=(n:Int):=by unfold wrap64;omega
    have hwn2:IntKind.i64.wrap (n:Int)=(n:Int):=by simp only[IntKind.wrap_i64];omega
    have hz:((n:Int)≥0)=True:=by simp
    generalize decide (k%2=1)=K at *
    cases m with
    | false =>
      go_enter Tryz.func261,Tryz.ntmps261;go_wp2;go_ret;exact⟨rfl,Below.refl _ _⟩
    | true =>
      go_enter Tryz.func261,Tryz.ntmps261;(go_wp2_with fail);refine(HL.out _).mono ?_;rintro r w1 ⟨rfl,b1⟩;have B1:=hid b1;clear b1;go_wp2;go_ret;exact⟨by simp,B1.out⟩
theorem zaa4 {w:World} {v:Value} {s:List Bx} (h:Win w 284 3 v s.length (kcL s)) (hd:dpQ s≤1000) (hw:WfQ s) :
    Calls Tryz.prog 260 #[v] w fun r w'=>r= .returned (.bool (fulT s))∧Below w.heap.size w w':=by
  have hl:=zj0 s;cases s with
  | nil =>
    obtain⟨a,cp,rfl,_,_⟩:=h.slice_form;clear h;go_enter Tryz.func260,Tryz.ntmps260;go_wp2;go_ret;exact⟨rfl,Below.refl _ _⟩
  | cons x r =>
    obtain⟨g,off,cap,rfl,⟨c0,c1,c2⟩,⟨f0,f1,f2⟩⟩:=zgq h;have hwx:=hw x (by simp);have hdx:=zpf (s:=x::r) (b:=x) (by simp);have he:fulT (x::r)=hasK x.map x.c x.have_:=(zahr hwx.1 hwx.2.2).symm;rw[he];have HL:=hid (fun(W:World)=>zrb x.map x.c x.have_ (by omega) W);obtain⟨m,c,k⟩:=x;simp only[List.length_cons] at *
    generalize hasK m c k=K at *
    have HD:=hid hd;clear h hw hwx hdx he hd;generalize r.length=n at *
    have hln:n+1≤1000:=Nat.le_trans hl HD.out;clear hl;have hwn:wrap64 (n:Int)=(n:Int):=by unfold wrap64;omega
    have hwn2:IntKind.i64.wrap (n:Int)=(n:Int):=by simp only[IntKind.wrap_i64];omega
    have hz:((n:Int)≥0)=True:=by simp
    go_enter Tryz.func260,Tryz.ntmps260;(go_wp2_with fail);refine(HL.out _).mono ?_;rintro r w1 ⟨rfl,b1⟩;have B1:=hid b1;clear b1;go_wp2;go_ret;exact⟨by simp,B1.out⟩
def mayQ:List Bx→Bool
 | []=>false
 | b::_=>decide (¬zet b)
theorem zael {w:World} {v:Value} {s:List Bx} (h:Win w 284 3 v s.length (kcL s)) (hd:dpQ s≤1000) (hw:WfQ s) :
    Calls Tryz.prog 267 #[v] w fun r w'=>r= .returned (.bool (mayQ s))∧Below w.heap.size w w':=by
  have hl:=zj0 s;cases s with
  | nil =>
    obtain⟨a,cp,rfl,_,_⟩:=h.slice_form;clear h;go_enter Tryz.func267,Tryz.ntmps267;go_wp2;go_ret;exact⟨rfl,Below.refl _ _⟩
  | cons x r =>
    obtain⟨g,off,cap,rfl,⟨c0,c1,c2⟩,⟨f0,f1,f2⟩⟩:=zgq h;have hwx:=hw x (by simp);have hdx:=zpf (s:=x::r) (b:=x) (by simp);have he:mayQ (x::r)=(if x.c= -1 then !(x.map&&decide (x.have_%2=1)) else hasK x.map x.c x.have_):=(zuw hwx.1 hwx.2.2).symm;rw[he];have HL:=hid (fun(W:World)=>zacq x.map x.c x.have_ (by omega) W);generalize (if x.c= -1 then !(x.map&&decide (x.have_%2=1)) else hasK x.map x.c x.have_)=K at *
    obtain⟨m,c,k⟩:=x;simp only[List.length_cons] at *
    have HD:=hid hd;clear h hw hwx hdx he hd;generalize r.length=n at *
    have hln:n+1≤1000:=Nat.le_trans hl HD.out;clear hl;have hwn:wrap64 (n:Int)=(n:Int):=by unfold wrap64;omega
    have hwn2:IntKind.i64.wrap (n:Int)=(n:Int):=by simp only[IntKind.wrap_i64];omega
    have hz:((n:Int)≥0)=True:=by simp
    go_enter Tryz.func267,Tryz.ntmps267;(go_wp2_with fail);refine(HL.out _).mono ?_;rintro r w1 ⟨rfl,b1⟩;have B1:=hid b1;clear b1;go_wp2;go_ret;exact⟨by simp,B1.out⟩
theorem zyo {w:World} {m:Bool} {c:Int} {k k':Nat} {r:List Bx} {g off cap n:Nat} (_:n=r.length+1) (h:Win w 284 3 (.slice (some ⟨g,off,none⟩) n cap) n (kcL r++kcB ⟨m,c,k⟩)) :
  Win (w.setCell ⟨g,off+r.length*3+2,none⟩ (.int .i64 (k':Int))) 284 3 (.slice (some ⟨g,off,none⟩) n cap) n (kcL r++kcB ⟨m,c,k'⟩):=by
 have hw:=h.store (r.length*3+2) (by rw[List.length_append,zdu];simp[kcB]) (.int .i64 (k':Int));have hx:(kcL r++kcB ⟨m,c,k⟩).set (r.length*3+2) (.int .i64 (k':Int))=kcL r++kcB ⟨m,c,k'⟩:=by
  rw[← zdu,List.set_append,if_neg (by omega),Nat.add_sub_cancel_left];rfl
 rw[hx,← Nat.add_assoc] at hw;exact hw
theorem zud {w:World} {v:Value} {s:List Bx} (h:Win w 284 3 v s.length (kcL s)) (hd:dpQ s≤1000) :
    Calls Tryz.prog 263 #[v] w fun r w'=>r= .returned (.tuple #[])∧Win w' 284 3 v s.length (kcL (incB s))∧Step (Value.owner v) (Value.owner v) w w':=by
  have hl:=zj0 s;cases s with
  | nil =>
    have HH:=hid h;obtain⟨a,cp,rfl,_,_⟩:=h.slice_form;clear h;go_enter Tryz.func263,Tryz.ntmps263;go_wp2
    go_end0
    exact⟨rfl,HH.out,Step.refl _ _⟩
  | cons x r =>
    obtain⟨g,off,cap,rfl,⟨c0,c1,c2⟩,⟨f0,f1,f2⟩⟩:=zgq h;have hdx:=zpf (s:=x::r) (b:=x) (by simp);obtain⟨m,c,k⟩:=x;simp only[List.length_cons,incB] at *
    have HS:=hid (zyo (k':=k+1) rfl h);have hk:k≤1000:=Nat.le_trans hdx hd;have hln:r.length+1≤1000:=Nat.le_trans hl hd;clear h hdx hd hl;simp only[kcL];generalize kcL r++kcB ⟨m,c,k+1⟩=XS at *
    generalize r.length=n at *
    have hw:IntKind.i64.wrap ((k:Int)+1)=(k:Int)+1:=by simp only[IntKind.wrap_i64];omega
    have hwn:wrap64 (n:Int)=(n:Int):=by unfold wrap64;omega
    have hwn2:IntKind.i64.wrap (n:Int)=(n:Int):=by simp only[IntKind.wrap_i64];omega
    have hz:((n:Int)≥0)=True:=by simp
    go_enter Tryz.func263,Tryz.ntmps263;go_wp2
    go_end0
    exact⟨rfl,HS.out,zal _ _ _ _ (by simp[Value.owner])⟩
end
section
open Go.RowKit
open Go.Lib
structure QAt (w:World) (b o:Nat) (F:List Nat) (q:Kq):Prop where
 cells:∃a cp,At w b o [.slice a q.s.length cp,.bool q.dn]∧Win w 284 3 (.slice a q.s.length cp) q.s.length (kcL q.s)∧Value.owner (.slice a q.s.length cp)=F
 blk:∃cs t fr,w.heap[b]? = some (.cells cs t fr)∧t≠284
 fin:q.dn=true→q.s=[]
 wf:WfQ q.s
theorem QAt.lt {w:World} {b o:Nat} {F:List Nat} {q:Kq} (h:QAt w b o F q):b<w.heap.size:=by
 obtain⟨cs,t,fr,hc,_⟩:=h.blk;exact(Array.getElem?_eq_some_iff.1 hc).1
theorem QAt.row {w:World} {b o:Nat} {F:List Nat} {q:Kq} (h:QAt w b o F q):∀k∈F,k<w.heap.size∧k≠b∧∃cur,w.heap[k]? = some (.cells cur 284 (0,0)):=by
 obtain⟨a,cp,_,hW,hF⟩:=h.cells;obtain⟨cs,t,fr,hc,ht⟩:=h.blk;subst hF;exact fun k hk=>⟨hW.lt k hk,fun e=>hW.apart hc (fun e'=>ht e'.symm) (e▸hk),hW.typed k hk⟩
theorem QAt.keep {w w':World} {b o:Nat} {F:List Nat} {q:Kq} (h:QAt w b o F q) (hk:∀k,k=b∨k∈F→w'.heap[k]? = w.heap[k]?):QAt w' b o F q:=by
 obtain⟨a,cp,hA,hW,hF⟩:=h.cells;obtain⟨cs,t,fr,hc,ht⟩:=h.blk;exact⟨⟨a,cp,hA.keep (hk b (.inl rfl)),hW.keep (fun k ho=>hk k (.inr (hF▸ho))),hF⟩,⟨cs,t,fr,(hk b (.inl rfl)).trans hc,ht⟩,h.fin,h.wf⟩
theorem QAt.go {w w':World} {b o:Nat} {F:List Nat} {q:Kq} (h:QAt w b o F q) (k:Below w.heap.size w w'):QAt w' b o F q :=
 h.keep fun i hi=>k.block i (hi.elim (fun e=>e▸h.lt) (fun hi=>(h.row i hi).1))
theorem QAt.drewN {w:World} {b o:Nat} {F:List Nat} {q:Kq} (h:QAt w b o F q) (n:Nat):QAt (w.drewN n) b o F q:=h.keep fun _ _=>rfl
theorem QAt.alloc {w:World} {b o:Nat} {F:List Nat} {q:Kq} (h:QAt w b o F q) (x:Obj):QAt (w.alloc x) b o F q:=h.go (zaa (Below.refl _ _) x)
theorem zxx {w:World} {b o:Nat} {F:List Nat} {x:Bx} {r:List Bx} {a':Option Addr} {c':Nat} (h:QAt w b o F ⟨x::r,false⟩) (hW:Win w 284 3 (.slice a' r.length c') r.length (kcL r)) (hO:Value.owner (.slice a' r.length c')=F) :
  QAt (w.setCell ⟨b,o,none⟩ (.slice a' r.length c')) b o F ⟨r,false⟩∧Jf b o F F w (w.setCell ⟨b,o,none⟩ (.slice a' r.length c')):=by
 obtain⟨a,cp,hA,_,_⟩:=h.cells;obtain⟨cs,t,fr,hc,ht⟩:=h.blk;have hap:b∉Value.owner (.slice a' r.length c'):=hW.apart hc (fun e=>ht e.symm);have hset:=hA.set 0 (by simp) (.slice a' r.length c');refine⟨⟨⟨a',c',by simpa using hset,hW.setCell_far hap _,hO⟩,⟨_,t,fr,zai w ⟨b,o,none⟩ _ _ _ _ rfl hc,ht⟩,fun e=>(by cases e),h.wf.tail⟩,(Jf.refl b o F w).set o _ (by omega)⟩
theorem zakw {w:World} {b o:Nat} {F:List Nat} {x:Bx} {r:List Bx} (h:QAt w b o F ⟨x::r,false⟩) (hs:r.length≤999) :
    Calls Tryz.prog 270 #[.pointer (some ⟨b,o,none⟩)] w fun q w'=>q= .returned (.bool (x.c != -1))∧QAt w' b o F ⟨r,false⟩∧Jf b o F F w w':=by
  have hfin:∃a cp,(w.cell? ⟨b,o,none⟩=some (.slice a (r.length+1) cp)∧w.frozen? ⟨b,o,none⟩=false)∧(∃g off,a=some ⟨g,off,none⟩∧w.cell? ⟨g,off+r.length*3+1,none⟩=some (.int .i64 x.c)) ∧
      ∃ a' c',(∀W,(Instr.slice 106 (.slice a (r.length+1) cp) none (some (.int .i64 (r.length:Int))) none).run Tryz.prog W= .ok (.slice a' r.length c') W) ∧
        QAt (w.setCell ⟨b,o,none⟩ (.slice a' r.length c')) b o F ⟨r,false⟩∧Jf b o F F w (w.setCell ⟨b,o,none⟩ (.slice a' r.length c')):=by
    obtain⟨a,cp,hA,hW,hF⟩:=h.cells;obtain⟨⟨c0,f0⟩,⟨c1,f1⟩⟩:=zb6 hA;obtain⟨v',hsl,hw',ho'⟩:=hW.hi (P:=Tryz.prog) (t:=106) Tryz.underlying106 (fun w=>by kernel_rfl) r.length (by simp);simp only at hw' hsl;simp only[kcL] at hw';rw[← zdu,List.take_left] at hw';obtain⟨a',c',rfl,_,_⟩:=hw'.slice_form;obtain⟨g,off,cap,hv,⟨_,x1,_⟩,_⟩:=zgq (r:=r) (b:=x) hW;cases hv;refine⟨_,cp,⟨c0,f0⟩,⟨g,off,rfl,x1⟩,a',c',hsl,?_⟩;exact zxx h hw' (ho'.trans hF)
  have hl:IntKind.i64.wrap (r.length:Int)=(r.length:Int):=by simp only[IntKind.wrap_i64];omega
  have hl2:wrap64 (r.length:Int)=(r.length:Int):=by unfold wrap64;omega
  obtain⟨xm,xc,xh⟩:=x;simp only at *
  have HFI:=hid hfin;generalize r.length=n' at *
  clear h hfin;obtain⟨a,cp,⟨y1,y2⟩,⟨g,off,rfl,y3⟩,a',c',hsl,hE⟩:=HFI.out;have HE:=hid hE;clear hE HFI;go_enter Tryz.func270,Tryz.ntmps270;go_wp2;go_ret;exact⟨rfl,HE.out⟩
theorem zs4 {w W w3:World} {b o n cp c3:Nat} {a a3:Option Addr} {F:List Nat} {s:List Bx} {m:Bool} {c:Int} {ob:Obj} (h:QAt w b o F ⟨s,false⟩) (hn:s.length=n) (hA:At w b o [.slice a n cp,.bool false]) (hF:Value.owner (.slice a n cp)=F) (k:Below w.heap.size w W) (hc: -1≤c∧c≤9223372036854775807)
    (hW:Win w3 284 3 (.slice a3 (n+1) c3) (n+1) (kcL s++[.bool m,.int .i64 c,.int .i64 0])) (hG:(W.alloc ob).drew.grownBy w3 (Value.slice a n cp).ownBlock) (hO:(Value.slice a3 (n+1) c3).ownBlock=(Value.slice a n cp).ownBlock∨(Value.slice a3 (n+1) c3).ownBlock=some (W.alloc ob).drew.heap.size∧(W.alloc ob).drew.heap.size<w3.heap.size) :
    (w3.cell? ⟨b,o,none⟩=some (.slice a n cp)∧w3.frozen? ⟨b,o,none⟩=false)∧∃F',QAt (w3.setCell ⟨b,o,none⟩ (.slice a3 (n+1) c3)) b o F' ⟨⟨m,c,0⟩::s,false⟩∧Jf b o F F' w (w3.setCell ⟨b,o,none⟩ (.slice a3 (n+1) c3)):=by
  have hb:=h.lt;obtain⟨cs,t,fr,hcb,ht⟩:=h.blk;have hbF:b∉F:=fun hk=>(h.row b hk).2.1 rfl
  have hnb:(Value.slice a n cp).ownBlock≠some b:=fun e=>hbF (hF▸(zad _ _).1 e)
  have hsz:w.heap.size≤W.heap.size:=k.size;have hold:∀i,i<w.heap.size→i∉F→w3.heap[i]? = w.heap[i]? := by
    intro i hi hiF;refine(hG.block i (by show i<(W.alloc ob).heap.size;simp;omega) (fun e=>hiF (hF▸(zad _ _).1 e.symm))).trans ?_;exact(Below.heap_alloc W ob i (by omega)).trans (k.block i hi)
  have hblk:=hold b hb hbF;have A3:=hA.keep hblk;have hw3:w3.heap[b]? = some (.cells cs t fr):=hblk.trans hcb;have hap3:b∉Value.owner (.slice a3 (n+1) c3):=hW.apart hw3 (fun e=>ht e.symm);have hset:=A3.set 0 (by simp) (.slice a3 (n+1) c3);refine⟨A3 0 _ rfl,Value.owner (.slice a3 (n+1) c3),⟨⟨a3,c3,?_,?_,?_⟩,⟨_,t,fr,zai w3 ⟨b,o,none⟩ _ _ _ _ rfl hw3,ht⟩,fun e=>(by cases e),fun x hx=> ?_⟩,?_⟩
  · simp only[List.length_cons,hn]
    simpa using hset
  · simp only[List.length_cons,hn]
    exact hW.setCell_far hap3 _
  · simp only[List.length_cons,hn]
  · simp only[List.mem_cons] at hx
    rcases hx with rfl|hx
    · refine⟨hc.1,hc.2,fun h0=> ?_⟩
      have h0:0≤c:=h0;show((0:Nat):Int)≤if m=true then 2*c else c
      split <;>omega
    · exact h.wf x hx
  · have hstep:Step (b::F) (b::Value.owner (.slice a3 (n+1) c3)) w w3:=by
      refine⟨hG.os.trans k.os,hG.tape.trans ?_,hG.output.trans k.output,Nat.le_trans ?_ hG.size,fun i hi hiF=>hold i hi (fun e=>hiF (List.mem_cons_of_mem _ e)),fun i hi=> ?_⟩
      · exact k.tape
      · show w.heap.size≤(W.alloc ob).heap.size
        simp;omega
      · rcases List.mem_cons.1 hi with rfl|hi
        · exact .inl (by simp)
        · rcases hO with e|⟨e,_⟩
          · left
            refine List.mem_cons_of_mem _ ?_;rw[← hF];exact(zad _ _).1 (e▸(zad _ _).2 hi)
          · right
            have h2:=(zad _ _).2 hi;rw[e] at h2;cases h2;show w.heap.size≤(W.alloc ob).heap.size;simp;omega
    have hj:Jf b o F (Value.owner (.slice a3 (n+1) c3)) w w3:=⟨hstep,fun c1 t1 fr1 h1=>⟨c1,hblk.trans h1,rfl⟩,fun i _=>World.cell?_of_block (w:=w) hblk⟩
    exact hj.set o _ (by omega)
theorem zaju {w:World} {b o:Nat} {F:List Nat} {s:List Bx} (h:QAt w b o F ⟨s,false⟩) (hs:s.length≤1000) (m:Bool) (c:Int) (hc: -1≤c∧c≤9223372036854775807) :
  Calls Tryz.prog 264 #[.pointer (some ⟨b,o,none⟩),.agg #[.bool m,.int .i64 c]] w fun e w'=>e= .returned (.tuple #[])∧∃F',QAt w' b o F' ⟨⟨m,c,0⟩::s,false⟩∧Jf b o F F' w w':=by
 have hb:=h.lt;obtain⟨n,hn⟩:∃n,s.length=n:=⟨_,rfl⟩
 have hbel:Below w.heap.size w (w.alloc (.cells #[.bool m,.int .i64 c] 166)):=zaa (Below.refl _ _) _;have E2:Hid (Blk (w.alloc (.cells #[.bool m,.int .i64 c] 166)) w.heap.size #[.bool m,.int .i64 c] 166):=hid (zag w #[.bool m,.int .i64 c] 166);obtain⟨a,cp,hA,hWin,hF⟩:=h.cells;simp only[hn] at hA hWin hF;have hA2:=hA.keep (w':=(w.alloc (.cells #[.bool m,.int .i64 c] 166))) (hbel.block b hb);have WD:∀x,Hid (Win (((w.alloc (.cells #[.bool m,.int .i64 c] 166))).alloc x).drew 284 3 (.slice a n cp) n (kcL s)):=fun x=>hid ((hWin.alloc _).alloc x)
 have h5:(w.alloc (.cells #[.bool m,.int .i64 c] 166)).cell? ⟨b,o,none⟩=some (.slice a n cp):=(hA2 0 _ rfl).1;have f5:∀x,((w.alloc (.cells #[.bool m,.int .i64 c] 166)).alloc x).cell? ⟨b,o,none⟩=some (.slice a n cp):=fun x=>((hA2.alloc (by simp) x) 0 _ rfl).1
 have h0:(w.alloc (.cells #[.bool m,.int .i64 c] 166)).cell? ⟨w.heap.size,0,none⟩=some (.bool m):=E2.out.cell 0;have h1:(w.alloc (.cells #[.bool m,.int .i64 c] 166)).cell? ⟨w.heap.size,1,none⟩=some (.int .i64 c):=E2.out.cell 1;have e0:∀x,((w.alloc (.cells #[.bool m,.int .i64 c] 166)).alloc x).cell? ⟨w.heap.size,0,none⟩=some (.bool m):=fun x=>(E2.out.alloc x).cell 0
 have e1:∀x,((w.alloc (.cells #[.bool m,.int .i64 c] 166)).alloc x).cell? ⟨w.heap.size,1,none⟩=some (.int .i64 c):=fun x=>(E2.out.alloc x).cell 1
 have HE:=hid (fun(w3:World) (a3:Option Addr) (c3:Nat) ob hW hG hO=>zs4 (w:=w) (W:=(w.alloc (.cells #[.bool m,.int .i64 c] 166))) (w3:=w3) (a3:=a3) (c3:=c3) (m:=m) (c:=c) (ob:=ob) h hn hA hF hbel hc hW hG hO);clear h hbel hA hA2 hb E2 hWin hF;go_enter Tryz.func264,Tryz.ntmps264;go_wp2;generalize (w.alloc (.cells #[.bool m,.int .i64 c] 166))=W at *
 go_region_law (first
  |(refine zax rfl _ _ _ rfl Tryz.underlying106 zahv rfl rfl (WD _).out _ rfl 1 _ (zcl _ Tryz.underlying106 3 1 [.bool m,.int .i64 c,.int .i64 0] 284 _ rfl (by simp[Value.oneCell']) (heap_alloc_new _ _)) (by unfold maxLen;omega) (by omega) ?_;intro v3 w3 hW3 hG3 hO3;obtain⟨a3,c3,rfl,_,_⟩:=Win.slice_form hW3.out;have HP:=hid (HE.out w3 a3 c3 _ hW3.out hG3.out hO3.out);have g0:=HP.out.1.1;have g1:=HP.out.1.2;clear hW3 hG3 hO3))
 all_goals
  go_wp2
  go_end0
  exact⟨rfl,HP.out.2⟩
end
end Go.Proofs.YtpaciekgbhoncaaGreat
