/-
  Parts: JoutC, DecShelf, DecLex, DecFmt, DecDiv, DecPrint, SbS, Bld, EscG, EscH, BaseMach, Sb, BasePut, OutLen, JoutD, Isb.
-/
import Derived.Test.YtpaciekgbhoncaaGreatG0j
import Derived.Shelf.Small.Bits
import Derived.Shelf.Strconv.Itoa0
import Derived.Shelf.Strconv.Itoa1
import Derived.Shelf.LaysM
import Derived.Shelf.Strconv.Itoa2
import Derived.Test.YtpaciekgbhoncaaGreatG0c
import Derived.Test.YtpaciekgbhoncaaGreatG0a
import GoSem.Op.String
import Derived.Lib.ItoaMem
import Derived.WalkKit
import Derived.WalkSpells
import Derived.Below
import Derived.BigCall
import Derived.BigGuard
import Derived.Test.YtpaciekgbhoncaaGreatG0b
import Derived.Shelf.Strings.BuilderF
import Derived.Shelf.Strings.BuilderK
import Derived.Test.YtpaciekgbhoncaaGreatProg
import Derived.Lib.RuneBytes
import Derived.Deep.QuietTactic
import Derived.OwnWalk
import Derived.Laws.RangeAny
import Derived.Shelf.Strings.Builder2
set_option maxRecDepth 100000
set_option maxHeartbeats 16000000
open Go.Lib (hid)
namespace Go.Proofs.YtpaciekgbhoncaaGreat
section
open Go.RowKit
open Go.Lib
theorem zab1 {w:World} {b o:Nat} {F:List Nat} {q:Os} (h:JAt w b o F q) (n:Nat) (hn:n=if q.s=[]∨plO q=1 then 14 else 0) :
    Calls Tryz.prog 221 #[.pointer (some ⟨b,o,none⟩)] w fun r w'=>r= .returned (.int .i64 n)∧w=w':=by
  obtain⟨a,cp,hA,hW,hF⟩:=h.cells;obtain⟨⟨c0,_⟩,⟨c1,_⟩⟩:=zb6 hA;have hp:plO q=0∨plO q=1∨plO q=2:=by
    unfold plO
    repeat' split
    all_goals simp
  obtain⟨s,dn⟩:=q;simp only at *
  clear h hA hW hF;cases s with
  | nil =>
    rw[if_pos (.inl rfl)] at hn;subst hn;simp only[List.length_nil] at c1;generalize plO _=p at *
    go_enter Tryz.func221,Tryz.ntmps221;go_wp2;go_ret;exact⟨rfl,rfl⟩
  | cons x r =>
    simp only[List.length_cons] at c1;have hn1:plO ⟨x::r,dn⟩=1→n=14:=fun e=>by rw[hn,if_pos (.inr e)]
    have hn0:plO ⟨x::r,dn⟩≠1→n=0:=fun e=>by rw[hn,if_neg (fun h=>h.elim (fun h=>by cases h) e)]
    clear hn;generalize plO _=p at *
    generalize r.length=n' at *
    have hz:((n':Int)+1==0)=false:=by rw[beq_eq_false_iff_ne];omega
    rcases hp with rfl|rfl|rfl
    · obtain rfl:n=0:=hn0 (by omega)
      clear hn0 hn1;go_enter Tryz.func221,Tryz.ntmps221;go_wp2;go_ret;exact⟨rfl,rfl⟩
    · obtain rfl:n=14:=hn1 rfl
      clear hn0 hn1;go_enter Tryz.func221,Tryz.ntmps221;go_wp2;go_ret;exact⟨rfl,rfl⟩
    · obtain rfl:n=0:=hn0 (by omega)
      clear hn0 hn1;go_enter Tryz.func221,Tryz.ntmps221;go_wp2;go_ret;exact⟨rfl,rfl⟩
theorem zpk {w:World} {b o:Nat} {F:List Nat} {q:Os} (h:JAt w b o F q) (hs:q.s.length≤1000) (v:Value) (X:Ev) (hP:∀W,Calls Tryz.prog 67 #[v] W fun r w'=>r= .returned (.tuple #[evV X,.bool true])∧Below W.heap.size W w')
    (isC isW:Bool) (S:ByteArray) (hC:∀W,(Instr.typeAssert v 20 169 true).run Tryz.prog W= .ok (.tuple #[.agg #[],.bool isC]) W)
    (hW:∀W,(Instr.typeAssert v 20 179 true).run Tryz.prog W= .ok (.tuple #[.string S,.bool isW]) W) (n:Nat)
    (hn:n=if q.dn=true then 14 else if isC=true then(if q.s=[]∨plO q=1 then 14 else 0) else if isW=true then 0 else if keyB q.s=true then 8 else 0) :
    Calls Tryz.prog 219 #[.pointer (some ⟨b,o,none⟩),v] w fun r w'=>r= .returned (.int .i64 n)∧Below w.heap.size w w':=by
  have HP:=hid hP;have HJ:=hid h;have HC:=hid hC;have HW:=hid hW;obtain⟨k,y,m,t,c⟩:=X;simp only[evV] at HP;have HJ':Hid (∀w',Below w.heap.size w w'→JAt w' b o F q):=hid (fun w' k=>h.go k);obtain⟨D,hD⟩:∃D,q.dn=D:=⟨_,rfl⟩
  obtain⟨K,hK⟩:∃K,keyB q.s=K:=⟨_,rfl⟩
  rw[hD,hK] at hn;have HD:Hid (∀w',Below w.heap.size w w'→Calls Tryz.prog 217 #[.pointer (some ⟨b,o,none⟩)] w' fun r w2=>r= .returned (.bool D)∧w'=w2):=hid (fun w' k=>hD▸zalg (h.go k));have HA:Hid (∀w',Below w.heap.size w w'→Calls Tryz.prog 222 #[.pointer (some ⟨b,o,none⟩)] w' fun r w2=>r= .returned (.bool K)∧w'=w2):=hid (fun w' k=>hK▸zyf (h.go k) hs);obtain⟨n2,hn2⟩:∃n2:Nat,n2=if q.s=[]∨plO q=1 then 14 else 0:=⟨_,rfl⟩
  rw[← hn2] at hn;have HE:Hid (∀w',Below w.heap.size w w'→Calls Tryz.prog 221 #[.pointer (some ⟨b,o,none⟩)] w' fun r w2=>r= .returned (.int .i64 n2)∧w'=w2):=hid (fun w' k=>zab1 (h.go k) n2 hn2);clear hP h hC hW hD hK hn2 HJ HJ';cases D with
  | true =>
    obtain rfl:n=14:=by rw[hn,if_pos rfl]
    clear hn;go_enter Tryz.func219,Tryz.ntmps219;(go_wp2_with fail);refine(HP.out _).mono ?_;rintro r w1 ⟨rfl,b1⟩;have B1:=hid (zaa b1 (.cells #[.int .i64 k,.bool y,.int .u64 m,.string t,.int .i64 c] 43));clear b1;(go_wp2_with fail);refine(HD.out _ B1.out).mono ?_;rintro r w2 ⟨rfl,rfl⟩;go_wp2;go_ret;exact⟨rfl,B1.out⟩
  | false =>
    rw[if_neg (by simp)] at hn;cases isC with
    | true =>
      rw[if_pos rfl] at hn;subst hn;have hC:=HC.out;go_enter Tryz.func219,Tryz.ntmps219;(go_wp2_with fail);refine(HP.out _).mono ?_;rintro r w1 ⟨rfl,b1⟩;have B1:=hid (zaa b1 (.cells #[.int .i64 k,.bool y,.int .u64 m,.string t,.int .i64 c] 43));clear b1;(go_wp2_with fail);refine(HD.out _ B1.out).mono ?_;rintro r w2 ⟨rfl,rfl⟩;(go_wp2_with fail);refine(HE.out _ (zaa B1.out _)).mono ?_;rintro r w3 ⟨rfl,rfl⟩;go_wp2;go_ret;exact⟨rfl,zaa B1.out _⟩
    | false =>
      rw[if_neg (by simp)] at hn;have hC:=HC.out;have hW:=HW.out;cases isW with
      | true =>
        rw[if_pos rfl] at hn;subst hn;go_enter Tryz.func219,Tryz.ntmps219;(go_wp2_with fail);refine(HP.out _).mono ?_;rintro r w1 ⟨rfl,b1⟩;have B1:=hid (zaa b1 (.cells #[.int .i64 k,.bool y,.int .u64 m,.string t,.int .i64 c] 43));clear b1;(go_wp2_with fail);refine(HD.out _ B1.out).mono ?_;rintro r w2 ⟨rfl,rfl⟩;go_wp2;go_ret;exact⟨rfl,zaa B1.out _⟩
      | false =>
        rw [if_neg (by simp)] at hn;have fin:∀n':Nat,n=n'→(K=true→n'=8)→(K=false→n'=0)→Calls Tryz.prog 219 #[.pointer (some ⟨b,o,none⟩),v] w fun r w'=>r= .returned (.int .i64 n')∧Below w.heap.size w w':=by
          intro n' _ h1 h2;cases K with
          | true =>
            obtain rfl:=h1 rfl;clear h1 h2;go_enter Tryz.func219,Tryz.ntmps219;(go_wp2_with fail);refine(HP.out _).mono ?_;rintro r w1 ⟨rfl,b1⟩;have B1:=hid (zaa b1 (.cells #[.int .i64 k,.bool y,.int .u64 m,.string t,.int .i64 c] 43));clear b1;(go_wp2_with fail);refine(HD.out _ B1.out).mono ?_;rintro r w2 ⟨rfl,rfl⟩;(go_wp2_with fail);refine(HA.out _ (zaa B1.out _)).mono ?_;rintro r w3 ⟨rfl,rfl⟩;go_wp2;go_ret;exact⟨rfl,zaa B1.out _⟩
          | false =>
            obtain rfl:=h2 rfl;clear h1 h2;go_enter Tryz.func219,Tryz.ntmps219;(go_wp2_with fail);refine(HP.out _).mono ?_;rintro r w1 ⟨rfl,b1⟩;have B1:=hid (zaa b1 (.cells #[.int .i64 k,.bool y,.int .u64 m,.string t,.int .i64 c] 43));clear b1;(go_wp2_with fail);refine(HD.out _ B1.out).mono ?_;rintro r w2 ⟨rfl,rfl⟩;(go_wp2_with fail);refine(HA.out _ (zaa B1.out _)).mono ?_;rintro r w3 ⟨rfl,rfl⟩;go_wp2;go_ret;exact⟨rfl,zaa B1.out _⟩
        exact fin n rfl (fun e=>by rw[hn,if_pos e]) (fun e=>by rw[hn,if_neg (by simp[e])])
theorem zm5 {q:Os} {e:Ev} (hm:mayE e) (hf:q.dn=true→q.s=[]) :
    (zem q e).1.2=if q.dn=true then 14 else if decide (e.k=7)=true then(if q.s=[]∨plO q=1 then 14 else 0) else if decide (e.k=3)=true then 0 else if keyB q.s=true then 8 else 0:=by
  obtain⟨s,dn⟩:=q;cases dn with
  | true=>rw[zzr ⟨s,true⟩ e (.inr rfl),if_pos rfl]
  | false =>
    rw[if_neg (by simp)];by_cases h7:e.k=7
    · rw [if_pos (decide_eq_true h7)]
      cases s with
      | nil=>rw[zs7 hm h7,if_pos (.inl rfl)]
      | cons x r =>
        by_cases ho:x.map=true∧x.have_%2=1
        · have hp:plO ⟨x::r,false⟩=1:=by
            unfold plO;simp only;rw[if_pos ho]
          rw[zyv hm h7 ho,if_pos (.inr hp)]
        · have hp:plO ⟨x::r,false⟩≠1:=by
            unfold plO;simp only;rw[if_neg ho];split <;>omega
          rw[zzz hm h7 ho];exact(if_neg (fun h=>h.elim (fun h=>by cases h) hp)).symm
    · rw [if_neg (by simpa using h7)]
      by_cases hk:keyB s=true∧e.k≠3
      · rw[zz6 hm h7 hk.1 hk.2,if_neg (by simpa using hk.2),if_pos hk.1]
      · have hz:(if decide (e.k=3)=true then 0 else if keyB s=true then 8 else 0)=0:=by
          by_cases h3:e.k=3
          · rw[if_pos (decide_eq_true h3)]
          · rw[if_neg (by simpa using h3),if_neg (fun h=>hk ⟨h,h3⟩)]
        rw[hz];by_cases h56:e.k=5∨e.k=6
        · have hkf:keyB s=false:=by
            cases hq:keyB s with
            | false=>rfl
            | true=>exact absurd ⟨hq,by omega⟩ hk
          rw[ztn hm h56 hkf]
        · rw[zabb hm h7 h56 hk]
theorem zade {w:World} {b o:Nat} {F:List Nat} {q:Os} (h:JAt w b o F q) (hs:q.s.length≤1000) (e:Ev) (hm:mayE e) :
  Calls Tryz.prog 219 #[.pointer (some ⟨b,o,none⟩),valE e] w fun r w'=>r= .returned (.int .i64 ((zem q e).1.2:Nat))∧Below w.heap.size w w' :=
 zpk h hs (valE e) (zfi e) (zgf e hm) _ _ _ (zct e hm) (zom e hm) _ (zm5 hm h.fin)
end
section
open Go.Shelf
def zo8:Go.Shelf.Ren:=⟨fun|134=>241|129=>247|n=>n,fun|53=>41|3=>3|4=>4|46=>52|5=>5|9=>9|n=>n,fun|n=>n⟩
theorem zai2:Go.Proofs.Lays.n134 Tryz.prog zo8:={
 mixed:=by kernel_rfl
 f129:=Tryz.func247.trans (congrArg some (by kernel_rfl))
 f134:=Tryz.func241.trans (congrArg some (by kernel_rfl))
 t3:=Tryz.underlying3
 a3:=Tryz.isAgg3
 z3:=Tryz.sizeOf3
 v3:=Tryz.zeroValue3
 t4:=Tryz.underlying4
 a4:=Tryz.isAgg4
 z4:=Tryz.sizeOf4
 v4:=Tryz.zeroValue4
 t5:=Tryz.underlying5
 a5:=Tryz.isAgg5
 z5:=Tryz.sizeOf5
 v5:=Tryz.zeroValue5
 t9:=Tryz.underlying9
 a9:=Tryz.isAgg9
 z9:=Tryz.sizeOf9
 v9:=Tryz.zeroValue9
 t46:=Tryz.underlying52
 a46:=Tryz.isAgg52
 z46:=Tryz.sizeOf52
 v46:=Tryz.zeroValue52
 t53:=Tryz.underlying41
 a53:=Tryz.isAgg41
 z53:=Tryz.sizeOf41
 v53:=Tryz.zeroValue41}
theorem bits_LeadingZeros64 (x:Int) (w:World) (h0:0≤x) (h1:x≤18446744073709551615) :
  Calls Tryz.prog 241 #[.int .u64 x] w fun e w'=>e= .returned (.int .i64 (64-(Lib.bitLen x.toNat:Int)))∧w'=w:=Any.bits_LeadingZeros64 zai2 x w h0 h1
def zqg:Go.Shelf.Ren:=⟨fun|283=>243|n=>n,fun|3=>3|9=>9|4=>4|n=>n,fun|n=>n⟩
theorem zaik:Go.Proofs.Lays.n283 Tryz.prog zqg:={
 mixed:=by kernel_rfl
 f283:=Tryz.func243.trans (congrArg some (by kernel_rfl))
 t3:=Tryz.underlying3
 a3:=Tryz.isAgg3
 z3:=Tryz.sizeOf3
 v3:=Tryz.zeroValue3
 t4:=Tryz.underlying4
 a4:=Tryz.isAgg4
 z4:=Tryz.sizeOf4
 v4:=Tryz.zeroValue4
 t9:=Tryz.underlying9
 a9:=Tryz.isAgg9
 z9:=Tryz.sizeOf9
 v9:=Tryz.zeroValue9}
open Go.Lib in
theorem internal_strconv_small (i:Nat) (h:i<100) (w:World) :
  Calls Tryz.prog 243 #[.int .i64 i] w fun e w'=>e= .returned (.string ⟨(Lib.decDigits i).toArray⟩)∧w'=w:=Any.internal_strconv_small zaik i h w
def zms:Go.Shelf.Ren:=⟨fun|284=>244|129=>247|317=>249|318=>250|n=>n,fun|53=>41|3=>3|212=>275|0=>0|4=>4|46=>52|5=>5|9=>9|n=>n,fun|17=>2|n=>n⟩
theorem zqv:Go.Proofs.LaysM.n284 Tryz.prog zms:={
 mixed:=by kernel_rfl
 f129:=Tryz.func247.trans (congrArg some (by kernel_rfl))
 f284:=Tryz.func244.trans (congrArg some (by kernel_rfl))
 f317:=Tryz.func249.trans (congrArg some (by kernel_rfl))
 f318:=Tryz.func250.trans (congrArg some (by kernel_rfl))
 t0:=Tryz.underlying0
 a0:=Tryz.isAgg0
 z0:=Tryz.sizeOf0
 v0:=Tryz.zeroValue0
 t3:=Tryz.underlying3
 a3:=Tryz.isAgg3
 z3:=Tryz.sizeOf3
 v3:=Tryz.zeroValue3
 t4:=Tryz.underlying4
 a4:=Tryz.isAgg4
 z4:=Tryz.sizeOf4
 v4:=Tryz.zeroValue4
 t5:=Tryz.underlying5
 a5:=Tryz.isAgg5
 z5:=Tryz.sizeOf5
 v5:=Tryz.zeroValue5
 t9:=Tryz.underlying9
 a9:=Tryz.isAgg9
 z9:=Tryz.sizeOf9
 v9:=Tryz.zeroValue9
 t46:=Tryz.underlying52
 a46:=Tryz.isAgg52
 z46:=Tryz.sizeOf52
 v46:=Tryz.zeroValue52
 t53:=Tryz.underlying41
 a53:=Tryz.isAgg41
 z53:=Tryz.sizeOf41
 v53:=Tryz.zeroValue41
 t212:=Tryz.underlying275
 a212:=Tryz.isAgg275
 z212:=Tryz.sizeOf275
 v212:=Tryz.zeroValue275
 g17:=by kernel_rfl
 i0:=by kernel_rfl
 i3:=by kernel_rfl
 i4:=by kernel_rfl
 i5:=by kernel_rfl
 i9:=by kernel_rfl
 i46:=by kernel_rfl
 i53:=by kernel_rfl
 i212:=by kernel_rfl
 m17:=by kernel_rfl}
end
section
open Go.Lib
theorem zod:∀b a:Nat,b≤a→nDigits b≤nDigits a:=by
  intro b
  induction b using Nat.strongRecOn with
  | _ b ih =>
    intro a h;by_cases hb:b<10
    · rw[nDigits_small hb];exact nDigits_pos a
    · rw[nDigits_big hb,nDigits_big (show¬a<10 by omega)]
      have:=ih (b/10) (by omega) (a/10) (by omega);omega
theorem zgv (u:Nat) (h:u<100000000000000000000):nDigits u≤20:=by
 have:nDigits u≤nDigits 99999999999999999999:=zod _ _ (by omega);rw[show nDigits 99999999999999999999=20 from nDigits_unique 19 _ (by decide) (by decide)] at this;exact this
theorem zzq (w:Bool×Nat) (h:w.2<18446744073709551616):(zq0 w).length≤21:=by
  obtain⟨m,v⟩:=w;unfold zq0;have h:v<18446744073709551616:=h;cases m with
  | true =>
    simp only[if_true,List.length_cons,decDigits_length];have:=zgv (v+1) (by omega);omega
  | false =>
    simp only[Bool.false_eq_true,if_false,decDigits_length];have:=zgv v (by omega);omega
end
section
open Go.RowKit Go.Sort
open Go.Lib
def Tab (w:World):Prop:=Lib.TabIs Tryz.prog w "internal/strconv.uint64pow10" .u64 Lib.pow10Tab
theorem zpa (w:World) (T:TypeId) (nd:Nat) (hs:nd≤24):Holds (fun(b:UInt8)=>Value.int .u8 (b.toNat:Int)) (w.alloc (.cells Lib.zeros24 T)) w.heap.size 0 (Array.replicate nd (0:UInt8)):=fun j hj=>by
 have hj':j<nd:=by simpa using hj
 refine⟨?_,World.frozen?_alloc_new _ _ _ _⟩;rw[World.cell?_alloc_new,Lib.zeros24_at _ (by omega),getElem!_pos _ j hj];simp
theorem ztc (w:World) (os:Array Obj) (k:Nat):Below w.heap.size w ((grow w os).drewN k) :=
 ⟨rfl,rfl,rfl,by simp[grow],fun i hi=>by
  show(w.heap++os)[i]? = w.heap[i]?;rw[Array.getElem?_append_left hi]⟩
theorem zn7 (w:World) (o:Obj) (dk:Array UInt8) (k:Nat):Below w.heap.size w ((putRow (fun(b:UInt8)=>Value.int .u8 (b.toNat:Int)) (w.alloc o) w.heap.size 0 dk).drewN k):=by
 rw[alloc_eq_grow];obtain⟨os',_,e⟩:=putRow_grow_new (fun(b:UInt8)=>Value.int .u8 (b.toNat:Int)) w #[o] w.heap.size 0 dk (Nat.le_refl _);rw[e];exact ztc w os' k
end
section
open Go.RowKit
open Go.Lib
theorem zxv (u:Nat) (hu:u<18446744073709551616) (w:World) :
  Calls Tryz.prog 235 #[.int .u64 0,.int .u64 u,.int .u64 10] w fun e w'=>e= .returned (.tuple #[.int .u64 ((u/10:Nat):Int),.int .u64 ((u%10:Nat):Int)])∧∃q,w'=w.drewN q:=by
 go_enter Tryz.func235,Tryz.ntmps235;go_wp2
 go_quiet (fail)
 go_wp2;go_ret2;exact⟨by simp,_,rfl⟩
theorem lz10 (w:World):Calls Tryz.prog 241 #[.int .u64 10] w fun e w'=>e= .returned (.int .i64 60)∧w'=w:=by
 have h:=bits_LeadingZeros64 10 w (by omega) (by omega);rw[show(64-(Lib.bitLen (10:Int).toNat:Int))=60 by decide] at h;exact h
theorem zahy (w:World) :
  Calls Tryz.prog 235 #[.int .u64 1,.int .u64 0,.int .u64 10] w fun e w'=>e= .returned (.tuple #[.int .u64 1844674407370955161,.int .u64 6])∧w'=w:=by
 have b1:bits .and .u64 11529215046068469760 4294967295=0:=by decide
 have b2:bits .or .u64 1152921504606846976 0=1152921504606846976:=by decide
 have b3:bits .and .u64 0 4294967295=0:=by decide
 go_enter Tryz.func235,Tryz.ntmps235
 go_wp2_with (go_at_call 241;refine(lz10 _).mono ?_;rintro e w' ⟨rfl,rfl⟩)
 refine wp_loop_once ?_;go_wp2;refine wp_loop_once ?_;go_wp2;go_ret2;exact⟨rfl,rfl⟩
end
section
open Go.RowKit
open Go.Lib
end
section
open Go.Shelf
open Go.RowKit
def zir:Go.Shelf.Ren:=⟨fun|169=>29|n=>n,
 fun|0=>0|3=>3|5=>5|9=>9|37=>30|70=>57|72=>59|127=>88|n=>n,fun|n=>n⟩
theorem zahc:Go.Proofs.Lays.n169 Tryz.prog zir:={
 mixed:=by kernel_rfl
 f169:=Tryz.func29.trans (congrArg some (by kernel_rfl))
 t0:=Tryz.underlying0
 a0:=Tryz.isAgg0
 z0:=Tryz.sizeOf0
 v0:=Tryz.zeroValue0
 t3:=Tryz.underlying3
 a3:=Tryz.isAgg3
 z3:=Tryz.sizeOf3
 v3:=Tryz.zeroValue3
 t9:=Tryz.underlying9
 a9:=Tryz.isAgg9
 z9:=Tryz.sizeOf9
 v9:=Tryz.zeroValue9
 t37:=Tryz.underlying30
 a37:=Tryz.isAgg30
 z37:=Tryz.sizeOf30
 v37:=Tryz.zeroValue30
 t70:=Tryz.underlying57
 a70:=Tryz.isAgg57
 z70:=Tryz.sizeOf57
 v70:=Tryz.zeroValue57
 t72:=Tryz.underlying59
 a72:=Tryz.isAgg59
 z72:=Tryz.sizeOf59
 v72:=Tryz.zeroValue59
 t127:=Tryz.underlying88
 a127:=Tryz.isAgg88
 z127:=Tryz.sizeOf88
 v127:=Tryz.zeroValue88}
theorem zhl:Builder.Extra Tryz.prog zir where
 sizeBuilder:=by kernel_rfl
 liesBuilder:=by kernel_rfl
 t5:=Tryz.underlying5
 a5:=Tryz.isAgg5
 z5:=Tryz.sizeOf5
 v5:=Tryz.zeroValue5
 infoByte:=by kernel_rfl
 cellsByte:=by kernel_rfl
 sizeByte:=by kernel_rfl
 neB5:=by decide
abbrev IsB (B b:Nat) (bs:List UInt8) (w:World):Prop:=Lib.IsBuilderF 59 5 B b (Lib.byteCells bs) w
theorem zaif (B b:Nat) (w:World) (hB:B≤b) (h:w.heap[b]? = some (.cells #[.pointer none,.slice none 0 0] 59 (0,0))):IsB B b [] w :=
 .inl ⟨hB,.slice none 0 0,h,World.ownsRowF_nil _ _ _ _,by simp[Value.ownBlock]⟩
theorem zdb (B b:Nat) (l:List UInt8) (w:World) (h:IsB B b l w) (hBw:B≤w.heap.size) :
  Calls Tryz.prog 29 #[.pointer (some ⟨b,0,none⟩)] w fun e w'=>e= .returned (.string ⟨l.toArray⟩)∧(IsB B b l w'∧Below B w w'∧Lib.OthersKept 5 (some b) w w'):=Any.Builder_String_any_k zahc zhl B b l w h hBw
end
section
open Go.Shelf
open Go.RowKit
def zil:Go.Shelf.Ren:=⟨fun|166=>28|240=>45|276=>57|n=>n,
 fun|0=>0|3=>3|4=>4|5=>5|9=>9|20=>20|37=>30|70=>57|72=>59|75=>62|80=>35|164=>120|n=>n,fun|n=>n⟩
theorem zpm:Go.Proofs.Lays.n166 Tryz.prog zil:={
 mixed:=by kernel_rfl
 f166:=Tryz.func28.trans (congrArg some (by kernel_rfl))
 f240:=Tryz.func45.trans (congrArg some (by kernel_rfl))
 f276:=Tryz.func57.trans (congrArg some (by kernel_rfl))
 t0:=Tryz.underlying0
 a0:=Tryz.isAgg0
 z0:=Tryz.sizeOf0
 v0:=Tryz.zeroValue0
 t3:=Tryz.underlying3
 a3:=Tryz.isAgg3
 z3:=Tryz.sizeOf3
 v3:=Tryz.zeroValue3
 t4:=Tryz.underlying4
 a4:=Tryz.isAgg4
 z4:=Tryz.sizeOf4
 v4:=Tryz.zeroValue4
 t9:=Tryz.underlying9
 a9:=Tryz.isAgg9
 z9:=Tryz.sizeOf9
 v9:=Tryz.zeroValue9
 t20:=Tryz.underlying20
 a20:=Tryz.isAgg20
 z20:=Tryz.sizeOf20
 v20:=Tryz.zeroValue20
 t37:=Tryz.underlying30
 a37:=Tryz.isAgg30
 z37:=Tryz.sizeOf30
 v37:=Tryz.zeroValue30
 t70:=Tryz.underlying57
 a70:=Tryz.isAgg57
 z70:=Tryz.sizeOf57
 v70:=Tryz.zeroValue57
 t72:=Tryz.underlying59
 a72:=Tryz.isAgg59
 z72:=Tryz.sizeOf59
 v72:=Tryz.zeroValue59
 t75:=Tryz.underlying62
 a75:=Tryz.isAgg62
 z75:=Tryz.sizeOf62
 v75:=Tryz.zeroValue62
 t164:=Tryz.underlying120
 a164:=Tryz.isAgg120
 z164:=Tryz.sizeOf120
 v164:=Tryz.zeroValue120}
theorem builder_Extra166:Builder.Extra Tryz.prog zil where
 sizeBuilder:=by kernel_rfl
 liesBuilder:=by kernel_rfl
 t5:=Tryz.underlying5
 a5:=Tryz.isAgg5
 z5:=Tryz.sizeOf5
 v5:=Tryz.zeroValue5
 infoByte:=by kernel_rfl
 cellsByte:=by kernel_rfl
 sizeByte:=by kernel_rfl
 neB5:=by decide
theorem zff (B b:Nat) (bs:List UInt8) (s:ByteArray) (w:World) (h:IsB B b bs w) (hlen:bs.length+s.size≤140737488355328) (hBw:B≤w.heap.size) :
  Calls Tryz.prog 28 #[.pointer (some ⟨b,0,none⟩),.string s] w fun e w'=>e= .returned (.tuple #[.int .i64 s.size,.nilIface])∧(IsB B b (bs++s.data.toList) w'∧Below B w w'∧Lib.OthersKept 5 (some b) w w'):=by
 refine(Any.Builder_WriteString_k zpm builder_Extra166 B b (Lib.byteCells bs) s w h (by rw[Lib.byteCells_length];exact hlen) hBw).mono ?_;rintro e w' ⟨rfl,h1,h2,h3⟩;refine⟨rfl,?_,h2,h3⟩;have:Lib.byteCells (bs++s.data.toList)=Lib.byteCells bs++Lib.strCells s:=by
  rw[Lib.byteCells_append];rfl
 unfold IsB;rw[this];exact .inr h1
end
section
open Go.RowKit
open Go.Lib
def escO (r:Nat):List UInt8 :=
 if r=34 then [92,34] else if r=92 then [92,92] else if r=8 then [92,98] else if r=12 then [92,102] else if r=10 then [92,110] else if r=13 then [92,114] else if r=9 then [92,116]
 else if r<32 then [92,117,48,48,hexD (r/16),hexD (r%16)] else []
theorem zn4 (b:UInt8):escB b=if escO b.toNat=[] then [b] else escO b.toNat:=by
 unfold escB escO;by_cases h1:b.toNat=34
 ·have:b=34:=UInt8.toNat_inj.1 h1
  subst this;rfl
 by_cases h2:b.toNat=92
 ·have:b=92:=UInt8.toNat_inj.1 h2
  subst this;rfl
 rw[if_neg (by omega),if_neg h1,if_neg h2]
 repeat' split
 all_goals first | rfl|simp_all
theorem zvk {r:Nat} (h:128≤r):escO r=[]:=by
 unfold escO;rw[if_neg (by omega),if_neg (by omega),if_neg (by omega),if_neg (by omega),if_neg (by omega),if_neg (by omega),if_neg (by omega),if_neg (by omega)]
def hexS:ByteArray:=⟨#[48,49,50,51,52,53,54,55,56,57,97,98,99,100,101,102]⟩
theorem zag8:∀n:Fin 16,hexS.extract n.val (n.val+1)=⟨#[hexD n.val]⟩:=by decide +kernel
theorem zm9 (n:Nat) (h:n<16) (W:World):(Instr.slice 9 (.string hexS) (some (.int .i32 (n:Int))) (some (.int .i32 ((n:Int)+1))) none).run Tryz.prog W= .ok (.string ⟨#[hexD n]⟩) W:=by
 rw[run_slice_string W 9 hexS .i32 .i32 _ _ Tryz.underlying9 (by omega) (by omega) (by show((n:Int)+1)≤16;omega)];have:=zag8 ⟨n,h⟩;simp only[] at this;rw[← this];congr 3
theorem zak7 (r:Nat) (h:r<2147483648):bits .and .i32 (r:Int) 15=((r%16:Nat):Int):=by
 have h1:(BitVec.ofInt 32 (r:Int)).toNat=r:=by
  rw[BitVec.ofInt_natCast,BitVec.toNat_ofNat];exact Nat.mod_eq_of_lt (by omega)
 have h2:(BitVec.ofInt 32 (15:Int)).toNat=15:=by decide
 show IntKind.i32.wrap ((BitVec.ofInt 32 (r:Int) &&& BitVec.ofInt 32 (15:Int)).toNat:Int)=_;rw[BitVec.toNat_and,h1,h2,show 15=2^4-1 by decide,Nat.and_two_pow_sub_one_eq_mod,IntKind.wrap_i32];omega
theorem zv4 (r:Nat) (hr:r<32) (h1:r≠8) (h2:r≠9) (h3:r≠10) (h4:r≠12) (h5:r≠13) (w:World) :
  Calls Tryz.prog 236 #[.int .i32 r] w fun e w'=>e= .returned (.string ⟨#[92,117,48,48,hexD (r/16),hexD (r%16)]⟩)∧∃q,w'=w.drewN q:=by
 have z1:((r:Int)==34)=false:=by rw[beq_eq_false_iff_ne];omega
 have z2:((r:Int)==92)=false:=by rw[beq_eq_false_iff_ne];omega
 have z3:((r:Int)==8)=false:=by rw[beq_eq_false_iff_ne];omega
 have z4:((r:Int)==12)=false:=by rw[beq_eq_false_iff_ne];omega
 have z5:((r:Int)==10)=false:=by rw[beq_eq_false_iff_ne];omega
 have z6:((r:Int)==13)=false:=by rw[beq_eq_false_iff_ne];omega
 have z7:((r:Int)==9)=false:=by rw[beq_eq_false_iff_ne];omega
 have z8:((r:Int)<32)=True:=by simp only[eq_iff_iff,iff_true];omega
 have hS1:=zm9 (r/16) (by omega);have hS2:=zm9 (r%16) (by omega);have hb:=zak7 r (by omega);have hw1:IntKind.i32.wrap ((r:Int)/16+1)=(r:Int)/16+1:=ziy _ (by omega) (by omega);have hw2:IntKind.i32.wrap (((r%16:Nat):Int)+1)=((r%16:Nat):Int)+1:=ziy _ (by omega) (by omega);rw[show((r/16:Nat):Int)=(r:Int)/16 by omega] at hS1;obtain⟨m,hm⟩:∃m:Int,((r%16:Nat):Int)=m:=⟨_,rfl⟩
 rw[hm] at hS2 hb hw2;have hX:(⟨#[92,117,48,48,hexD (r/16),hexD (r%16)]⟩:ByteArray)=(⟨#[92,117,48,48]⟩++⟨#[hexD (r/16)]⟩)++⟨#[hexD (r%16)]⟩:=rfl;rw[hX];obtain⟨X1,hx1⟩:∃X1:ByteArray,(⟨#[hexD (r/16)]⟩:ByteArray)=X1:=⟨_,rfl⟩
 obtain⟨X2,hx2⟩:∃X2:ByteArray,(⟨#[hexD (r%16)]⟩:ByteArray)=X2:=⟨_,rfl⟩
 have s1:X1.size=1:=by rw[← hx1];rfl
 have s2:X2.size=1:=by rw[← hx2];rfl
 rw[hx1] at hS1;rw[hx2] at hS2;rw[hx1,hx2];unfold hexS at hS1 hS2;clear hx1 hx2 hX hm h1 h2 h3 h4 h5 hr;go_enter Tryz.func236,Tryz.ntmps236;(go_wp2_with fail)
 go_quiet (fail)
 go_wp2;go_ret;exact⟨rfl,nq,rfl⟩
theorem zaba (r:Nat) (w:World) :
  Calls Tryz.prog 236 #[.int .i32 r] w fun e w'=>e= .returned (.string ⟨(escO r).toArray⟩)∧∃q,w'=w.drewN q:=by
 by_cases c0:r=34
 ·subst c0
  go_enter Tryz.func236,Tryz.ntmps236;go_wp2;go_ret;exact⟨rfl,0,rfl⟩
 by_cases c1:r=92
 ·subst c1
  go_enter Tryz.func236,Tryz.ntmps236;go_wp2;go_ret;exact⟨rfl,0,rfl⟩
 by_cases c2:r=8
 ·subst c2
  go_enter Tryz.func236,Tryz.ntmps236;go_wp2;go_ret;exact⟨rfl,0,rfl⟩
 by_cases c3:r=12
 ·subst c3
  go_enter Tryz.func236,Tryz.ntmps236;go_wp2;go_ret;exact⟨rfl,0,rfl⟩
 by_cases c4:r=10
 ·subst c4
  go_enter Tryz.func236,Tryz.ntmps236;go_wp2;go_ret;exact⟨rfl,0,rfl⟩
 by_cases c5:r=13
 ·subst c5
  go_enter Tryz.func236,Tryz.ntmps236;go_wp2;go_ret;exact⟨rfl,0,rfl⟩
 by_cases c6:r=9
 ·subst c6
  go_enter Tryz.func236,Tryz.ntmps236;go_wp2;go_ret;exact⟨rfl,0,rfl⟩
 by_cases c8:r<32
 ·have he:escO r=[92,117,48,48,hexD (r/16),hexD (r%16)]:=by
   unfold escO;rw[if_neg c0,if_neg c1,if_neg c2,if_neg c3,if_neg c4,if_neg c5,if_neg c6,if_pos c8]
  rw[he];exact zv4 r c8 c2 c6 c4 c3 c5 w
 have he:escO r=[]:=by
  unfold escO;rw[if_neg c0,if_neg c1,if_neg c2,if_neg c3,if_neg c4,if_neg c5,if_neg c6,if_neg c8]
 rw[he];have z1:((r:Int)==34)=false:=by rw[beq_eq_false_iff_ne];omega
 have z2:((r:Int)==92)=false:=by rw[beq_eq_false_iff_ne];omega
 have z3:((r:Int)==8)=false:=by rw[beq_eq_false_iff_ne];omega
 have z4:((r:Int)==12)=false:=by rw[beq_eq_false_iff_ne];omega
 have z5:((r:Int)==10)=false:=by rw[beq_eq_false_iff_ne];omega
 have z6:((r:Int)==13)=false:=by rw[beq_eq_false_iff_ne];omega
 have z7:((r:Int)==9)=false:=by rw[beq_eq_false_iff_ne];omega
 have z8:((r:Int)<32)=False:=by simp only[eq_iff_iff,iff_false];omega
 clear c0 c1 c2 c3 c4 c5 c6 c8 he;go_enter Tryz.func236,Tryz.ntmps236;go_wp2;go_ret;exact⟨rfl,0,rfl⟩
theorem zzw {l:List UInt8} {n:Nat} {a:UInt8} {rest:List UInt8} (h:a::rest=l.take n):l.getD 0 0=a:=by
  match l,n,h with
  | [],n,h=>simp at h
  | x::t,0,h=>simp at h
  | x::t,n+1,h =>
    rw[List.take_succ_cons] at h
    injection h with h1 _
    exact h1.symm
theorem zabw (l:List UInt8) (hne:l≠[]) (h0:128≤(l.getD 0 0).toNat):∀b∈l.take (decodeL l).2,128≤b.toNat:=by
  by_cases hg:(decodeL l).1=65533∧(decodeL l).2=1
  · rw[hg.2]
    match l,hne with
    | a::t,_ =>
      intro b hb;simp only[List.take_succ_cons,List.take_zero,List.mem_singleton] at hb;subst hb;exact h0
  · obtain⟨hr,he,hl⟩:=zagm l hne hg
    rw[← he];obtain⟨a,rest,hf,h⟩:=zri hr;rw[hf] at he ⊢;have ha:l.getD 0 0=a:=zzw he;rw[ha] at h0;rcases h with ⟨hr0,hn,hlt⟩|⟨hge,lo,hi,h1,h2,h3,h4,h5,h6,h7⟩
    · omega
    · intro b hb
      clear he hf ha;rcases List.mem_cons.1 hb with e|hb
      · rw[e];exact h0
      · exact(h7 b hb).1
theorem zz9 (l:List UInt8) (h:∀b∈l,128≤b.toNat):escW l=l:=by
  induction l with
  | nil=>rfl
  | cons b t ih =>
    rw[zi7,zafd (h b (by simp)),ih (fun c hc=>h c (by simp[hc]))];rfl
end
section
open Go.RowKit
open Go.Lib
structure WrS (s:ByteArray) (B:Nat) (w0 wr:World) (kb bb pos at_:Nat) (acc:List UInt8):Prop where
 bld:IsB B bb acc wr
 it:wr.heap[kb]? = some (.stringIter s pos)
 below:Below B w0 wr
 hle:at_≤pos
 hsz:at_≤s.size
 eq:acc++(s.data.toList.take pos).drop at_=escW (s.data.toList.take pos)
 hB:B≤bb
 hkb:bb<kb
theorem WrS.len {s:ByteArray} {B:Nat} {w0 wr:World} {kb bb pos at_:Nat} {acc:List UInt8} (h:WrS s B w0 wr kb bb pos at_ acc):acc.length≤6*s.size:=by
 have h1:=congrArg List.length h.eq;have h2:=zht (s.data.toList.take pos);rw[List.length_append] at h1;have h3:(s.data.toList.take pos).length≤s.size:=by
  rw[List.length_take,zb3];omega
 omega
theorem WrS.sz {s:ByteArray} {B:Nat} {w0 wr:World} {kb bb pos at_:Nat} {acc:List UInt8} (h:WrS s B w0 wr kb bb pos at_ acc):B≤wr.heap.size:=by
 have:=(Array.getElem?_eq_some_iff.1 h.it).1;have:=h.hB;have:=h.hkb;omega
theorem zn1 (l:List UInt8) (p n:Nat):l.take (p+n)=l.take p++(l.drop p).take n:=by rw[List.take_add]
theorem zaa1 (s:ByteArray) (pos:Nat) (h:pos<s.size):(s.data.toList.drop pos).getD 0 0=s[pos]'h:=by
 have hl:s.data.toList.length=s.size:=zb3 s;rw[List.getD_eq_getElem?_getD,List.getElem?_drop,Nat.add_zero,List.getElem?_eq_getElem (by omega)];rfl
theorem zaad (s:ByteArray) (pos:Nat) (h:pos<s.size):s.data.toList.drop pos≠[]:=by
 intro e;have:=congrArg List.length e;rw[List.length_drop,zb3] at this;simp at this;omega
theorem zm1 (s:ByteArray) (pos:Nat) (h:pos<s.size):(s.data.toList.drop pos).take 1=[s[pos]'h]:=by
  have h1:=zaa1 s pos h;have h2:=zaad s pos h
  match hh:s.data.toList.drop pos,h2 with
  | x::t,_ =>
    rw[hh] at h1;simp only[List.getD_cons_zero] at h1;rw[h1];rfl
theorem zadu (s:ByteArray) (pos:Nat) (h:pos<s.size) (he:escO (Utf8.decode s pos).1=[]):escW ((s.data.toList.drop pos).take (Utf8.decode s pos).2)=(s.data.toList.drop pos).take (Utf8.decode s pos).2:=by
 by_cases ha:(s[pos]'h).toNat<128
 ·rw[decode_ascii s pos h ha] at he ⊢
  simp only[] at he ⊢;rw[zm1 s pos h,zi7,zn4,if_pos he];rfl
 ·refine zz9 _ ?_
  have:=zabw (s.data.toList.drop pos) (zaad s pos h) (by rw[zaa1 s pos h];omega);rw[decodeL_drop s pos] at this;exact this
theorem zagy (s:ByteArray) (pos:Nat) (h:pos<s.size) (he:escO (Utf8.decode s pos).1≠[]):Utf8.decode s pos=((s[pos]'h).toNat,1)∧escB (s[pos]'h)=escO (Utf8.decode s pos).1:=by
 by_cases ha:(s[pos]'h).toNat<128
 ·have:=decode_ascii s pos h ha
  rw[this] at he ⊢;simp only[] at he ⊢;exact⟨trivial,by rw[zn4,if_neg he]⟩
 ·have:=decode_high s pos h (by omega)
  exact absurd (zvk this.1) he
theorem zaim (s:ByteArray) (pos:Nat) (h:pos<s.size):1≤(Utf8.decode s pos).2:=by
 by_cases ha:(s[pos]'h).toNat<128
 ·rw[decode_ascii s pos h ha]
  exact Nat.le_refl _
 ·exact(decode_high s pos h (by omega)).2
theorem zakf (s:ByteArray) (a k:Nat):(s.extract a k).data.toList=(s.data.toList.take k).drop a:=ze6 s a k
theorem zac6 (a b:List UInt8) (k:Nat) (h:k≤a.length):(a++b).drop k=a.drop k++b:=by
 rw[List.drop_append_of_le_length h]
theorem zake {z:ByteArray} {l:List UInt8} (hz:z=⟨l.toArray⟩) (hl:l≠[]):z.toList.isEmpty=false∧(z.toList=[])=False:=by
 have:z.toList=l:=by rw[hz,ByteArray.toList_eq]
 rw[this];exact⟨by cases l with | nil=>exact absurd rfl hl|cons=>rfl,by simp[hl]⟩
theorem zz8 (s:ByteArray) (w:World) (hs:s.size≤1000000) :
    Calls Tryz.prog 231 #[.string s] w fun e w'=>e= .returned (.string ⟨(escW s.data.toList).toArray⟩)∧Below w.heap.size w w':=by
  have hl:s.data.toList.length=s.size:=zb3 s;obtain⟨B,hB⟩:∃B,B=w.heap.size:=⟨_,rfl⟩
  have H0:Hid (WrS s w.heap.size w ((w.alloc (.cells #[.pointer none,.slice none 0 0] 59)).iter s 0) (w.heap.size+1) w.heap.size 0 0 []):=hid {
    bld:=(Lib.IsBuilderF.of (Lib.fresh_isBuilder 59 5 w)).alloc _
    it:=by
      have:=World.iter_heap (w.alloc (.cells #[.pointer none,.slice none 0 0] 59)) s 0;simpa using this
    below:=((Below.refl _ w).alloc (Nat.le_refl _) _).alloc (by simp) _
    hle:=Nat.le_refl _
    hsz:=Nat.zero_le _
    eq:=by simp[escW]
    hB:=Nat.le_refl _
    hkb:=by omega}
  have HB:=hid hB;rw[← hB];rw[← hB] at H0;clear hB;obtain⟨Z,hZ⟩:∃Z:ByteArray,Z=⟨(escW s.data.toList).toArray⟩:=⟨_,rfl⟩
  rw[← hZ];have HZ:=hid hZ;clear hZ;go_enter Tryz.func231,Tryz.ntmps231;(go_wp2_with fail);rw[← HB.out];generalize (w.alloc (.cells #[.pointer none,.slice none 0 0] 59)).iter s 0=W at H0 ⊢;generalize hkb:B+1=kb at H0 ⊢;clear hkb HB
  go_loopw [4] (fun a wr=>∃(pos at_:Nat) (acc:List UInt8),a= .int .i64 at_∧Hid (WrS s B w wr kb B pos at_ acc)) (fun _ wr=>s.size-wr.iterPos kb)
  case atStart=>exact⟨0,0,[],rfl,H0⟩
  case round =>
    obtain⟨pos,at_,acc,rfl,HC⟩:=hrel;clear H0;have hit:=HC.out.it;have hipos:wr.iterPos kb=pos:=by simp only[World.iterPos,hit]
    by_cases hp:pos<s.size
    · have hnx:∀ty,(Instr.next (.pointer (some ⟨kb,0,none⟩)) true ty).run Tryz.prog wr=_:=fun ty=>Lib.run_next_any_at wr kb s pos ty hit hp
      have F1:=zaim s pos hp;have F2:=zadu s pos hp;have F3:escO (Utf8.decode s pos).1≠[]→(Utf8.decode s pos).2=1∧escW (s.data.toList.take (pos+1))=escW (s.data.toList.take pos)++escO (Utf8.decode s pos).1:=by
        intro h;obtain⟨h1,h2⟩:=zagy s pos hp h;refine⟨by rw[h1],?_⟩;rw[zn1,zm1 s pos hp,zib,← h2];simp[escW]
      have hE:=zaba (Utf8.decode s pos).1;generalize (Utf8.decode s pos).1=r at *
      generalize (Utf8.decode s pos).2=n at *
      have hit2:=Lib.iterAt_heap wr kb s pos (pos+n) hit;have h1:WrS s B w (wr.iterAt kb s (pos+n)) kb B pos at_ acc→False∨True:=fun _=> .inr trivial
      have hI2:IsB B B acc (wr.iterAt kb s (pos+n)):=HC.out.bld.iterAt hit (pos+n);have hb2:Below B w (wr.iterAt kb s (pos+n)):=Lib.below_iterAt HC.out.below (Nat.le_of_lt HC.out.hkb) s (pos+n);have hsz2:B≤(wr.iterAt kb s (pos+n)).heap.size:=by rw[Lib.iterAt_size];exact HC.out.sz
      have H2:=hid (And.intro hit2 (And.intro hI2 (And.intro hb2 hsz2)));have HE:=hid hE;have hat:at_≤(s.data.toList.take pos).length:=by
        have:=HC.out.hle;have:=HC.out.hsz;rw[List.length_take,hl];omega
      clear h1 hit2 hI2 hb2 hsz2 hE;generalize wr.iterAt kb s (pos+n)=W1 at H2 hnx ⊢;by_cases h0:escO r=[]
      · have F:=F2 h0
        have HN:∀q,Hid (WrS s B w (W1.drewN q) kb B (pos+n) at_ acc):=fun q=>hid {
          bld:=H2.out.2.1
          it:=H2.out.1
          below:=zb5 H2.out.2.2.1 q
          hle:=by have:=HC.out.hle;omega
          hsz:=HC.out.hsz
          eq:=by rw[zn1,zac6 _ _ _ hat,zib,F,← HC.out.eq,List.append_assoc]
          hB:=HC.out.hB
          hkb:=HC.out.hkb}
        rw[h0] at HE;clear F F2 F3 h0 hat;(go_wp2_with fail);refine(HE.out _).mono ?_;rintro e w2 ⟨rfl,q,rfl⟩;have HM:=HN q;go_wp2
        go_roundw
        case rel=>exact⟨pos+n,at_,acc,rfl,HM⟩
        case measure =>
          have:=HM.out.it;simp only[World.iterPos,this,hit];omega
      · obtain⟨rfl,F⟩:=F3 h0
        obtain⟨z,hz⟩:∃z:ByteArray,z=⟨(escO r).toArray⟩:=⟨_,rfl⟩
        have hzl:z.data.toList=escO r:=by rw[hz]
        obtain⟨hz1,hz2⟩:=zake hz h0;rw[← hz] at HE;have hls:=zht (s.data.toList.take pos);have hts:(s.data.toList.take pos).length≤s.size:=by rw[List.length_take,hl];omega
        have hel:(escO r).length≤6:=by
          unfold escO
          repeat' split
          all_goals simp
        have hS:=zol s at_ pos HC.out.hle (Nat.le_of_lt hp);obtain⟨y,hy⟩:∃y,s.extract at_ pos=y:=⟨_,rfl⟩
        rw[hy] at hS;have hyl:y.data.toList=(s.data.toList.take pos).drop at_:=by rw[← hy];exact zakf s at_ pos
        have heq:=HC.out.eq;rw[← hyl] at heq;have hyz:y.size≤s.size:=by
          rw[← zb3 y,hyl,List.length_drop];omega
        have hzz:z.size≤6:=by rw[← zb3 z,hzl];exact hel
        have HL:=hid (And.intro heq (And.intro hzl (And.intro F (And.intro hls (And.intro hts (And.intro hyz hzz))))));have hyz':(y.size:Int)≤2000000:=by omega
        have hzz':(z.size:Int)≤6:=by omega
        clear heq hzl F hls hts hel hy hyl hz F2 F3 h0 hat hyz hzz;(go_wp2_with fail);refine(HE.out _).mono ?_;rintro e w2 ⟨rfl,q,rfl⟩;have H3:Hid ((W1.drewN q).heap[kb]? = some (.stringIter s (pos+1))∧IsB B B acc (W1.drewN q)∧Below B w (W1.drewN q)∧B≤(W1.drewN q).heap.size):=hid ⟨H2.out.1,H2.out.2.1,zb5 H2.out.2.2.1 q,H2.out.2.2.2⟩;generalize W1.drewN q=W2 at H3 ⊢;clear H2 HE;(go_wp2_with fail);refine(zff B B acc y W2 H3.out.2.1 (by have:=HC.out.len;have:=HL.out;omega) H3.out.2.2.2).mono ?_;rintro e w3 ⟨rfl,i3,b3,k3⟩;have hk3:=k3.iter H3.out.1 (by have:=HC.out.hkb;omega);rw[HL.out.1] at i3;have H4:Hid (w3.heap[kb]? = some (.stringIter s (pos+1))∧IsB B B (escW (s.data.toList.take pos)) w3∧Below B w w3∧B≤w3.heap.size):=hid ⟨hk3,i3,H3.out.2.2.1.trans b3,Nat.le_trans H3.out.2.2.2 (by
          have:=(Array.getElem?_eq_some_iff.1 H3.out.1).1;have:=(Array.getElem?_eq_some_iff.1 hk3).1;have:=HC.out.hkb;have:=b3.size;omega)⟩
        clear hk3 i3 b3 k3 H3;(go_wp2_with fail);refine(zff B B _ z w3 H4.out.2.1 (by have:=HL.out;omega) H4.out.2.2.2).mono ?_;rintro e w4 ⟨rfl,i4,b4,k4⟩;have hk4:=k4.iter H4.out.1 (by have:=HC.out.hkb;omega);rw[HL.out.2.1,← HL.out.2.2.1] at i4;have HM:Hid (WrS s B w w4 kb B (pos+1) (pos+1) (escW (s.data.toList.take (pos+1)))):=hid {
          bld:=i4
          it:=hk4
          below:=H4.out.2.2.1.trans b4
          hle:=Nat.le_refl _
          hsz:=by omega
          eq:=by rw[List.drop_of_length_le (by rw[List.length_take];omega),List.append_nil]
          hB:=HC.out.hB
          hkb:=HC.out.hkb}
        clear hk4 i4 b4 k4 H4;go_wp2
        go_roundw
        case rel=>exact⟨pos+1,pos+1,_,by go_num,HM⟩
        case measure =>
          have:=HM.out.it;simp only[World.iterPos,this,hit];omega
    · have hnx:∀ty,(Instr.next (.pointer (some ⟨kb,0,none⟩)) true ty).run Tryz.prog wr=_:=fun ty=>Lib.run_next_end_at wr kb s pos ty hit hp
      have hS:=zg5 s at_ HC.out.hsz;obtain⟨y,hy⟩:∃y,s.extract at_ s.size=y:=⟨_,rfl⟩
      rw[hy] at hS;have hyl:y.data.toList=(s.data.toList.take s.size).drop at_:=by rw[← hy];exact zakf s at_ s.size
      have heq:=HC.out.eq;rw[List.take_of_length_le (by omega)] at heq;rw[List.take_of_length_le (by omega)] at hyl;rw[← hyl] at heq;have hyz:y.size≤s.size:=by rw[← zb3 y,hyl,List.length_drop];omega
      have HL:=hid heq;clear heq hyl hy;(go_wp2_with fail);refine(zff B B acc y wr HC.out.bld (by have:=HC.out.len;omega) HC.out.sz).mono ?_;rintro e w3 ⟨rfl,i3,b3,k3⟩;have hk3:=k3.iter hit (by have:=HC.out.hkb;omega);rw[HL.out] at i3;have hZ:=HZ.out;have hs3:B≤w3.heap.size:=by
        have:=(Array.getElem?_eq_some_iff.1 hk3).1;have:=HC.out.hkb;omega
      have hS3:=zdb B B _ w3 i3 hs3;rw[← hZ] at hS3;have H3:=hid hS3;have H4:=hid (HC.out.below.trans b3);clear hk3 i3 b3 k3 hZ hS3;(go_wp2_with fail);refine H3.out.mono ?_;rintro e w4 ⟨rfl,_,b4,_⟩;have H5:=hid (H4.out.trans b4);clear b4;go_wp2;go_ret;exact⟨rfl,H5.out⟩
end
section
open Go.Lib
def zdc (h:Nat):Nat→List UInt8→Nat×List UInt8
 | m,a=>if m<6 then(m,a) else zdc h (m-6) (a++[sgn (h/2^(m-6)%64)])
termination_by m=>m
theorem zh3 (h m:Nat) (a:List UInt8) (hm:m<6):zdc h m a=(m,a):=by rw[zdc,if_pos hm]
theorem zf0 (h m:Nat) (a:List UInt8) (hm:6≤m):zdc h m a=zdc h (m-6) (a++[sgn (h/2^(m-6)%64)]):=by rw[zdc,if_neg (by omega)]
def za8 (h:Nat) (b:UInt8):Nat:=h*256%18446744073709551616+b.toNat
def zza (s:Nat×Nat×List UInt8) (b:UInt8):Nat×Nat×List UInt8:=(za8 s.1 b,zdc (za8 s.1 b) (s.2.1+8) s.2.2)
def runP (s:Nat×Nat×List UInt8) (l:List UInt8):Nat×Nat×List UInt8:=l.foldl zza s
def endP (s:Nat×Nat×List UInt8):List UInt8:=if 0<s.2.1 then s.2.2++[sgn (s.1*2^(6-s.2.1)%64)] else s.2.2
theorem zvu (s:Nat×Nat×List UInt8) (l:List UInt8) (b:UInt8):runP s (l++[b])=zza (runP s l) b:=by simp[runP]
theorem zy7 (h:Nat) (a:List UInt8) (b:UInt8):zza (h,0,a) b=(za8 h b,2,a++[sgn (za8 h b/4%64)]):=by
 show(za8 h b,zdc (za8 h b) 8 a)=_;rw[zf0 _ _ _ (by decide),zh3 _ _ _ (by decide)]
theorem zaf9 (h:Nat) (a:List UInt8) (b:UInt8):zza (h,2,a) b=(za8 h b,4,a++[sgn (za8 h b/16%64)]):=by
 show(za8 h b,zdc (za8 h b) 10 a)=_;rw[zf0 _ _ _ (by decide),zh3 _ _ _ (by decide)]
theorem zajk (h:Nat) (a:List UInt8) (b:UInt8):zza (h,4,a) b=(za8 h b,0,a++[sgn (za8 h b/64%64)]++[sgn (za8 h b/1%64)]):=by
 show(za8 h b,zdc (za8 h b) 12 a)=_;rw[zf0 _ _ _ (by decide),zf0 _ _ _ (by decide),zh3 _ _ _ (by decide)]
theorem zab2 (l:List UInt8):∀h a,endP (runP (h,0,a) l)=a++putS l:=by
 refine zi2 (P:=fun l=>∀h a,endP (runP (h,0,a) l)=a++putS l) ?_ ?_ ?_ ?_ l
 ·intro h a
  simp[runP,endP,putS]
 ·intro x h a
  have hx:=zmp x;have e1:za8 h x/4%64=x.toNat/4:=by unfold za8;omega
  have e2:za8 h x*2^(6-2)%64=x.toNat%4*16:=by unfold za8;omega
  simp only[runP,List.foldl,zy7,endP,putS,e1,e2];simp
 ·intro x y h a
  have hx:=zmp x;have hy:=zmp y;have e1:za8 h x/4%64=x.toNat/4:=by unfold za8;omega
  have e2:za8 (za8 h x) y/16%64=x.toNat%4*16+y.toNat/16:=by unfold za8;omega
  have e3:za8 (za8 h x) y*2^(6-4)%64=y.toNat%16*4:=by unfold za8;omega
  simp only[runP,List.foldl,zy7,zaf9,endP,putS,e1,e2,e3];simp
 ·intro x y z r ih h a
  have hx:=zmp x;have hy:=zmp y;have hz:=zmp z;have e1:za8 h x/4%64=x.toNat/4:=by unfold za8;omega
  have e2:za8 (za8 h x) y/16%64=x.toNat%4*16+y.toNat/16:=by unfold za8;omega
  have e3:za8 (za8 (za8 h x) y) z/64%64=y.toNat%16*4+z.toNat/64:=by unfold za8;omega
  have e4:za8 (za8 (za8 h x) y) z/1%64=z.toNat%64:=by unfold za8;omega
  have ih':=ih (za8 (za8 (za8 h x) y) z);simp only[runP] at ih';simp only[runP,List.foldl,zy7,zaf9,zajk,e1,e2,e3,e4,ih',putS];simp
end
section
open Go.Shelf
open Go.RowKit
def zi5:Go.Shelf.Ren:=⟨fun|165=>237|240=>45|241=>242|276=>57|277=>248|n=>n,
 fun|0=>0|3=>3|4=>4|5=>5|9=>9|20=>20|37=>30|70=>57|72=>59|164=>120|n=>n,fun|n=>n⟩
theorem zagh:Go.Proofs.Lays.n165 Tryz.prog zi5:={
 mixed:=by kernel_rfl
 f165:=Tryz.func237.trans (congrArg some (by kernel_rfl))
 f240:=Tryz.func45.trans (congrArg some (by kernel_rfl))
 f241:=Tryz.func242.trans (congrArg some (by kernel_rfl))
 f276:=Tryz.func57.trans (congrArg some (by kernel_rfl))
 f277:=Tryz.func248.trans (congrArg some (by kernel_rfl))
 t0:=Tryz.underlying0
 a0:=Tryz.isAgg0
 z0:=Tryz.sizeOf0
 v0:=Tryz.zeroValue0
 t3:=Tryz.underlying3
 a3:=Tryz.isAgg3
 z3:=Tryz.sizeOf3
 v3:=Tryz.zeroValue3
 t4:=Tryz.underlying4
 a4:=Tryz.isAgg4
 z4:=Tryz.sizeOf4
 v4:=Tryz.zeroValue4
 t9:=Tryz.underlying9
 a9:=Tryz.isAgg9
 z9:=Tryz.sizeOf9
 v9:=Tryz.zeroValue9
 t20:=Tryz.underlying20
 a20:=Tryz.isAgg20
 z20:=Tryz.sizeOf20
 v20:=Tryz.zeroValue20
 t37:=Tryz.underlying30
 a37:=Tryz.isAgg30
 z37:=Tryz.sizeOf30
 v37:=Tryz.zeroValue30
 t70:=Tryz.underlying57
 a70:=Tryz.isAgg57
 z70:=Tryz.sizeOf57
 v70:=Tryz.zeroValue57
 t72:=Tryz.underlying59
 a72:=Tryz.isAgg59
 z72:=Tryz.sizeOf59
 v72:=Tryz.zeroValue59
 t164:=Tryz.underlying120
 a164:=Tryz.isAgg120
 z164:=Tryz.sizeOf120
 v164:=Tryz.zeroValue120}
theorem zhf:Builder.Extra Tryz.prog zi5 where
 sizeBuilder:=by kernel_rfl
 liesBuilder:=by kernel_rfl
 t5:=Tryz.underlying5
 a5:=Tryz.isAgg5
 z5:=Tryz.sizeOf5
 v5:=Tryz.zeroValue5
 infoByte:=by kernel_rfl
 cellsByte:=by kernel_rfl
 sizeByte:=by kernel_rfl
 neB5:=by decide
def ziz:Go.Shelf.Ren:=⟨fun|167=>239|240=>45|276=>57|n=>n,
 fun|0=>0|4=>4|5=>5|9=>9|20=>20|37=>30|70=>57|72=>59|75=>62|80=>35|164=>120|n=>n,fun|n=>n⟩
theorem zahs:Go.Proofs.Lays.n167 Tryz.prog ziz:={
 mixed:=by kernel_rfl
 f167:=Tryz.func239.trans (congrArg some (by kernel_rfl))
 f240:=Tryz.func45.trans (congrArg some (by kernel_rfl))
 f276:=Tryz.func57.trans (congrArg some (by kernel_rfl))
 t0:=Tryz.underlying0
 a0:=Tryz.isAgg0
 z0:=Tryz.sizeOf0
 v0:=Tryz.zeroValue0
 t4:=Tryz.underlying4
 a4:=Tryz.isAgg4
 z4:=Tryz.sizeOf4
 v4:=Tryz.zeroValue4
 t5:=Tryz.underlying5
 a5:=Tryz.isAgg5
 z5:=Tryz.sizeOf5
 v5:=Tryz.zeroValue5
 t9:=Tryz.underlying9
 a9:=Tryz.isAgg9
 z9:=Tryz.sizeOf9
 v9:=Tryz.zeroValue9
 t20:=Tryz.underlying20
 a20:=Tryz.isAgg20
 z20:=Tryz.sizeOf20
 v20:=Tryz.zeroValue20
 t37:=Tryz.underlying30
 a37:=Tryz.isAgg30
 z37:=Tryz.sizeOf30
 v37:=Tryz.zeroValue30
 t70:=Tryz.underlying57
 a70:=Tryz.isAgg57
 z70:=Tryz.sizeOf57
 v70:=Tryz.zeroValue57
 t72:=Tryz.underlying59
 a72:=Tryz.isAgg59
 z72:=Tryz.sizeOf59
 v72:=Tryz.zeroValue59
 t75:=Tryz.underlying62
 a75:=Tryz.isAgg62
 z75:=Tryz.sizeOf62
 v75:=Tryz.zeroValue62
 t164:=Tryz.underlying120
 a164:=Tryz.isAgg120
 z164:=Tryz.sizeOf120
 v164:=Tryz.zeroValue120}
theorem zhg:Builder.Extra Tryz.prog ziz where
 sizeBuilder:=by kernel_rfl
 liesBuilder:=by kernel_rfl
 t5:=Tryz.underlying5
 a5:=Tryz.isAgg5
 z5:=Tryz.sizeOf5
 v5:=Tryz.zeroValue5
 infoByte:=by kernel_rfl
 cellsByte:=by kernel_rfl
 sizeByte:=by kernel_rfl
 neB5:=by decide
theorem zagg (B b n:Nat) (w:World) (hB:B≤b) (hbk:w.heap[b]? = some (.cells #[.pointer none,.slice none 0 0] 59 (0,0))) (hBw:B≤w.heap.size) (hn:n≤281474976710656) :
  Calls Tryz.prog 237 #[.pointer (some ⟨b,0,none⟩),.int .i64 n] w fun e w'=>e= .returned (.tuple #[])∧(IsB B b [] w'∧Below B w w'):=by
 refine(Any.Builder_Grow_fresh zagh zhf B b n w hB hbk hBw hn).mono ?_;rintro e w' ⟨rfl,h1,h2⟩;obtain⟨a,v,h3,h4,h5⟩:=h1;exact⟨rfl,.inr ⟨a,v,h3,World.ownsRowF_of h4,h5⟩,h2⟩
theorem zwo (B b:Nat) (bs:List UInt8) (c:UInt8) (w:World) (h:IsB B b bs w) (hlen:bs.length+1≤140737488355328) (hBw:B≤w.heap.size) :
  Calls Tryz.prog 239 #[.pointer (some ⟨b,0,none⟩),.int .u8 c.toNat] w fun e w'=>e= .returned .nilIface∧(IsB B b (bs++[c]) w'∧Below B w w'∧Lib.OthersKept 5 (some b) w w'):=by
 refine(Any.Builder_WriteByte_k zahs zhg B b (Lib.byteCells bs) c.toNat w h (by rw[Lib.byteCells_length];exact hlen) hBw).mono ?_;rintro e w' ⟨rfl,h1,h2,h3⟩;refine⟨rfl,?_,h2,h3⟩;have:Lib.byteCells (bs++[c])=Lib.byteCells bs++[.int .u8 c.toNat]:=by
  rw[Lib.byteCells_append];rfl
 unfold IsB;rw[this];exact .inr h1
end
section
open Go.RowKit
open Go.Lib
def lenS (n:Int):Int:=if n<0∨1000000<n then 0 else(4*n+2)/3
theorem zag1 (n:Int) (h:n<0∨1000000<n):lenS n=0:=by unfold lenS;rw[if_pos h]
theorem zah9 (n:Int) (h0:0≤n) (h1:n≤1000000):lenS n=(n*8+6-1)/6:=by unfold lenS;rw[if_neg (by omega)];omega
theorem zaiw (n:Int) (w:World) :
  Calls Tryz.prog 238 #[.int .i64 n] w fun e w'=>e= .returned (.int .i64 (lenS n))∧w=w':=by
 have H1:=hid (zag1 n);have H2:=hid (zah9 n);generalize lenS n=z at *
 go_enter Tryz.func238,Tryz.ntmps238;go_wp2
 all_goals go_ret
 all_goals first
  | exact⟨by rw[H1.out (by omega)];rfl,rfl⟩
  | exact⟨by rw[H2.out (by omega) (by omega)];rfl,rfl⟩
theorem zai4 (n:Nat) (h:n≤1000000) (w:World) :
  Calls Tryz.prog 238 #[.int .i64 (n:Int)] w fun e w'=>e= .returned (.int .i64 (((4*n+2)/3:Nat):Int))∧w=w':=by
 have h:=zaiw (n:Int) w;rw[show lenS (n:Int)=(((4*n+2)/3:Nat):Int) by unfold lenS;rw[if_neg (by omega)];omega] at h;exact h
structure PutI (B:Nat) (w wr:World) (m:Nat) (k:Nat) (a:List UInt8):Prop where
 bld:IsB B B a wr
 below:Below B w wr
 sz:B≤wr.heap.size
 len:6*a.length+m=8*k
structure PutR (l:List UInt8) (h m k:Nat) (a:List UInt8):Prop where
 eq:runP (0,0,[]) (l.take k)=(h,m,a)
 lt:m<6
 u:h<18446744073709551616
theorem zeo (n:Nat):IntKind.u64.wrap (n:Int)=((n%18446744073709551616:Nat):Int):=by
 simp[IntKind.wrap,IntKind.bits,IntKind.signed]
theorem zadj (x k:Nat) (h:x<18446744073709551616) (hk:k≤63):bits .and .u64 (x:Int) ((2^k-1:Nat):Int)=((x%2^k:Nat):Int):=by
 have hp:2^k≤2^63:=Nat.pow_le_pow_right (by decide) hk;have h1:(BitVec.ofInt 64 (x:Int)).toNat=x:=by
  rw[BitVec.ofInt_natCast,BitVec.toNat_ofNat];exact Nat.mod_eq_of_lt (by omega)
 have h2:(BitVec.ofInt 64 ((2^k-1:Nat):Int)).toNat=2^k-1:=by
  rw[BitVec.ofInt_natCast,BitVec.toNat_ofNat];exact Nat.mod_eq_of_lt (by omega)
 show IntKind.u64.wrap ((BitVec.ofInt 64 (x:Int) &&& BitVec.ofInt 64 ((2^k-1:Nat):Int)).toNat:Int)=_;rw[BitVec.toNat_and,h1,h2,Nat.and_two_pow_sub_one_eq_mod,zeo,Nat.mod_eq_of_lt (a:=x%2^k) (Nat.lt_of_le_of_lt (Nat.mod_le _ _) h)]
theorem zakj (x:Nat) (h:x<18446744073709551616):bits .and .u64 (x:Int) 63=((x%64:Nat):Int):=zadj x 6 h (by decide)
theorem zakc (a c k:Nat) (ha:2^k*a+c<18446744073709551616) (hc:c<2^k):bits .or .u64 ((2^k*a:Nat):Int) (c:Int)=((2^k*a+c:Nat):Int):=by
 have h1:(BitVec.ofInt 64 ((2^k*a:Nat):Int)).toNat=2^k*a:=by
  rw[BitVec.ofInt_natCast,BitVec.toNat_ofNat];exact Nat.mod_eq_of_lt (by omega)
 have h2:(BitVec.ofInt 64 (c:Int)).toNat=c:=by
  rw[BitVec.ofInt_natCast,BitVec.toNat_ofNat];exact Nat.mod_eq_of_lt (by omega)
 show IntKind.u64.wrap ((BitVec.ofInt 64 ((2^k*a:Nat):Int) ||| BitVec.ofInt 64 (c:Int)).toNat:Int)=_;rw[BitVec.toNat_or,h1,h2,← Nat.two_pow_add_eq_or_of_lt hc,zeo,Nat.mod_eq_of_lt ha]
theorem shl8 (h:Nat) (b:UInt8):bits .or .u64 (IntKind.u64.wrap ((h:Int)*256)) (IntKind.u64.wrap (b.toNat:Int))=((za8 h b:Nat):Int):=by
 have hb:=zmp b;have e1:IntKind.u64.wrap ((h:Int)*256)=((2^8*(h%72057594037927936):Nat):Int):=by
  rw[show(h:Int)*256=((h*256:Nat):Int) by omega,zeo];congr 1;omega
 rw[e1,zeo,Nat.mod_eq_of_lt (a:=b.toNat) (by omega),zakc _ _ 8 (by omega) (by omega)];unfold za8;congr 1;omega
theorem zacm (h:Nat) (b:UInt8):za8 h b<18446744073709551616:=by
 have hb:=zmp b;unfold za8;omega
theorem zv7 (d:Nat) (h:d<64) (W:World):(Instr.index 9 (.string ⟨#[65,66,67,68,69,70,71,72,73,74,75,76,77,78,79,80,81,82,83,84,85,86,87,88,89,90,97,98,99,100,101,102,103,104,105,106,107,108,109,110,111,112,113,114,115,116,117,118,119,120,121,122,48,49,50,51,52,53,54,55,56,57,45,95]⟩) (.int .u64 (d:Int))).run Tryz.prog W= .ok (.int .u8 (((sgn d).toNat:Nat):Int)) W:=by
 have h2:=zul ⟨d,h⟩;obtain⟨h3,h4⟩:=List.getElem?_eq_some_iff.1 h2;show(Instr.index 9 (.string signs64) (.int .u64 (d:Int))).run Tryz.prog W=_;rw[run_index_string W 9 signs64 .u64 (d:Int) Tryz.underlying9,dif_pos (by exact⟨by omega,by show(d:Int)<64;omega⟩)];rw[← h4];rfl
theorem zajd (H m:Nat) (h:H<18446744073709551616):bits .and .u64 ((H:Int)/2^(m-6)) 63=((H/2^(m-6)%64:Nat):Int):=by
 have hc:((H:Int)/2^(m-6))=((H/2^(m-6):Nat):Int):=by simp
 rw[hc,zakj _ (Nat.lt_of_le_of_lt (Nat.div_le_self _ _) h)]
theorem zag2 (h n:Nat):bits .and .u64 (IntKind.u64.wrap ((h:Int)*2^(6-n))) 63=((h*2^(6-n)%64:Nat):Int):=by
 have hc:((h:Int)*2^(6-n))=((h*2^(6-n):Nat):Int):=by simp
 rw[hc,zeo,zakj _ (Nat.mod_lt _ (by decide))];congr 1;exact Nat.mod_mod_of_dvd _ (by decide)
theorem zafh (s:ByteArray) (w:World) (hs:s.size≤1000000) :
    Calls Tryz.prog 232 #[.string s] w fun e w'=>e= .returned (.string ⟨(putS s.data.toList).toArray⟩)∧Below w.heap.size w w':=by
  have hl:s.data.toList.length=s.size:=zb3 s;obtain⟨B,hB⟩:∃B,B=w.heap.size:=⟨_,rfl⟩
  have hnew:(w.alloc (.cells #[.pointer none,.slice none 0 0] 59)).heap[w.heap.size]? = some (.cells #[.pointer none,.slice none 0 0] 59 (0,0)):=by rw[World.alloc];exact Array.getElem?_push_size
  have hbel:Below w.heap.size w (w.alloc (.cells #[.pointer none,.slice none 0 0] 59)):=(Below.refl _ w).alloc (Nat.le_refl _) _;have HG:=hid (zagg w.heap.size w.heap.size ((4*s.size+2)/3) (w.alloc (.cells #[.pointer none,.slice none 0 0] 59)) (Nat.le_refl _) hnew (by simp) (by omega));have HB:=hid hB;have HE:=hid hbel;clear hnew hbel;rw[← hB] at HG HE ⊢;clear hB;obtain⟨Z,hZ⟩:∃Z:ByteArray,Z=⟨(putS s.data.toList).toArray⟩:=⟨_,rfl⟩
  rw[← hZ];have HZ:=hid hZ;clear hZ;go_enter Tryz.func232,Tryz.ntmps232
  go_wp2_with (go_at_call 238;refine(zai4 _ (by assumption) _).mono ?_;rintro e w1 ⟨rfl,rfl⟩)
  rw[← HB.out];refine HG.out.mono ?_;rintro e w1 ⟨rfl,i1,b1⟩;have HI:Hid (PutI B w w1 0 0 []):=hid {bld:=i1,below:=HE.out.trans b1,sz:=by have:=HB.out;have:=b1.size;have h2:=HE.out.size;simp at this ⊢;omega,len:=rfl};have HR:Hid (PutR s.data.toList 0 0 0 []):=hid {eq:=rfl,lt:=by decide,u:=by decide};clear i1 b1 HG HE;(go_wp2_with fail)
  go_loopw [4,5,13] (fun x y z wr=>∃(k h n:Nat) (acc:List UInt8),x= .int .u64 h∧y= .int .i64 n∧z= .int .i64 k∧k≤s.size∧Hid (PutI B w wr n k acc)∧Hid (PutR s.data.toList h n k acc)) (fun _ _ z _=>s.size-(RowKit.intOf z).toNat)
  case atStart=>exact⟨0,0,0,[],rfl,rfl,rfl,Nat.zero_le _,HI,HR⟩
  case round =>
    clear HI HR;obtain⟨k,h,n,acc,rfl,rfl,rfl,hk,HI,HR⟩:=hrel;have hn:n<6:=HR.out.lt;by_cases hp:k<s.size
    · have hsh:=shl8 h (s[k]'hp)
      have hHl:=zacm h (s[k]'hp);have HP:Hid (runP (0,0,[]) (s.data.toList.take (k+1))=(za8 h (s[k]'hp),zdc (za8 h (s[k]'hp)) (n+8) acc)):=hid (by
        rw[List.take_add_one,show s.data.toList[k]? = some (s[k]'hp) by rw[List.getElem?_eq_getElem (by omega)];rfl,Option.toList_some,zvu,HR.out.eq];rfl)
      generalize za8 h (s[k]'hp)=H at hsh hHl HP;have HHl:=hid hHl;clear hHl;(go_wp2_with fail);clear hsh
      go_loopw [5] (fun y wr=>∃(m:Nat) (a:List UInt8),m≤n+8∧y= .int .i64 m∧Hid (PutI B w wr m (k+1) a)∧Hid (zdc H m a=zdc H (n+8) acc)) (fun y _=>(RowKit.intOf y).toNat)
      case atStart=>exact⟨n+8,acc,Nat.le_refl _,by go_num,hid {bld:=HI.out.bld,below:=HI.out.below,sz:=HI.out.sz,len:=by have:=HI.out.len;omega},hid rfl⟩
      case round =>
        obtain⟨m,a,hm,rfl,HJ,HF⟩:=hrel;by_cases h6:m<6
        · go_wp2_with fail
          have HK:Hid (PutR s.data.toList H m (k+1) a):=hid {eq:=by rw[HP.out,← HF.out,zh3 _ _ _ h6],lt:=h6,u:=HHl.out}
          go_roundw
          case rel=>exact⟨k+1,H,m,a,rfl,rfl,by go_num,by omega,HJ,HK⟩
          case measure =>
            simp only[RowKit.intOf];omega
        · have ha:=zajd H m HHl.out
          have hD:H/2^(m-6)%64<64:=Nat.mod_lt _ (by decide);have hi:=zv7 _ hD;have HF2:Hid (zdc H (m-6) (a++[sgn (H/2^(m-6)%64)])=zdc H (n+8) acc):=hid (by rw[← HF.out,zf0 H m a (by omega)]);generalize H/2^(m-6)%64=D at ha hD hi HF2;have hDi:(D:Int)<64:=by omega
          (go_wp2_with fail);refine(zwo B B a (sgn D) wr HJ.out.bld (by have:=HJ.out.len;omega) HJ.out.sz).mono ?_;rintro e w3 ⟨rfl,i3,b3,_⟩;have HN:Hid (PutI B w w3 (m-6) (k+1) (a++[sgn D])):=hid {bld:=i3,below:=HJ.out.below.trans b3,sz:=by have:=b3.size;have:=HJ.out.sz;omega,len:=by have:=HJ.out.len;simp;omega};clear i3 b3;go_wp2
          go_roundw
          case rel=>exact⟨m-6,_,by omega,by go_num,HN,HF2⟩
          case measure =>
            simp only[RowKit.intOf];omega
    · obtain rfl:k=s.size:=by omega
      have HEq:Hid (endP (h,n,acc)=putS s.data.toList):=hid (by
        have h1:=zab2 s.data.toList 0 [];have h2:=HR.out.eq;rw[List.take_of_length_le (by omega)] at h2;rw[h2] at h1;exact h1)
      by_cases h0:0<n
      · have ha:=zag2 h n
        have hD:h*2^(6-n)%64<64:=Nat.mod_lt _ (by decide);have hi:=zv7 _ hD;have HEr:Hid (acc++[sgn (h*2^(6-n)%64)]=putS s.data.toList):=hid (by rw[← HEq.out];show _=if 0<n then _ else _;rw[if_pos h0]);generalize h*2^(6-n)%64=D at ha hD hi HEr;have hDi:(D:Int)<64:=by omega
        clear HR HEq;(go_wp2_with fail);refine(zwo B B acc (sgn D) wr HI.out.bld (by have:=HI.out.len;omega) HI.out.sz).mono ?_;rintro e w3 ⟨rfl,i3,b3,_⟩;rw[HEr.out] at i3;have hs3:=zdb B B _ w3 i3 (by have:=b3.size;have:=HI.out.sz;omega);have hZ:=HZ.out;rw[← hZ] at hs3;have HS:=hid hs3;have HB3:=hid (HI.out.below.trans b3);clear i3 b3 hs3 hZ;(go_wp2_with fail);refine HS.out.mono ?_;rintro e w4 ⟨rfl,_,b4,_⟩;have HB4:=hid (HB3.out.trans b4);clear b4;go_wp2;go_ret;exact⟨rfl,HB4.out⟩
      · have HEr:Hid (acc=putS s.data.toList):=hid (by rw[← HEq.out];show _=if 0<n then _ else _;rw[if_neg h0])
        obtain rfl:n=0:=by omega
        have hi:=HI.out.bld;rw[HEr.out] at hi;have hs3:=zdb B B _ wr hi HI.out.sz;have hZ:=HZ.out;rw[← hZ] at hs3;have HS:=hid hs3;clear hi hs3 hZ HR HEq;(go_wp2_with fail);refine HS.out.mono ?_;rintro e w4 ⟨rfl,_,b4,_⟩;have HB4:=hid (HI.out.below.trans b4);clear b4;go_wp2;go_ret;exact⟨rfl,HB4.out⟩
end
section
open Go.Lib
theorem zo4 (e:Ev) (hk:e.k=0∨e.k=1∨e.k=2∨e.k=3) (hm:e.m<18446744073709551616) (ht:e.t.size≤1000):(outW e).length≤100000:=by
  unfold outW;by_cases h0:e.k=0
  · rw[if_pos h0]
    simp
  · by_cases h1:e.k=1
    · rw[if_neg h0,if_pos h1]
      split <;>simp
    · by_cases h2:e.k=2
      · rw[if_neg h0,if_neg h1,if_pos h2]
        have:=zzq (e.y,e.m) hm;omega
      · rw[if_neg h0,if_neg h1,if_neg h2,if_pos (by omega)]
        have:=zht e.t.data.toList;have h3:e.t.data.toList.length=e.t.size:=Array.length_toList;simp only[List.length_append,List.length_cons,List.length_nil];omega
theorem ziv (e:Ev) (hk:e.k=0∨e.k=1∨e.k=2∨e.k=3∨e.k=4) (hm:e.m<18446744073709551616) (ht:e.t.size≤1000):(outB e).length≤100000:=by
 unfold outB;by_cases h4:e.k=4
 ·rw[if_pos h4]
  have h1:e.t.data.toList.length=e.t.size:=Array.length_toList;have h2:=zh5 e.t.data.toList;simp only[List.length_append,List.length_cons,List.length_nil];omega
 ·rw[if_neg h4]
  exact zo4 e (by omega) hm ht
end
section
open Go.RowKit
open Go.Lib
theorem zqx (l:List UInt8):((⟨#[34]⟩:ByteArray)++⟨l.toArray⟩)++⟨#[34]⟩=⟨(34::l++[34]).toArray⟩:=by
 have e1:=zc8 [34] l;have e2:=zc8 ([34]++l) [34];rw[show(⟨#[34]⟩:ByteArray)=⟨[(34:UInt8)].toArray⟩ from rfl,e1,e2];rfl
theorem zy9 (X:ByteArray) (hX:X.size≤10000000) (w:World) :
  Calls Tryz.prog 230 #[.string X] w fun r w'=>r= .returned (.string (((⟨#[34]⟩:ByteArray)++X)++⟨#[34]⟩))∧w=w':=by
 obtain⟨U,hU⟩:∃U,(⟨#[34]⟩:ByteArray)++X=U:=⟨_,rfl⟩
 have hUs:U.size≤10000001:=by rw[← hU,ByteArray.size_append];show 1+X.size≤_;omega
 rw[hU];have z1:¬9223372036854775807<1+X.size:=by omega
 have z2:¬9223372036854775807<U.size+1:=by omega
 go_enter Tryz.func230,Tryz.ntmps230;go_wp2;go_ret;exact⟨rfl,rfl⟩
end
section
open Go.RowKit
open Go.Lib
theorem zaar {B b:Nat} {bs:List UInt8} {w w':World} {ts:List Nat} (h:IsB B b bs w) (k:Off ts w w') (h1:59∉ts) (h2:5∉ts):IsB B b bs w':=by
 have one:∀p,Lib.BuilderAtF 59 5 B b p (Lib.byteCells bs) w→Lib.BuilderAtF 59 5 B b p (Lib.byteCells bs) w':=by
  rintro p ⟨hB,v,hb,⟨hl,hown⟩,hv⟩;refine⟨hB,v,k _ _ _ _ hb h1,⟨hl,?_⟩,hv⟩;rcases hown with h0|⟨g,cap,cur,fz,hv',hg,hc,r⟩
  ·exact .inl h0
  ·exact .inr ⟨g,cap,cur,fz,hv',hg,k _ _ _ _ hc h2,r⟩
 rcases h with h|h
 ·exact .inl (one _ h)
 ·exact .inr (one _ h)
theorem IsB.typ {B b:Nat} {bs:List UInt8} {w:World} (h:IsB B b bs w):∃cs fr,w.heap[b]? = some (.cells cs 59 fr):=by
 rcases h with ⟨_,v,hb,_⟩|⟨_,v,hb,_⟩ <;>exact⟨_,_,hb⟩
theorem zrk {B b:Nat} {bs:List UInt8} {w w':World} (h:IsB B b bs w) (k:Lib.OthersKept 5 (some b) w w'):Off [59,5] w w':=by
 intro i c t fr hi ht;refine k i _ hi ?_ ?_
 ·intro e
  cases e;obtain⟨cs,fr',hc⟩:=h.typ;rw[hi] at hc;cases hc;exact ht (by simp)
 ·intro c' fz e
  cases e;exact ht (by simp)
end
end Go.Proofs.YtpaciekgbhoncaaGreat
