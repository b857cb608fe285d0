/-
  Parts: PinPb.
-/
import Derived.Test.YtpaciekgbhoncaaGreatG0h
set_option maxRecDepth 100000
set_option maxHeartbeats 16000000
open Go.Lib (hid)
namespace Go.Proofs.YtpaciekgbhoncaaGreat
section
open Go.RowKit
open Go.Lib
def otK (b:Nat):Nat:=if b=193 then 0 else if b<196 then 4 else if b<199 then 7 else if b<202 then 6 else if b<204 then 5 else if b<208 then 1 else if b<212 then 3 else if b<217 then 6 else if b<220 then 8 else if b<222 then 9 else 10
def otN (b:Nat):Nat:=if b=193 then 0 else if b<196 then b else 0
def otF (b:Nat):Nat:=if b<196 then 0 else if b<199 then b-172 else if b<204 then 0 else if b<208 then b-180 else if b<212 then b-184 else if b<217 then 0 else if b<220 then b-193 else if b<222 then b-195 else b-197
def itK (b:Nat):Nat:=if b<128 then 1 else if b<144 then 10 else if b<160 then 9 else if b<192 then 8 else if b<224 then otK b else 2
def itN (b:Nat):Nat:=if b<128 then b else if b<144 then b-128 else if b<160 then b-144 else if b<192 then b-160 else if b<224 then otN b else 255-b
def itF (b:Nat):Nat:=if b<192 then 0 else if b<224 then otF b else 0
def itV (b:Nat):Value:= .agg #[.int .i64 (itK b:Nat),.int .u64 (itN b:Nat),.int .u8 (itF b:Nat)]
theorem zr9 (b:Nat) (h1:192≤b) (h2:b<224) (w:World):Calls Tryz.prog 211 #[.int .u8 (b:Nat)] w fun r w'=>r= .returned (.agg #[.int .i64 (otK b:Nat),.int .u64 (otN b:Nat),.int .u8 (otF b:Nat)])∧Below w.heap.size w w':=by
 have hc:b=192∨b=193∨b=194∨b=195∨b=196∨b=197∨b=198∨b=199∨b=200∨b=201∨b=202∨b=203∨b=204∨b=205∨b=206∨b=207∨b=208∨b=209∨b=210∨b=211∨b=212∨b=213∨b=214∨b=215∨b=216∨b=217∨b=218∨b=219∨b=220∨b=221∨b=222∨b=223:=by omega
 clear h1 h2;rcases hc with rfl|rfl|rfl|rfl|rfl|rfl|rfl|rfl|rfl|rfl|rfl|rfl|rfl|rfl|rfl|rfl|rfl|rfl|rfl|rfl|rfl|rfl|rfl|rfl|rfl|rfl|rfl|rfl|rfl|rfl|rfl|rfl
 ·rw[show otK 192=4 from rfl,show otN 192=192 from rfl,show otF 192=0 from rfl]
  go_enter Tryz.func211,Tryz.ntmps211;go_wp2;simp[bodyPost,results,Tryz.results211,go_sem];exact zaa (Below.refl _ _) _
 ·rw[show otK 193=0 from rfl,show otN 193=0 from rfl,show otF 193=0 from rfl]
  go_enter Tryz.func211,Tryz.ntmps211;go_wp2;simp[bodyPost,results,Tryz.results211,go_sem];exact zaa (Below.refl _ _) _
 ·rw[show otK 194=4 from rfl,show otN 194=194 from rfl,show otF 194=0 from rfl]
  go_enter Tryz.func211,Tryz.ntmps211;go_wp2;simp[bodyPost,results,Tryz.results211,go_sem];exact zaa (Below.refl _ _) _
 ·rw[show otK 195=4 from rfl,show otN 195=195 from rfl,show otF 195=0 from rfl]
  go_enter Tryz.func211,Tryz.ntmps211;go_wp2;simp[bodyPost,results,Tryz.results211,go_sem];exact zaa (Below.refl _ _) _
 ·rw[show otK 196=7 from rfl,show otN 196=0 from rfl,show otF 196=24 from rfl]
  go_enter Tryz.func211,Tryz.ntmps211;go_wp2;simp[bodyPost,results,Tryz.results211,go_sem];exact zaa (Below.refl _ _) _
 ·rw[show otK 197=7 from rfl,show otN 197=0 from rfl,show otF 197=25 from rfl]
  go_enter Tryz.func211,Tryz.ntmps211;go_wp2;simp[bodyPost,results,Tryz.results211,go_sem];exact zaa (Below.refl _ _) _
 ·rw[show otK 198=7 from rfl,show otN 198=0 from rfl,show otF 198=26 from rfl]
  go_enter Tryz.func211,Tryz.ntmps211;go_wp2;simp[bodyPost,results,Tryz.results211,go_sem];exact zaa (Below.refl _ _) _
 ·rw[show otK 199=6 from rfl,show otN 199=0 from rfl,show otF 199=0 from rfl]
  go_enter Tryz.func211,Tryz.ntmps211;go_wp2;simp[bodyPost,results,Tryz.results211,go_sem];exact zaa (Below.refl _ _) _
 ·rw[show otK 200=6 from rfl,show otN 200=0 from rfl,show otF 200=0 from rfl]
  go_enter Tryz.func211,Tryz.ntmps211;go_wp2;simp[bodyPost,results,Tryz.results211,go_sem];exact zaa (Below.refl _ _) _
 ·rw[show otK 201=6 from rfl,show otN 201=0 from rfl,show otF 201=0 from rfl]
  go_enter Tryz.func211,Tryz.ntmps211;go_wp2;simp[bodyPost,results,Tryz.results211,go_sem];exact zaa (Below.refl _ _) _
 ·rw[show otK 202=5 from rfl,show otN 202=0 from rfl,show otF 202=0 from rfl]
  go_enter Tryz.func211,Tryz.ntmps211;go_wp2;simp[bodyPost,results,Tryz.results211,go_sem];exact zaa (Below.refl _ _) _
 ·rw[show otK 203=5 from rfl,show otN 203=0 from rfl,show otF 203=0 from rfl]
  go_enter Tryz.func211,Tryz.ntmps211;go_wp2;simp[bodyPost,results,Tryz.results211,go_sem];exact zaa (Below.refl _ _) _
 ·rw[show otK 204=1 from rfl,show otN 204=0 from rfl,show otF 204=24 from rfl]
  go_enter Tryz.func211,Tryz.ntmps211;go_wp2;simp[bodyPost,results,Tryz.results211,go_sem];exact zaa (Below.refl _ _) _
 ·rw[show otK 205=1 from rfl,show otN 205=0 from rfl,show otF 205=25 from rfl]
  go_enter Tryz.func211,Tryz.ntmps211;go_wp2;simp[bodyPost,results,Tryz.results211,go_sem];exact zaa (Below.refl _ _) _
 ·rw[show otK 206=1 from rfl,show otN 206=0 from rfl,show otF 206=26 from rfl]
  go_enter Tryz.func211,Tryz.ntmps211;go_wp2;simp[bodyPost,results,Tryz.results211,go_sem];exact zaa (Below.refl _ _) _
 ·rw[show otK 207=1 from rfl,show otN 207=0 from rfl,show otF 207=27 from rfl]
  go_enter Tryz.func211,Tryz.ntmps211;go_wp2;simp[bodyPost,results,Tryz.results211,go_sem];exact zaa (Below.refl _ _) _
 ·rw[show otK 208=3 from rfl,show otN 208=0 from rfl,show otF 208=24 from rfl]
  go_enter Tryz.func211,Tryz.ntmps211;go_wp2;simp[bodyPost,results,Tryz.results211,go_sem];exact zaa (Below.refl _ _) _
 ·rw[show otK 209=3 from rfl,show otN 209=0 from rfl,show otF 209=25 from rfl]
  go_enter Tryz.func211,Tryz.ntmps211;go_wp2;simp[bodyPost,results,Tryz.results211,go_sem];exact zaa (Below.refl _ _) _
 ·rw[show otK 210=3 from rfl,show otN 210=0 from rfl,show otF 210=26 from rfl]
  go_enter Tryz.func211,Tryz.ntmps211;go_wp2;simp[bodyPost,results,Tryz.results211,go_sem];exact zaa (Below.refl _ _) _
 ·rw[show otK 211=3 from rfl,show otN 211=0 from rfl,show otF 211=27 from rfl]
  go_enter Tryz.func211,Tryz.ntmps211;go_wp2;simp[bodyPost,results,Tryz.results211,go_sem];exact zaa (Below.refl _ _) _
 ·rw[show otK 212=6 from rfl,show otN 212=0 from rfl,show otF 212=0 from rfl]
  go_enter Tryz.func211,Tryz.ntmps211;go_wp2;simp[bodyPost,results,Tryz.results211,go_sem];exact zaa (Below.refl _ _) _
 ·rw[show otK 213=6 from rfl,show otN 213=0 from rfl,show otF 213=0 from rfl]
  go_enter Tryz.func211,Tryz.ntmps211;go_wp2;simp[bodyPost,results,Tryz.results211,go_sem];exact zaa (Below.refl _ _) _
 ·rw[show otK 214=6 from rfl,show otN 214=0 from rfl,show otF 214=0 from rfl]
  go_enter Tryz.func211,Tryz.ntmps211;go_wp2;simp[bodyPost,results,Tryz.results211,go_sem];exact zaa (Below.refl _ _) _
 ·rw[show otK 215=6 from rfl,show otN 215=0 from rfl,show otF 215=0 from rfl]
  go_enter Tryz.func211,Tryz.ntmps211;go_wp2;simp[bodyPost,results,Tryz.results211,go_sem];exact zaa (Below.refl _ _) _
 ·rw[show otK 216=6 from rfl,show otN 216=0 from rfl,show otF 216=0 from rfl]
  go_enter Tryz.func211,Tryz.ntmps211;go_wp2;simp[bodyPost,results,Tryz.results211,go_sem];exact zaa (Below.refl _ _) _
 ·rw[show otK 217=8 from rfl,show otN 217=0 from rfl,show otF 217=24 from rfl]
  go_enter Tryz.func211,Tryz.ntmps211;go_wp2;simp[bodyPost,results,Tryz.results211,go_sem];exact zaa (Below.refl _ _) _
 ·rw[show otK 218=8 from rfl,show otN 218=0 from rfl,show otF 218=25 from rfl]
  go_enter Tryz.func211,Tryz.ntmps211;go_wp2;simp[bodyPost,results,Tryz.results211,go_sem];exact zaa (Below.refl _ _) _
 ·rw[show otK 219=8 from rfl,show otN 219=0 from rfl,show otF 219=26 from rfl]
  go_enter Tryz.func211,Tryz.ntmps211;go_wp2;simp[bodyPost,results,Tryz.results211,go_sem];exact zaa (Below.refl _ _) _
 ·rw[show otK 220=9 from rfl,show otN 220=0 from rfl,show otF 220=25 from rfl]
  go_enter Tryz.func211,Tryz.ntmps211;go_wp2;simp[bodyPost,results,Tryz.results211,go_sem];exact zaa (Below.refl _ _) _
 ·rw[show otK 221=9 from rfl,show otN 221=0 from rfl,show otF 221=26 from rfl]
  go_enter Tryz.func211,Tryz.ntmps211;go_wp2;simp[bodyPost,results,Tryz.results211,go_sem];exact zaa (Below.refl _ _) _
 ·rw[show otK 222=10 from rfl,show otN 222=0 from rfl,show otF 222=25 from rfl]
  go_enter Tryz.func211,Tryz.ntmps211;go_wp2;simp[bodyPost,results,Tryz.results211,go_sem];exact zaa (Below.refl _ _) _
 ·rw[show otK 223=10 from rfl,show otN 223=0 from rfl,show otF 223=26 from rfl]
  go_enter Tryz.func211,Tryz.ntmps211;go_wp2;simp[bodyPost,results,Tryz.results211,go_sem];exact zaa (Below.refl _ _) _
theorem zpj (b:Nat) (hb:b<256) (w:World):Calls Tryz.prog 204 #[.int .u8 (b:Nat)] w fun r w'=>r= .returned (itV b)∧Below w.heap.size w w':=by
  have hw:IntKind.u64.wrap (b:Int)=(b:Int):=zam _ (by omega) (by omega);unfold itV;by_cases h0:b<128
  · have hK:itK b=1:=by unfold itK;rw[if_pos (by omega)]
    have hN:itN b=b:=by unfold itN;rw[if_pos (by omega)]
    have hF:itF b=0:=by unfold itF;rw[if_pos (by omega)]
    rw[hK,hN,hF];have z0:((b:Int)<128)=True:=by simp;omega
    clear hK hN hF h0 hb;go_enter Tryz.func204,Tryz.ntmps204;go_wp2;simp[bodyPost,results,Tryz.results204,go_sem];exact zaa (Below.refl _ _) _
  · by_cases h1:b<144
    · have hK:itK b=10:=by unfold itK;rw[if_neg (by omega)];rw[if_pos (by omega)]
      have hN:itN b=b-128:=by unfold itN;rw[if_neg (by omega)];rw[if_pos (by omega)]
      have hF:itF b=0:=by unfold itF;rw[if_pos (by omega)]
      rw[hK,hN,hF];have z0:((b:Int)<128)=False:=by simp;omega
      have z1:((b:Int)<144)=True:=by simp;omega
      have hw1:IntKind.u8.wrap ((b:Int)-128)=((b-128:Nat):Int):=by rw[zgb _ (by omega) (by omega)];omega
      have hw2:IntKind.u64.wrap ((b-128:Nat):Int)=((b-128:Nat):Int):=zam _ (by omega) (by omega);generalize b-128=l at *
      clear hK hN hF h0 h1 hb;go_enter Tryz.func204,Tryz.ntmps204;go_wp2;simp[bodyPost,results,Tryz.results204,go_sem];exact zaa (Below.refl _ _) _
    · by_cases h2:b<160
      · have hK:itK b=9:=by unfold itK;rw[if_neg (by omega)];rw[if_neg (by omega)];rw[if_pos (by omega)]
        have hN:itN b=b-144:=by unfold itN;rw[if_neg (by omega)];rw[if_neg (by omega)];rw[if_pos (by omega)]
        have hF:itF b=0:=by unfold itF;rw[if_pos (by omega)]
        rw[hK,hN,hF];have z0:((b:Int)<128)=False:=by simp;omega
        have z1:((b:Int)<144)=False:=by simp;omega
        have z2:((b:Int)<160)=True:=by simp;omega
        have hw1:IntKind.u8.wrap ((b:Int)-144)=((b-144:Nat):Int):=by rw[zgb _ (by omega) (by omega)];omega
        have hw2:IntKind.u64.wrap ((b-144:Nat):Int)=((b-144:Nat):Int):=zam _ (by omega) (by omega);generalize b-144=l at *
        clear hK hN hF h0 h1 h2 hb;go_enter Tryz.func204,Tryz.ntmps204;go_wp2;simp[bodyPost,results,Tryz.results204,go_sem];exact zaa (Below.refl _ _) _
      · by_cases h3:b<192
        · have hK:itK b=8:=by unfold itK;rw[if_neg (by omega)];rw[if_neg (by omega)];rw[if_neg (by omega)];rw[if_pos (by omega)]
          have hN:itN b=b-160:=by unfold itN;rw[if_neg (by omega)];rw[if_neg (by omega)];rw[if_neg (by omega)];rw[if_pos (by omega)]
          have hF:itF b=0:=by unfold itF;rw[if_pos (by omega)]
          rw[hK,hN,hF];have z0:((b:Int)<128)=False:=by simp;omega
          have z1:((b:Int)<144)=False:=by simp;omega
          have z2:((b:Int)<160)=False:=by simp;omega
          have z3:((b:Int)<192)=True:=by simp;omega
          have hw1:IntKind.u8.wrap ((b:Int)-160)=((b-160:Nat):Int):=by rw[zgb _ (by omega) (by omega)];omega
          have hw2:IntKind.u64.wrap ((b-160:Nat):Int)=((b-160:Nat):Int):=zam _ (by omega) (by omega);generalize b-160=l at *
          clear hK hN hF h0 h1 h2 h3 hb;go_enter Tryz.func204,Tryz.ntmps204;go_wp2;simp[bodyPost,results,Tryz.results204,go_sem];exact zaa (Below.refl _ _) _
        · by_cases h4:b<224
          · have hK:itK b=otK b:=by unfold itK;rw[if_neg (by omega),if_neg (by omega),if_neg (by omega),if_neg (by omega),if_pos (by omega)]
            have hN:itN b=otN b:=by unfold itN;rw[if_neg (by omega),if_neg (by omega),if_neg (by omega),if_neg (by omega),if_pos (by omega)]
            have hF:itF b=otF b:=by unfold itF;rw[if_neg (by omega),if_pos (by omega)]
            rw[hK,hN,hF];have HO:=hid (fun W=>zr9 b (by omega) h4 W);have z0:((b:Int)<128)=False:=by simp;omega
            have z1:((b:Int)<144)=False:=by simp;omega
            have z2:((b:Int)<160)=False:=by simp;omega
            have z3:((b:Int)<192)=False:=by simp;omega
            have z4:((b:Int)<224)=True:=by simp;omega
            clear hK hN hF h0 h1 h2 h3 h4 hb;generalize otK b=K at *
            generalize otN b=N at *
            generalize otF b=F at *
            go_enter Tryz.func204,Tryz.ntmps204;(go_wp2_with fail);refine(HO.out _).mono ?_;rintro r w1 ⟨rfl,b1⟩;have B1:=hid (zab (zaa (Below.refl _ _) _) b1);have HB:=hid ((zag w #[.int .i64 0,.int .u64 0,.int .u8 0] 150).go b1);have c0:=HB.out.cell 0;have c1:=HB.out.cell 1;have c2:=HB.out.cell 2;have f0:=HB.out.froz 0;have f1:=HB.out.froz 1;have f2:=HB.out.froz 2;clear b1;go_wp2;simp[bodyPost,results,Tryz.results204,go_sem,c0,c1,c2];exact((B1.out.setCell (Nat.le_refl _) _).setCell (Nat.le_refl _) _).setCell (Nat.le_refl _) _
          · have hK:itK b=2:=by unfold itK;rw[if_neg (by omega),if_neg (by omega),if_neg (by omega),if_neg (by omega),if_neg (by omega)]
            have hN:itN b=255-b:=by unfold itN;rw[if_neg (by omega),if_neg (by omega),if_neg (by omega),if_neg (by omega),if_neg (by omega)]
            have hF:itF b=0:=by unfold itF;rw[if_neg (by omega),if_neg (by omega)]
            rw[hK,hN,hF];have z0:((b:Int)<128)=False:=by simp;omega
            have z1:((b:Int)<144)=False:=by simp;omega
            have z2:((b:Int)<160)=False:=by simp;omega
            have z3:((b:Int)<192)=False:=by simp;omega
            have z4:((b:Int)<224)=False:=by simp;omega
            have hw1:IntKind.u8.wrap (255-(b:Int))=((255-b:Nat):Int):=by rw[zgb _ (by omega) (by omega)];omega
            have hw2:IntKind.u64.wrap ((255-b:Nat):Int)=((255-b:Nat):Int):=zam _ (by omega) (by omega);generalize 255-b=l at *
            clear hK hN hF h0 h1 h2 h3 h4 hb;go_enter Tryz.func204,Tryz.ntmps204;go_wp2;simp[bodyPost,results,Tryz.results204,go_sem];exact zaa (Below.refl _ _) _
def refP (D:Nat) (s:List Bx) (kd:Nat):Nat:=if kd=0 then 2 else if keyB s=true∧kd≠8 then 8 else if kd=6 then 8 else if kd=5 then 6 else if(kd=9∨kd=10)∧s.length=D then 4 else 0
theorem zey {w:World} {b o D pl kd0 nm fm:Nat} {h:Hd} {tk lk:Nat} {vt:Value} {t:List UInt8} {u:Option (Nat×Nat×Nat)} {vs:Value} {s:List Bx} (c:PP w b o D pl kd0 nm fm h tk lk vt t u vs s.length (inP s)) (hk:OkP s) (kd:Nat) (hkd:kd≤10) :
    Calls Tryz.prog 205 #[.pointer (some ⟨b,o,none⟩),.int .i64 (kd:Nat)] w fun r w'=>r= .returned (.int .i64 (refP D s kd:Nat))∧Below w.heap.size w w':=by
  have HK:=hid (zadp c.op.win hk);obtain⟨a,cp,hv,_,_⟩:=c.op.win.slice_form;subst hv;have c19:=c.cells.2.2.2.1;have c1:=c.cells.1.2.1.1;have zD:((s.length:Int)==(D:Int))=decide (s.length=D):=by rw[Bool.eq_iff_iff,beq_iff_eq,decide_eq_true_eq];omega
  have hB:refP D s kd=if kd=0 then 2 else if(keyB s&&decide (kd≠8))=true then 8 else if kd=6 then 8 else if kd=5 then 6 else if(decide (kd=9∨kd=10)&&decide (s.length=D))=true then 4 else 0:=by
    unfold refP;simp only[Bool.and_eq_true,decide_eq_true_eq]
  rw[hB];clear c hk hB;generalize keyB s=K at *
  generalize s.length=n at *
  generalize decide (n=D)=bD at *
  have hc:kd=0∨kd=1∨kd=2∨kd=3∨kd=4∨kd=5∨kd=6∨kd=7∨kd=8∨kd=9∨kd=10:=by omega
  clear hkd;rcases hc with rfl|hc
  · go_enter Tryz.func205,Tryz.ntmps205
    go_wp2;go_ret;exact⟨rfl,Below.refl _ _⟩
  · cases K with
    | false =>
      rcases hc with rfl|rfl|rfl|rfl|rfl|rfl|rfl|rfl|rfl|rfl
      case inr.inr.inr.inr.inl|inr.inr.inr.inr.inr.inl =>
        go_enter Tryz.func205,Tryz.ntmps205;(go_wp2_with fail);refine HK.out.mono ?_;rintro r w1 ⟨rfl,rfl⟩;go_wp2;go_ret;exact⟨rfl,Below.refl _ _⟩
      all_goals
        cases bD with
        | false =>
          go_enter Tryz.func205,Tryz.ntmps205;(go_wp2_with fail);refine HK.out.mono ?_;rintro r w1 ⟨rfl,rfl⟩;go_wp2
          go_quiet (fail)
          go_wp2;go_ret;exact⟨rfl,zb5 (Below.refl _ _) _⟩
        | true =>
          go_enter Tryz.func205,Tryz.ntmps205;(go_wp2_with fail);refine HK.out.mono ?_;rintro r w1 ⟨rfl,rfl⟩;go_wp2
          go_quiet (fail)
          go_wp2;go_ret;exact⟨rfl,zb5 (Below.refl _ _) _⟩
    | true =>
      rcases hc with rfl|rfl|rfl|rfl|rfl|rfl|rfl|rfl|rfl|rfl
      case inr.inr.inr.inr.inr.inr.inr.inl =>
        go_enter Tryz.func205,Tryz.ntmps205;(go_wp2_with fail);refine HK.out.mono ?_;rintro r w1 ⟨rfl,rfl⟩;go_wp2
        go_quiet (fail)
        go_wp2;go_ret;exact⟨rfl,zb5 (Below.refl _ _) _⟩
      all_goals
        go_enter Tryz.func205,Tryz.ntmps205;(go_wp2_with fail);refine HK.out.mono ?_;rintro r w1 ⟨rfl,rfl⟩;go_wp2;go_ret;exact⟨rfl,Below.refl _ _⟩
end
end Go.Proofs.YtpaciekgbhoncaaGreat
