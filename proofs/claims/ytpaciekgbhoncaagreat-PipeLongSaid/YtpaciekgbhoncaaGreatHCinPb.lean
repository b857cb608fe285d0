/-
  Parts: CinPb.
-/
import Derived.Test.YtpaciekgbhoncaaGreatG0j
set_option maxRecDepth 100000
set_option maxHeartbeats 16000000
open Go.Lib (hid)
namespace Go.Proofs.YtpaciekgbhoncaaGreat
section
open Go.RowKit
open Go.Lib
theorem ztz {w:World} {b o D pl:Nat} {h:Hd} {mj:Nat} {ch:Bool} {lk:Nat} {vt:Value} {t:List UInt8} {u:Option (Nat×Nat×Nat)} {vs:Value} {s:List Bx} (c:CP w b o D pl h mj ch lk vt t u vs s.length (inL s)) (hd:s.length≤16) :
    Calls Tryz.prog 170 #[.pointer (some ⟨b,o,none⟩)] w fun r w'=>r= .returned (.int .i64 (if mayB s=true then 0 else 2:Nat))∧Below w.heap.size w w':=by
  obtain⟨a,cp,hv,_,_⟩:=c.op.win.slice_form;subst hv;obtain⟨_,_,c17,f17⟩:=c.cells;have HM:=hid (zmw c.op.win hd);clear c hd;generalize s.length=n at *
  cases hm:mayB s with
  | false =>
    rw[hm] at HM;clear hm;go_enter Tryz.func170,Tryz.ntmps170;(go_wp2_with fail);refine HM.out.mono ?_;rintro r w1 ⟨rfl,b1⟩;have B1:=hid b1;clear b1;go_wp2;go_ret;exact⟨rfl,B1.out⟩
  | true =>
    rw[hm] at HM;clear hm;go_enter Tryz.func170,Tryz.ntmps170;(go_wp2_with fail);refine HM.out.mono ?_;rintro r w1 ⟨rfl,b1⟩;have B1:=hid b1;clear b1;go_wp2;go_ret;exact⟨rfl,B1.out⟩
def zhm (D:Nat) (s:List Bx) (h:Hd) (l:Nat):Nat :=
 if opnH h=true∧¬(2≤majH h∧majH h≤5) then 2 else if keyB s=true∧majH h≠3 then 8 else if majH h=6 then 8 else if majH h=7 then othE l else if(majH h=4∨majH h=5)∧s.length=D then 4 else 0
def zajn (O mo K b3 b6 b7 b4 b5 bD:Bool) (e:Nat):Nat :=
 if(O&& !mo)=true then 2 else if(K&& !b3)=true then 8 else if b6=true then 8 else if b7=true then e else if((b4||b5)&&bD)=true then 4 else 0
theorem zaj7 (D:Nat) (s:List Bx) (h:Hd) (l:Nat):zhm D s h l=zajn (opnH h) (decide (2≤majH h∧majH h≤5)) (keyB s) (decide (majH h=3)) (decide (majH h=6)) (decide (majH h=7)) (decide (majH h=4)) (decide (majH h=5)) (decide (s.length=D)) (othE l):=by
 unfold zhm zajn;simp only[Bool.and_eq_true,Bool.or_eq_true,Bool.not_eq_true',decide_eq_true_eq,decide_eq_false_iff_not,ne_eq]
theorem zwd {w:World} {b o D pl:Nat} {h:Hd} {mj:Nat} {ch:Bool} {lk:Nat} {vt:Value} {t:List UInt8} {u:Option (Nat×Nat×Nat)} {vs:Value} {s:List Bx} (c:CP w b o D pl h mj ch lk vt t u vs s.length (inL s)) (hd:s.length≤16) (l:Nat) :
    Calls Tryz.prog 171 #[.pointer (some ⟨b,o,none⟩),.int .u8 (l:Int)] w fun r w'=>r= .returned (.int .i64 (zhm D s h l:Nat))∧Below w.heap.size w w':=by
  have HM:=hid (zbn c.hd);have HO:=hid (zfu c.hd);have HMO:=hid (zot (majH h));have HOT:=hid (zv0 l);obtain⟨a,cp,hv,_,_⟩:=c.op.win.slice_form;subst hv;have c17:=c.cells.2.2.1;have HK:=hid (zago c.op.win hd);have HC:=hid (fun w1 (k:Below w.heap.size w w1)=>(And.intro (c.go k).cells.2.2.1 (c.go k).cells.1.2.1.1));rw[zaj7];have z3:((majH h:Int) !=3)= !decide (majH h=3):=by rw[Bool.eq_iff_iff];simp;omega
  have z6:((majH h:Int)==6)=decide (majH h=6):=by rw[Bool.eq_iff_iff,beq_iff_eq,decide_eq_true_eq];omega
  have z7:((majH h:Int)==7)=decide (majH h=7):=by rw[Bool.eq_iff_iff,beq_iff_eq,decide_eq_true_eq];omega
  have z4:((majH h:Int)==4)=decide (majH h=4):=by rw[Bool.eq_iff_iff,beq_iff_eq,decide_eq_true_eq];omega
  have z5:((majH h:Int)==5)=decide (majH h=5):=by rw[Bool.eq_iff_iff,beq_iff_eq,decide_eq_true_eq];omega
  have zD:((s.length:Int)==(D:Int))=decide (s.length=D):=by rw[Bool.eq_iff_iff,beq_iff_eq,decide_eq_true_eq];omega
  clear c hd;generalize keyB s=K at *
  generalize s.length=n at *
  generalize opnH h=O at *
  generalize decide (2≤majH h∧majH h≤5)=mo at *
  generalize decide (majH h=3)=b3 at *
  generalize decide (majH h=6)=b6 at *
  generalize decide (majH h=7)=b7 at *
  generalize decide (majH h=4)=b4 at *
  generalize decide (majH h=5)=b5 at *
  generalize decide (n=D)=bD at *
  generalize othE l=oe at *
  generalize majH h=M at *
  cases O with
  | false =>
    cases K with
    | false =>
      cases b6 with
      | false =>
        cases b7 with
        | false =>
          cases b4 with
          | false =>
            cases b5 with
            | false =>
              go_enter Tryz.func171,Tryz.ntmps171;(go_wp2_with fail);refine HM.out.mono ?_;rintro r w1 ⟨rfl,rfl⟩;(go_wp2_with fail);refine HO.out.mono ?_;rintro r w1 ⟨rfl,rfl⟩;(go_wp2_with fail);refine HK.out.mono ?_;rintro r w1 ⟨rfl,b1⟩;have B1:=hid b1;obtain⟨x17,x1⟩:=HC.out _ b1;clear b1;go_wp2
              go_quiet (fail)
              go_wp2;go_ret;exact⟨rfl,zat B1.out _⟩
            | true =>
              cases bD with
              | false =>
                go_enter Tryz.func171,Tryz.ntmps171;(go_wp2_with fail);refine HM.out.mono ?_;rintro r w1 ⟨rfl,rfl⟩;(go_wp2_with fail);refine HO.out.mono ?_;rintro r w1 ⟨rfl,rfl⟩;(go_wp2_with fail);refine HK.out.mono ?_;rintro r w1 ⟨rfl,b1⟩;have B1:=hid b1;obtain⟨x17,x1⟩:=HC.out _ b1;clear b1;go_wp2
                go_quiet (fail)
                go_wp2;go_ret;exact⟨rfl,zat B1.out _⟩
              | true =>
                go_enter Tryz.func171,Tryz.ntmps171;(go_wp2_with fail);refine HM.out.mono ?_;rintro r w1 ⟨rfl,rfl⟩;(go_wp2_with fail);refine HO.out.mono ?_;rintro r w1 ⟨rfl,rfl⟩;(go_wp2_with fail);refine HK.out.mono ?_;rintro r w1 ⟨rfl,b1⟩;have B1:=hid b1;obtain⟨x17,x1⟩:=HC.out _ b1;clear b1;go_wp2
                go_quiet (fail)
                go_wp2;go_ret;exact⟨rfl,zat B1.out _⟩
          | true =>
            cases bD with
            | false =>
              go_enter Tryz.func171,Tryz.ntmps171;(go_wp2_with fail);refine HM.out.mono ?_;rintro r w1 ⟨rfl,rfl⟩;(go_wp2_with fail);refine HO.out.mono ?_;rintro r w1 ⟨rfl,rfl⟩;(go_wp2_with fail);refine HK.out.mono ?_;rintro r w1 ⟨rfl,b1⟩;have B1:=hid b1;obtain⟨x17,x1⟩:=HC.out _ b1;clear b1;go_wp2
              go_quiet (fail)
              go_wp2;go_ret;exact⟨rfl,zat B1.out _⟩
            | true =>
              go_enter Tryz.func171,Tryz.ntmps171;(go_wp2_with fail);refine HM.out.mono ?_;rintro r w1 ⟨rfl,rfl⟩;(go_wp2_with fail);refine HO.out.mono ?_;rintro r w1 ⟨rfl,rfl⟩;(go_wp2_with fail);refine HK.out.mono ?_;rintro r w1 ⟨rfl,b1⟩;have B1:=hid b1;obtain⟨x17,x1⟩:=HC.out _ b1;clear b1;go_wp2
              go_quiet (fail)
              go_wp2;go_ret;exact⟨rfl,zat B1.out _⟩
        | true =>
          go_enter Tryz.func171,Tryz.ntmps171;(go_wp2_with fail);refine HM.out.mono ?_;rintro r w1 ⟨rfl,rfl⟩;(go_wp2_with fail);refine HO.out.mono ?_;rintro r w1 ⟨rfl,rfl⟩;(go_wp2_with fail);refine HK.out.mono ?_;rintro r w1 ⟨rfl,b1⟩;have B1:=hid b1;obtain⟨x17,x1⟩:=HC.out _ b1;clear b1;(go_wp2_with fail);refine(HOT.out _).mono ?_;rintro r w2 ⟨rfl,rfl⟩;go_wp2;go_ret;exact⟨rfl,B1.out⟩
      | true =>
        go_enter Tryz.func171,Tryz.ntmps171;(go_wp2_with fail);refine HM.out.mono ?_;rintro r w1 ⟨rfl,rfl⟩;(go_wp2_with fail);refine HO.out.mono ?_;rintro r w1 ⟨rfl,rfl⟩;(go_wp2_with fail);refine HK.out.mono ?_;rintro r w1 ⟨rfl,b1⟩;have B1:=hid b1;obtain⟨x17,x1⟩:=HC.out _ b1;clear b1;go_wp2;go_ret;exact⟨rfl,B1.out⟩
    | true =>
      cases b3 with
      | false =>
        go_enter Tryz.func171,Tryz.ntmps171;(go_wp2_with fail);refine HM.out.mono ?_;rintro r w1 ⟨rfl,rfl⟩;(go_wp2_with fail);refine HO.out.mono ?_;rintro r w1 ⟨rfl,rfl⟩;(go_wp2_with fail);refine HK.out.mono ?_;rintro r w1 ⟨rfl,b1⟩;have B1:=hid b1;obtain⟨x17,x1⟩:=HC.out _ b1;clear b1;go_wp2;go_ret;exact⟨rfl,B1.out⟩
      | true =>
        cases b6 with
        | false =>
          cases b7 with
          | false =>
            cases b4 with
            | false =>
              cases b5 with
              | false =>
                go_enter Tryz.func171,Tryz.ntmps171;(go_wp2_with fail);refine HM.out.mono ?_;rintro r w1 ⟨rfl,rfl⟩;(go_wp2_with fail);refine HO.out.mono ?_;rintro r w1 ⟨rfl,rfl⟩;(go_wp2_with fail);refine HK.out.mono ?_;rintro r w1 ⟨rfl,b1⟩;have B1:=hid b1;obtain⟨x17,x1⟩:=HC.out _ b1;clear b1;go_wp2
                go_quiet (fail)
                go_wp2;go_ret;exact⟨rfl,zat B1.out _⟩
              | true =>
                cases bD with
                | false =>
                  go_enter Tryz.func171,Tryz.ntmps171;(go_wp2_with fail);refine HM.out.mono ?_;rintro r w1 ⟨rfl,rfl⟩;(go_wp2_with fail);refine HO.out.mono ?_;rintro r w1 ⟨rfl,rfl⟩;(go_wp2_with fail);refine HK.out.mono ?_;rintro r w1 ⟨rfl,b1⟩;have B1:=hid b1;obtain⟨x17,x1⟩:=HC.out _ b1;clear b1;go_wp2
                  go_quiet (fail)
                  go_wp2;go_ret;exact⟨rfl,zat B1.out _⟩
                | true =>
                  go_enter Tryz.func171,Tryz.ntmps171;(go_wp2_with fail);refine HM.out.mono ?_;rintro r w1 ⟨rfl,rfl⟩;(go_wp2_with fail);refine HO.out.mono ?_;rintro r w1 ⟨rfl,rfl⟩;(go_wp2_with fail);refine HK.out.mono ?_;rintro r w1 ⟨rfl,b1⟩;have B1:=hid b1;obtain⟨x17,x1⟩:=HC.out _ b1;clear b1;go_wp2
                  go_quiet (fail)
                  go_wp2;go_ret;exact⟨rfl,zat B1.out _⟩
            | true =>
              cases bD with
              | false =>
                go_enter Tryz.func171,Tryz.ntmps171;(go_wp2_with fail);refine HM.out.mono ?_;rintro r w1 ⟨rfl,rfl⟩;(go_wp2_with fail);refine HO.out.mono ?_;rintro r w1 ⟨rfl,rfl⟩;(go_wp2_with fail);refine HK.out.mono ?_;rintro r w1 ⟨rfl,b1⟩;have B1:=hid b1;obtain⟨x17,x1⟩:=HC.out _ b1;clear b1;go_wp2
                go_quiet (fail)
                go_wp2;go_ret;exact⟨rfl,zat B1.out _⟩
              | true =>
                go_enter Tryz.func171,Tryz.ntmps171;(go_wp2_with fail);refine HM.out.mono ?_;rintro r w1 ⟨rfl,rfl⟩;(go_wp2_with fail);refine HO.out.mono ?_;rintro r w1 ⟨rfl,rfl⟩;(go_wp2_with fail);refine HK.out.mono ?_;rintro r w1 ⟨rfl,b1⟩;have B1:=hid b1;obtain⟨x17,x1⟩:=HC.out _ b1;clear b1;go_wp2
                go_quiet (fail)
                go_wp2;go_ret;exact⟨rfl,zat B1.out _⟩
          | true =>
            go_enter Tryz.func171,Tryz.ntmps171;(go_wp2_with fail);refine HM.out.mono ?_;rintro r w1 ⟨rfl,rfl⟩;(go_wp2_with fail);refine HO.out.mono ?_;rintro r w1 ⟨rfl,rfl⟩;(go_wp2_with fail);refine HK.out.mono ?_;rintro r w1 ⟨rfl,b1⟩;have B1:=hid b1;obtain⟨x17,x1⟩:=HC.out _ b1;clear b1;(go_wp2_with fail);refine(HOT.out _).mono ?_;rintro r w2 ⟨rfl,rfl⟩;go_wp2;go_ret;exact⟨rfl,B1.out⟩
        | true =>
          go_enter Tryz.func171,Tryz.ntmps171;(go_wp2_with fail);refine HM.out.mono ?_;rintro r w1 ⟨rfl,rfl⟩;(go_wp2_with fail);refine HO.out.mono ?_;rintro r w1 ⟨rfl,rfl⟩;(go_wp2_with fail);refine HK.out.mono ?_;rintro r w1 ⟨rfl,b1⟩;have B1:=hid b1;obtain⟨x17,x1⟩:=HC.out _ b1;clear b1;go_wp2;go_ret;exact⟨rfl,B1.out⟩
  | true =>
    cases mo with
    | false =>
      go_enter Tryz.func171,Tryz.ntmps171;(go_wp2_with fail);refine HM.out.mono ?_;rintro r w1 ⟨rfl,rfl⟩;(go_wp2_with fail);refine HO.out.mono ?_;rintro r w1 ⟨rfl,rfl⟩;(go_wp2_with fail);refine(HMO.out _).mono ?_;rintro r w1 ⟨rfl,rfl⟩;go_wp2;go_ret;exact⟨rfl,Below.refl _ _⟩
    | true =>
      cases K with
      | false =>
        cases b6 with
        | false =>
          cases b7 with
          | false =>
            cases b4 with
            | false =>
              cases b5 with
              | false =>
                go_enter Tryz.func171,Tryz.ntmps171;(go_wp2_with fail);refine HM.out.mono ?_;rintro r w1 ⟨rfl,rfl⟩;(go_wp2_with fail);refine HO.out.mono ?_;rintro r w1 ⟨rfl,rfl⟩;(go_wp2_with fail);refine(HMO.out _).mono ?_;rintro r w1 ⟨rfl,rfl⟩;(go_wp2_with fail);refine HK.out.mono ?_;rintro r w1 ⟨rfl,b1⟩;have B1:=hid b1;obtain⟨x17,x1⟩:=HC.out _ b1;clear b1;go_wp2
                go_quiet (fail)
                go_wp2;go_ret;exact⟨rfl,zat B1.out _⟩
              | true =>
                cases bD with
                | false =>
                  go_enter Tryz.func171,Tryz.ntmps171;(go_wp2_with fail);refine HM.out.mono ?_;rintro r w1 ⟨rfl,rfl⟩;(go_wp2_with fail);refine HO.out.mono ?_;rintro r w1 ⟨rfl,rfl⟩;(go_wp2_with fail);refine(HMO.out _).mono ?_;rintro r w1 ⟨rfl,rfl⟩;(go_wp2_with fail);refine HK.out.mono ?_;rintro r w1 ⟨rfl,b1⟩;have B1:=hid b1;obtain⟨x17,x1⟩:=HC.out _ b1;clear b1;go_wp2
                  go_quiet (fail)
                  go_wp2;go_ret;exact⟨rfl,zat B1.out _⟩
                | true =>
                  go_enter Tryz.func171,Tryz.ntmps171;(go_wp2_with fail);refine HM.out.mono ?_;rintro r w1 ⟨rfl,rfl⟩;(go_wp2_with fail);refine HO.out.mono ?_;rintro r w1 ⟨rfl,rfl⟩;(go_wp2_with fail);refine(HMO.out _).mono ?_;rintro r w1 ⟨rfl,rfl⟩;(go_wp2_with fail);refine HK.out.mono ?_;rintro r w1 ⟨rfl,b1⟩;have B1:=hid b1;obtain⟨x17,x1⟩:=HC.out _ b1;clear b1;go_wp2
                  go_quiet (fail)
                  go_wp2;go_ret;exact⟨rfl,zat B1.out _⟩
            | true =>
              cases bD with
              | false =>
                go_enter Tryz.func171,Tryz.ntmps171;(go_wp2_with fail);refine HM.out.mono ?_;rintro r w1 ⟨rfl,rfl⟩;(go_wp2_with fail);refine HO.out.mono ?_;rintro r w1 ⟨rfl,rfl⟩;(go_wp2_with fail);refine(HMO.out _).mono ?_;rintro r w1 ⟨rfl,rfl⟩;(go_wp2_with fail);refine HK.out.mono ?_;rintro r w1 ⟨rfl,b1⟩;have B1:=hid b1;obtain⟨x17,x1⟩:=HC.out _ b1;clear b1;go_wp2
                go_quiet (fail)
                go_wp2;go_ret;exact⟨rfl,zat B1.out _⟩
              | true =>
                go_enter Tryz.func171,Tryz.ntmps171;(go_wp2_with fail);refine HM.out.mono ?_;rintro r w1 ⟨rfl,rfl⟩;(go_wp2_with fail);refine HO.out.mono ?_;rintro r w1 ⟨rfl,rfl⟩;(go_wp2_with fail);refine(HMO.out _).mono ?_;rintro r w1 ⟨rfl,rfl⟩;(go_wp2_with fail);refine HK.out.mono ?_;rintro r w1 ⟨rfl,b1⟩;have B1:=hid b1;obtain⟨x17,x1⟩:=HC.out _ b1;clear b1;go_wp2
                go_quiet (fail)
                go_wp2;go_ret;exact⟨rfl,zat B1.out _⟩
          | true =>
            go_enter Tryz.func171,Tryz.ntmps171;(go_wp2_with fail);refine HM.out.mono ?_;rintro r w1 ⟨rfl,rfl⟩;(go_wp2_with fail);refine HO.out.mono ?_;rintro r w1 ⟨rfl,rfl⟩;(go_wp2_with fail);refine(HMO.out _).mono ?_;rintro r w1 ⟨rfl,rfl⟩;(go_wp2_with fail);refine HK.out.mono ?_;rintro r w1 ⟨rfl,b1⟩;have B1:=hid b1;obtain⟨x17,x1⟩:=HC.out _ b1;clear b1;(go_wp2_with fail);refine(HOT.out _).mono ?_;rintro r w2 ⟨rfl,rfl⟩;go_wp2;go_ret;exact⟨rfl,B1.out⟩
        | true =>
          go_enter Tryz.func171,Tryz.ntmps171;(go_wp2_with fail);refine HM.out.mono ?_;rintro r w1 ⟨rfl,rfl⟩;(go_wp2_with fail);refine HO.out.mono ?_;rintro r w1 ⟨rfl,rfl⟩;(go_wp2_with fail);refine(HMO.out _).mono ?_;rintro r w1 ⟨rfl,rfl⟩;(go_wp2_with fail);refine HK.out.mono ?_;rintro r w1 ⟨rfl,b1⟩;have B1:=hid b1;obtain⟨x17,x1⟩:=HC.out _ b1;clear b1;go_wp2;go_ret;exact⟨rfl,B1.out⟩
      | true =>
        cases b3 with
        | false =>
          go_enter Tryz.func171,Tryz.ntmps171;(go_wp2_with fail);refine HM.out.mono ?_;rintro r w1 ⟨rfl,rfl⟩;(go_wp2_with fail);refine HO.out.mono ?_;rintro r w1 ⟨rfl,rfl⟩;(go_wp2_with fail);refine(HMO.out _).mono ?_;rintro r w1 ⟨rfl,rfl⟩;(go_wp2_with fail);refine HK.out.mono ?_;rintro r w1 ⟨rfl,b1⟩;have B1:=hid b1;obtain⟨x17,x1⟩:=HC.out _ b1;clear b1;go_wp2;go_ret;exact⟨rfl,B1.out⟩
        | true =>
          cases b6 with
          | false =>
            cases b7 with
            | false =>
              cases b4 with
              | false =>
                cases b5 with
                | false =>
                  go_enter Tryz.func171,Tryz.ntmps171;(go_wp2_with fail);refine HM.out.mono ?_;rintro r w1 ⟨rfl,rfl⟩;(go_wp2_with fail);refine HO.out.mono ?_;rintro r w1 ⟨rfl,rfl⟩;(go_wp2_with fail);refine(HMO.out _).mono ?_;rintro r w1 ⟨rfl,rfl⟩;(go_wp2_with fail);refine HK.out.mono ?_;rintro r w1 ⟨rfl,b1⟩;have B1:=hid b1;obtain⟨x17,x1⟩:=HC.out _ b1;clear b1;go_wp2
                  go_quiet (fail)
                  go_wp2;go_ret;exact⟨rfl,zat B1.out _⟩
                | true =>
                  cases bD with
                  | false =>
                    go_enter Tryz.func171,Tryz.ntmps171;(go_wp2_with fail);refine HM.out.mono ?_;rintro r w1 ⟨rfl,rfl⟩;(go_wp2_with fail);refine HO.out.mono ?_;rintro r w1 ⟨rfl,rfl⟩;(go_wp2_with fail);refine(HMO.out _).mono ?_;rintro r w1 ⟨rfl,rfl⟩;(go_wp2_with fail);refine HK.out.mono ?_;rintro r w1 ⟨rfl,b1⟩;have B1:=hid b1;obtain⟨x17,x1⟩:=HC.out _ b1;clear b1;go_wp2
                    go_quiet (fail)
                    go_wp2;go_ret;exact⟨rfl,zat B1.out _⟩
                  | true =>
                    go_enter Tryz.func171,Tryz.ntmps171;(go_wp2_with fail);refine HM.out.mono ?_;rintro r w1 ⟨rfl,rfl⟩;(go_wp2_with fail);refine HO.out.mono ?_;rintro r w1 ⟨rfl,rfl⟩;(go_wp2_with fail);refine(HMO.out _).mono ?_;rintro r w1 ⟨rfl,rfl⟩;(go_wp2_with fail);refine HK.out.mono ?_;rintro r w1 ⟨rfl,b1⟩;have B1:=hid b1;obtain⟨x17,x1⟩:=HC.out _ b1;clear b1;go_wp2
                    go_quiet (fail)
                    go_wp2;go_ret;exact⟨rfl,zat B1.out _⟩
              | true =>
                cases bD with
                | false =>
                  go_enter Tryz.func171,Tryz.ntmps171;(go_wp2_with fail);refine HM.out.mono ?_;rintro r w1 ⟨rfl,rfl⟩;(go_wp2_with fail);refine HO.out.mono ?_;rintro r w1 ⟨rfl,rfl⟩;(go_wp2_with fail);refine(HMO.out _).mono ?_;rintro r w1 ⟨rfl,rfl⟩;(go_wp2_with fail);refine HK.out.mono ?_;rintro r w1 ⟨rfl,b1⟩;have B1:=hid b1;obtain⟨x17,x1⟩:=HC.out _ b1;clear b1;go_wp2
                  go_quiet (fail)
                  go_wp2;go_ret;exact⟨rfl,zat B1.out _⟩
                | true =>
                  go_enter Tryz.func171,Tryz.ntmps171;(go_wp2_with fail);refine HM.out.mono ?_;rintro r w1 ⟨rfl,rfl⟩;(go_wp2_with fail);refine HO.out.mono ?_;rintro r w1 ⟨rfl,rfl⟩;(go_wp2_with fail);refine(HMO.out _).mono ?_;rintro r w1 ⟨rfl,rfl⟩;(go_wp2_with fail);refine HK.out.mono ?_;rintro r w1 ⟨rfl,b1⟩;have B1:=hid b1;obtain⟨x17,x1⟩:=HC.out _ b1;clear b1;go_wp2
                  go_quiet (fail)
                  go_wp2;go_ret;exact⟨rfl,zat B1.out _⟩
            | true =>
              go_enter Tryz.func171,Tryz.ntmps171;(go_wp2_with fail);refine HM.out.mono ?_;rintro r w1 ⟨rfl,rfl⟩;(go_wp2_with fail);refine HO.out.mono ?_;rintro r w1 ⟨rfl,rfl⟩;(go_wp2_with fail);refine(HMO.out _).mono ?_;rintro r w1 ⟨rfl,rfl⟩;(go_wp2_with fail);refine HK.out.mono ?_;rintro r w1 ⟨rfl,b1⟩;have B1:=hid b1;obtain⟨x17,x1⟩:=HC.out _ b1;clear b1;(go_wp2_with fail);refine(HOT.out _).mono ?_;rintro r w2 ⟨rfl,rfl⟩;go_wp2;go_ret;exact⟨rfl,B1.out⟩
          | true =>
            go_enter Tryz.func171,Tryz.ntmps171;(go_wp2_with fail);refine HM.out.mono ?_;rintro r w1 ⟨rfl,rfl⟩;(go_wp2_with fail);refine HO.out.mono ?_;rintro r w1 ⟨rfl,rfl⟩;(go_wp2_with fail);refine(HMO.out _).mono ?_;rintro r w1 ⟨rfl,rfl⟩;(go_wp2_with fail);refine HK.out.mono ?_;rintro r w1 ⟨rfl,b1⟩;have B1:=hid b1;obtain⟨x17,x1⟩:=HC.out _ b1;clear b1;go_wp2;go_ret;exact⟨rfl,B1.out⟩
end
end Go.Proofs.YtpaciekgbhoncaaGreat
