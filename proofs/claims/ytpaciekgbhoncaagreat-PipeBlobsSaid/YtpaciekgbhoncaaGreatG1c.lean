/-
  Parts: CinPk, CinPm, CinPl, CinPn.
-/
import Derived.Test.YtpaciekgbhoncaaGreatG1b
set_option maxRecDepth 100000
set_option maxHeartbeats 16000000
open Go.Lib (hid)
namespace Go.Proofs.YtpaciekgbhoncaaGreat
section
open Go.RowKit
open Go.Lib
def simE (v:Nat):Ev:=if v=22 then zcy else zbt (decide (v=21))
theorem zut (v:Nat) (w:World):Calls Tryz.prog 179 #[.int .u64 (v:Int)] w fun r w'=>r= .returned (valE (simE v))∧w=w':=by
 unfold simE;by_cases h:v=22
 ·subst h
  rw[if_pos rfl];go_enter Tryz.func179,Tryz.ntmps179;go_wp2;go_ret;exact⟨rfl,rfl⟩
 ·rw[if_neg h]
  have z1:((v:Int)==22)=false:=by rw[beq_eq_false_iff_ne];omega
  have z2:((v:Int)==21)=decide (v=21):=by rw[Bool.eq_iff_iff,beq_iff_eq,decide_eq_true_eq];omega
  generalize decide (v=21)=B at *
  rw[show valE (zbt B)= .iface 4 (.bool B) from rfl];clear h;go_enter Tryz.func179,Tryz.ntmps179;go_wp2;go_ret;exact⟨rfl,rfl⟩
theorem zvh {w0 w w1:World} {b o D:Nat} {vt vs:Value} {s:List Bx} (c:CP w b o D 0 .new 0 false 0 vt [] st0 vs s.length (inL s)) (hl:Low w0 w b vs) (hvt:∀k∈Value.owner vt,k<w0.heap.size) (hk:OkS s) (hm:∀x∈s,x.have_+1≤2000000000) (hB:Below w.heap.size w w1) (e:Ev) (g:Nat) (hg:g=w1.heap.size) :
  Calls Tryz.prog 175 #[.pointer (some ⟨b,o,none⟩),.slice (some ⟨g,0,none⟩) 1 1] (w1.alloc (.cells #[valE e] 20)) fun r w'=>∃x,r= .returned x∧GoR w0 w w' b o D vt vs (putC s e) x:=by
 subst hg;have h2:Below w.heap.size w (w1.alloc (.cells #[valE e] 20)):=zaa hB _;have hc2:CP (w1.alloc (.cells #[valE e] 20)) b o D 0 .new 0 false 0 vt [] st0 vs (incB s).length (outL (incB s)):=by
  rw[zbh,zlt];exact c.go h2
 have hv:Vls w0 (w1.alloc (.cells #[valE e] 20)) (.slice (some ⟨w1.heap.size,0,none⟩) 1 1) [e]:=⟨zfv w1 _ _ _ rfl,fun k hk=>by
  simp only[Value.owner,List.mem_singleton] at hk;have:=hl.size;have:=hB.size;omega⟩
 refine(zlr (w0:=w0) hc2 hv (by simp) (Nat.le_trans hl.size h2.size) hl.b hvt hl.vs (zj4 hk hm).1 (zj4 hk hm).2).mono ?_;rintro r w' ⟨x,rfl,hR⟩;exact⟨x,rfl,zli hR (.inr rfl) rfl (fun k hk=>by
  simp only[Value.owner,List.mem_singleton] at hk;have:=hB.size;omega) (zae h2 c.lt _ _ _)⟩
def begC (s:List Bx) (M v:Nat) (q:Bool):Ci×List Ev :=
 if M<2 then putC s (za5 (decide (M=1)) v) else if M<4 then expC s (decide (M=3)) q [] v st0 else if M<6 then conC s (decide (M=5)) v q
 else if q=true then(match s with | []=>(.bad 2,[])|_::r=>(atC r,zbm::zes r)) else putC s (simE v)
theorem zafl {w0 w:World} {b o D:Nat} {vt:Value} {vs:Value} {s:List Bx} (c:CP w b o D 0 .new 0 false 0 vt [] st0 vs s.length (inL s)) (hl:Low w0 w b vs) (hvt:∀k∈Value.owner vt,k<w0.heap.size) (hk:OkS s) (hm:∀x∈s,x.have_+1≤2000000000) {v:Nat} {q:Bool} (hW:WfH (.fin 0 v q)) :
  Calls Tryz.prog 165 #[.pointer (some ⟨b,o,none⟩),.agg #[.int .i64 0,.int .i64 2,.int .i64 0,.bool q,.int .i64 0,.int .u64 (v:Nat)]] w fun r w' =>
   ∃x,r= .returned (.tuple #[x,.int .i64 0])∧GoR w0 w w' b o D vt vs (putC s (za5 false v)) x:=by
 have hB:Below w.heap.size w (w.alloc (.cells #[.int .i64 0,.int .i64 2,.int .i64 0,.bool q,.int .i64 0,.int .u64 (v:Nat)] 142)):=zaa (Below.refl _ _) _;have HX:Hid (HAt (w.alloc (.cells #[.int .i64 0,.int .i64 2,.int .i64 0,.bool q,.int .i64 0,.int .u64 (v:Nat)] 142)) w.heap.size 0 (.fin 0 v q)):=hid (zb8 hW rfl w 142);have HV:=hid (zbi HX.out);have HM:=hid (zbn HX.out);simp only[valH,majH] at HV HM;have HE:=hid (zvh (w0:=w0) c hl hvt hk hm hB (za5 false v) (w.heap.size+1) (by simp));rw[show valE (za5 false v)= .iface 93 (.agg #[.bool false,.int .u64 (v:Nat)]) from rfl] at HE;clear c hB hl hvt hk hm hW HX;go_enter Tryz.func165,Tryz.ntmps165;(go_wp2_with fail);refine HM.out.mono ?_;rintro r w1 ⟨rfl,rfl⟩;(go_wp2_with fail);refine HM.out.mono ?_;rintro r w1 ⟨rfl,rfl⟩;(go_wp2_with fail);refine HV.out.mono ?_;rintro r w1 ⟨rfl,rfl⟩;(go_wp2_with fail);refine HE.out.mono ?_;rintro r w' ⟨x,rfl,hR⟩;have HR:=hid hR;clear hR;go_wp2;go_ret2;exact⟨x,rfl,HR.out⟩
theorem zabz {w0 w:World} {b o D:Nat} {vt:Value} {vs:Value} {s:List Bx} (c:CP w b o D 0 .new 0 false 0 vt [] st0 vs s.length (inL s)) (hl:Low w0 w b vs) (hvt:∀k∈Value.owner vt,k<w0.heap.size) (hk:OkS s) (hm:∀x∈s,x.have_+1≤2000000000) {v:Nat} {q:Bool} (hW:WfH (.fin 1 v q)) :
  Calls Tryz.prog 165 #[.pointer (some ⟨b,o,none⟩),.agg #[.int .i64 0,.int .i64 2,.int .i64 1,.bool q,.int .i64 0,.int .u64 (v:Nat)]] w fun r w' =>
   ∃x,r= .returned (.tuple #[x,.int .i64 0])∧GoR w0 w w' b o D vt vs (putC s (za5 true v)) x:=by
 have hB:Below w.heap.size w (w.alloc (.cells #[.int .i64 0,.int .i64 2,.int .i64 1,.bool q,.int .i64 0,.int .u64 (v:Nat)] 142)):=zaa (Below.refl _ _) _;have HX:Hid (HAt (w.alloc (.cells #[.int .i64 0,.int .i64 2,.int .i64 1,.bool q,.int .i64 0,.int .u64 (v:Nat)] 142)) w.heap.size 0 (.fin 1 v q)):=hid (zb8 hW rfl w 142);have HV:=hid (zbi HX.out);have HM:=hid (zbn HX.out);simp only[valH,majH] at HV HM;have HE:=hid (zvh (w0:=w0) c hl hvt hk hm hB (za5 true v) (w.heap.size+1) (by simp));rw[show valE (za5 true v)= .iface 93 (.agg #[.bool true,.int .u64 (v:Nat)]) from rfl] at HE;clear c hB hl hvt hk hm hW HX;go_enter Tryz.func165,Tryz.ntmps165;(go_wp2_with fail);refine HM.out.mono ?_;rintro r w1 ⟨rfl,rfl⟩;(go_wp2_with fail);refine HM.out.mono ?_;rintro r w1 ⟨rfl,rfl⟩;(go_wp2_with fail);refine HV.out.mono ?_;rintro r w1 ⟨rfl,rfl⟩;(go_wp2_with fail);refine HE.out.mono ?_;rintro r w' ⟨x,rfl,hR⟩;have HR:=hid hR;clear hR;go_wp2;go_ret2;exact⟨x,rfl,HR.out⟩
theorem zae1 {w0 w:World} {b o D:Nat} {vt:Value} {vs:Value} {s:List Bx} (c:CP w b o D 0 .new 0 false 0 vt [] st0 vs s.length (inL s)) (hl:Low w0 w b vs) (_:∀k∈Value.owner vt,k<w0.heap.size) (hk:OkS s) (hm:∀x∈s,x.have_+1≤2000000000) {v:Nat} {q:Bool} (hW:WfH (.fin 2 v q)) :
  Calls Tryz.prog 165 #[.pointer (some ⟨b,o,none⟩),.agg #[.int .i64 0,.int .i64 2,.int .i64 2,.bool q,.int .i64 0,.int .u64 (v:Nat)]] w fun r w' =>
   ∃x,r= .returned (.tuple #[x,.int .i64 (zbs (expC s false q [] v st0).1:Nat)])∧GoR w0 w w' b o D vt vs (expC s false q [] v st0) x:=by
 have hB:Below w.heap.size w (w.alloc (.cells #[.int .i64 0,.int .i64 2,.int .i64 2,.bool q,.int .i64 0,.int .u64 (v:Nat)] 142)):=zaa (Below.refl _ _) _;have HX:Hid (HAt (w.alloc (.cells #[.int .i64 0,.int .i64 2,.int .i64 2,.bool q,.int .i64 0,.int .u64 (v:Nat)] 142)) w.heap.size 0 (.fin 2 v q)):=hid (zb8 hW rfl w 142);have HV:=hid (zbi HX.out);have HM:=hid (zbn HX.out);simp only[valH,majH] at HV HM;have HE:=hid (zhb (m:=false) (c.go hB) (hl.up hB) hk hm hW);have HF:=hid (And.intro hB c.lt);obtain⟨⟨x0,_⟩,⟨x1,_⟩,⟨x2,_⟩,⟨x3,_⟩,⟨x4,_⟩,⟨x5,_⟩⟩:=HX.out.2.six;clear c hB hl hk hm hW HX;go_enter Tryz.func165,Tryz.ntmps165;(go_wp2_with fail);refine HM.out.mono ?_;rintro r w1 ⟨rfl,rfl⟩;(go_wp2_with fail);refine HE.out.mono ?_;rintro r w' ⟨x,rfl,hR⟩;have HR:=hid hR;clear hR;go_wp2;go_ret2;exact⟨x,rfl,HR.out.up HF.out.1 HF.out.2⟩
theorem zad0 {w0 w:World} {b o D:Nat} {vt:Value} {vs:Value} {s:List Bx} (c:CP w b o D 0 .new 0 false 0 vt [] st0 vs s.length (inL s)) (hl:Low w0 w b vs) (_:∀k∈Value.owner vt,k<w0.heap.size) (hk:OkS s) (hm:∀x∈s,x.have_+1≤2000000000) {v:Nat} {q:Bool} (hW:WfH (.fin 3 v q)) :
  Calls Tryz.prog 165 #[.pointer (some ⟨b,o,none⟩),.agg #[.int .i64 0,.int .i64 2,.int .i64 3,.bool q,.int .i64 0,.int .u64 (v:Nat)]] w fun r w' =>
   ∃x,r= .returned (.tuple #[x,.int .i64 (zbs (expC s true q [] v st0).1:Nat)])∧GoR w0 w w' b o D vt vs (expC s true q [] v st0) x:=by
 have hB:Below w.heap.size w (w.alloc (.cells #[.int .i64 0,.int .i64 2,.int .i64 3,.bool q,.int .i64 0,.int .u64 (v:Nat)] 142)):=zaa (Below.refl _ _) _;have HX:Hid (HAt (w.alloc (.cells #[.int .i64 0,.int .i64 2,.int .i64 3,.bool q,.int .i64 0,.int .u64 (v:Nat)] 142)) w.heap.size 0 (.fin 3 v q)):=hid (zb8 hW rfl w 142);have HV:=hid (zbi HX.out);have HM:=hid (zbn HX.out);simp only[valH,majH] at HV HM;have HE:=hid (zhb (m:=true) (c.go hB) (hl.up hB) hk hm hW);have HF:=hid (And.intro hB c.lt);obtain⟨⟨x0,_⟩,⟨x1,_⟩,⟨x2,_⟩,⟨x3,_⟩,⟨x4,_⟩,⟨x5,_⟩⟩:=HX.out.2.six;clear c hB hl hk hm hW HX;go_enter Tryz.func165,Tryz.ntmps165;(go_wp2_with fail);refine HM.out.mono ?_;rintro r w1 ⟨rfl,rfl⟩;(go_wp2_with fail);refine HE.out.mono ?_;rintro r w' ⟨x,rfl,hR⟩;have HR:=hid hR;clear hR;go_wp2;go_ret2;exact⟨x,rfl,HR.out.up HF.out.1 HF.out.2⟩
theorem zaby {w0 w:World} {b o D:Nat} {vt:Value} {vs:Value} {s:List Bx} (c:CP w b o D 0 .new 0 false 0 vt [] st0 vs s.length (inL s)) (hl:Low w0 w b vs) (hvt:∀k∈Value.owner vt,k<w0.heap.size) (hk:OkS s) (hm:∀x∈s,x.have_+1≤2000000000) (hd:s.length<16) {v:Nat} {q:Bool} (hq:q=true→v=0) (hW:WfH (.fin 4 v q)) :
    Calls Tryz.prog 165 #[.pointer (some ⟨b,o,none⟩),.agg #[.int .i64 0,.int .i64 2,.int .i64 4,.bool q,.int .i64 0,.int .u64 (v:Nat)]] w fun r w' =>
      ∃x,r= .returned (.tuple #[x,.int .i64 (zbs (conC s false v q).1:Nat)])∧GoR w0 w w' b o D vt vs (conC s false v q) x:=by
  have hB : Below w.heap.size w (w.alloc (.cells #[.int .i64 0,.int .i64 2,.int .i64 4,.bool q,.int .i64 0,.int .u64 (v:Nat)] 142)):=zaa (Below.refl _ _) _;have HX:Hid (HAt (w.alloc (.cells #[.int .i64 0,.int .i64 2,.int .i64 4,.bool q,.int .i64 0,.int .u64 (v:Nat)] 142)) w.heap.size 0 (.fin 4 v q)):=hid (zb8 hW rfl w 142);have HV:=hid (zbi HX.out);have HM:=hid (zbn HX.out);simp only[valH,majH] at HV HM;have hE:Calls Tryz.prog 177 #[.pointer (some ⟨b,o,none⟩),.agg #[.int .i64 0,.int .i64 2,.int .i64 4,.bool q,.int .i64 0,.int .u64 (v:Nat)]] (w.alloc (.cells #[.int .i64 0,.int .i64 2,.int .i64 4,.bool q,.int .i64 0,.int .u64 (v:Nat)] 142)) fun r w' =>
      ∃x,r= .returned (.tuple #[x,.int .i64 (zbs (conC s false v q).1:Nat)])∧GoR w0 (w.alloc (.cells #[.int .i64 0,.int .i64 2,.int .i64 4,.bool q,.int .i64 0,.int .u64 (v:Nat)] 142)) w' b o D vt vs (conC s false v q) x:=by
    have c1:=c.go hB;have hl1:=hl.up hB;unfold conC;by_cases hbig:1000000<v
    · rw[if_pos hbig]
      exact zxz c1 hW hbig
    · rw [if_neg hbig,zjc]
      cases q with
      | true =>
        rw[if_pos rfl];exact zqr c1 hl1 hd (by decide) (by omega) hW
      | false =>
        rw[if_neg (by decide)];by_cases hv0:v=0
        · subst hv0
          exact zqt c1 hl1 hk hm hvt (by decide) hW
        · exact zn5 c1 hl1 hd (by decide) (by omega) (by omega) hW
  have HE:=hid hE;have HF:=hid (And.intro hB c.lt);obtain⟨⟨x0,_⟩,⟨x1,_⟩,⟨x2,_⟩,⟨x3,_⟩,⟨x4,_⟩,⟨x5,_⟩⟩:=HX.out.2.six;clear c hB hl hvt hk hm hW HX hE hd hq;go_enter Tryz.func165,Tryz.ntmps165;(go_wp2_with fail);refine HM.out.mono ?_;rintro r w1 ⟨rfl,rfl⟩;(go_wp2_with fail);refine HE.out.mono ?_;rintro r w' ⟨x,rfl,hR⟩;have HR:=hid hR;clear hR;go_wp2;go_ret2;exact⟨x,rfl,HR.out.up HF.out.1 HF.out.2⟩
theorem zacl {w0 w:World} {b o D:Nat} {vt:Value} {vs:Value} {s:List Bx} (c:CP w b o D 0 .new 0 false 0 vt [] st0 vs s.length (inL s)) (hl:Low w0 w b vs) (hvt:∀k∈Value.owner vt,k<w0.heap.size) (hk:OkS s) (hm:∀x∈s,x.have_+1≤2000000000) (hd:s.length<16) {v:Nat} {q:Bool} (hq:q=true→v=0) (hW:WfH (.fin 5 v q)) :
    Calls Tryz.prog 165 #[.pointer (some ⟨b,o,none⟩),.agg #[.int .i64 0,.int .i64 2,.int .i64 5,.bool q,.int .i64 0,.int .u64 (v:Nat)]] w fun r w' =>
      ∃x,r= .returned (.tuple #[x,.int .i64 (zbs (conC s true v q).1:Nat)])∧GoR w0 w w' b o D vt vs (conC s true v q) x:=by
  have hB : Below w.heap.size w (w.alloc (.cells #[.int .i64 0,.int .i64 2,.int .i64 5,.bool q,.int .i64 0,.int .u64 (v:Nat)] 142)):=zaa (Below.refl _ _) _;have HX:Hid (HAt (w.alloc (.cells #[.int .i64 0,.int .i64 2,.int .i64 5,.bool q,.int .i64 0,.int .u64 (v:Nat)] 142)) w.heap.size 0 (.fin 5 v q)):=hid (zb8 hW rfl w 142);have HV:=hid (zbi HX.out);have HM:=hid (zbn HX.out);simp only[valH,majH] at HV HM;have hE:Calls Tryz.prog 177 #[.pointer (some ⟨b,o,none⟩),.agg #[.int .i64 0,.int .i64 2,.int .i64 5,.bool q,.int .i64 0,.int .u64 (v:Nat)]] (w.alloc (.cells #[.int .i64 0,.int .i64 2,.int .i64 5,.bool q,.int .i64 0,.int .u64 (v:Nat)] 142)) fun r w' =>
      ∃x,r= .returned (.tuple #[x,.int .i64 (zbs (conC s true v q).1:Nat)])∧GoR w0 (w.alloc (.cells #[.int .i64 0,.int .i64 2,.int .i64 5,.bool q,.int .i64 0,.int .u64 (v:Nat)] 142)) w' b o D vt vs (conC s true v q) x:=by
    have c1:=c.go hB;have hl1:=hl.up hB;unfold conC;by_cases hbig:1000000<v
    · rw[if_pos hbig]
      exact zxz c1 hW hbig
    · rw [if_neg hbig,zjc]
      cases q with
      | true =>
        rw[if_pos rfl];exact zqr c1 hl1 hd (by decide) (by omega) hW
      | false =>
        rw[if_neg (by decide)];by_cases hv0:v=0
        · subst hv0
          exact zqt c1 hl1 hk hm hvt (by decide) hW
        · exact zn5 c1 hl1 hd (by decide) (by omega) (by omega) hW
  have HE:=hid hE;have HF:=hid (And.intro hB c.lt);obtain⟨⟨x0,_⟩,⟨x1,_⟩,⟨x2,_⟩,⟨x3,_⟩,⟨x4,_⟩,⟨x5,_⟩⟩:=HX.out.2.six;clear c hB hl hvt hk hm hW HX hE hd hq;go_enter Tryz.func165,Tryz.ntmps165;(go_wp2_with fail);refine HM.out.mono ?_;rintro r w1 ⟨rfl,rfl⟩;(go_wp2_with fail);refine HE.out.mono ?_;rintro r w' ⟨x,rfl,hR⟩;have HR:=hid hR;clear hR;go_wp2;go_ret2;exact⟨x,rfl,HR.out.up HF.out.1 HF.out.2⟩
theorem zac9 {w0 w:World} {b o D:Nat} {vt:Value} {vs:Value} {s:List Bx} (c:CP w b o D 0 .new 0 false 0 vt [] st0 vs s.length (inL s)) (hl:Low w0 w b vs) (hvt:∀k∈Value.owner vt,k<w0.heap.size) (hk:OkS s) (hm:∀x∈s,x.have_+1≤2000000000) {v:Nat} (hW:WfH (.fin 7 v false)) :
  Calls Tryz.prog 165 #[.pointer (some ⟨b,o,none⟩),.agg #[.int .i64 0,.int .i64 2,.int .i64 7,.bool false,.int .i64 0,.int .u64 (v:Nat)]] w fun r w' =>
   ∃x,r= .returned (.tuple #[x,.int .i64 0])∧GoR w0 w w' b o D vt vs (putC s (simE v)) x:=by
 have hB:Below w.heap.size w (w.alloc (.cells #[.int .i64 0,.int .i64 2,.int .i64 7,.bool false,.int .i64 0,.int .u64 (v:Nat)] 142)):=zaa (Below.refl _ _) _;have HX:Hid (HAt (w.alloc (.cells #[.int .i64 0,.int .i64 2,.int .i64 7,.bool false,.int .i64 0,.int .u64 (v:Nat)] 142)) w.heap.size 0 (.fin 7 v false)):=hid (zb8 hW rfl w 142);have HV:=hid (zbi HX.out);have HM:=hid (zbn HX.out);simp only[valH,majH] at HV HM;have HBR:Hid (∀W:World,Calls Tryz.prog 169 #[.agg #[.int .i64 0,.int .i64 2,.int .i64 7,.bool false,.int .i64 0,.int .u64 (v:Nat)]] W fun r w'=>r= .returned (.bool false)∧Below W.heap.size W w'):=hid (fun W=>zi8 hW rfl W);have HV2:=hid (fun w1 (k:Below (w.alloc (.cells #[.int .i64 0,.int .i64 2,.int .i64 7,.bool false,.int .i64 0,.int .u64 (v:Nat)] 142)).heap.size (w.alloc (.cells #[.int .i64 0,.int .i64 2,.int .i64 7,.bool false,.int .i64 0,.int .u64 (v:Nat)] 142)) w1)=>zbi (HX.out.keep (k.block w.heap.size (by simp)):HAt w1 w.heap.size 0 (.fin 7 v false)));simp only[valH] at HV2;have HS:=hid (fun W=>zut v W);obtain⟨T,y,hT⟩:∃T y,valE (simE v)= .iface T y∨valE (simE v)= .nilIface:=by
  unfold simE;split
  ·exact⟨0,.bool true,.inr rfl⟩
  ·exact⟨_,_,.inl rfl⟩
 have HE:=hid (fun w1 (k:Below w.heap.size w w1)=>zvh (w0:=w0) c hl hvt hk hm k (simE v) _ rfl);have HF:=hid (And.intro hB c.lt);obtain⟨⟨x0,_⟩,⟨x1,_⟩,⟨x2,_⟩,⟨x3,_⟩,⟨x4,_⟩,⟨x5,_⟩⟩:=HX.out.2.six;clear c hB hl hvt hk hm hW HX;rcases hT with hT|hT
 ·go_enter Tryz.func165,Tryz.ntmps165
  (go_wp2_with fail);refine HM.out.mono ?_;rintro r w1 ⟨rfl,rfl⟩;(go_wp2_with fail);refine(HBR.out _).mono ?_;rintro r w1 ⟨rfl,b1⟩;have HV3:=hid (HV2.out w1 b1);have B1:=hid (zab HF.out.1 b1);clear b1;(go_wp2_with fail);refine HV3.out.mono ?_;rintro r w1 ⟨rfl,rfl⟩;(go_wp2_with fail);refine(HS.out _).mono ?_;rintro r w1 ⟨rfl,rfl⟩;rw[hT];have HE1:=hid (HE.out _ B1.out);rw[hT] at HE1;(go_wp2_with fail);refine HE1.out.mono ?_;rintro r w' ⟨x,rfl,hR⟩;have HR:=hid hR;clear hR;go_wp2;go_ret2;exact⟨x,rfl,HR.out⟩
 ·go_enter Tryz.func165,Tryz.ntmps165
  (go_wp2_with fail);refine HM.out.mono ?_;rintro r w1 ⟨rfl,rfl⟩;(go_wp2_with fail);refine(HBR.out _).mono ?_;rintro r w1 ⟨rfl,b1⟩;have HV3:=hid (HV2.out w1 b1);have B1:=hid (zab HF.out.1 b1);clear b1;(go_wp2_with fail);refine HV3.out.mono ?_;rintro r w1 ⟨rfl,rfl⟩;(go_wp2_with fail);refine(HS.out _).mono ?_;rintro r w1 ⟨rfl,rfl⟩;rw[hT];have HE1:=hid (HE.out _ B1.out);rw[hT] at HE1;(go_wp2_with fail);refine HE1.out.mono ?_;rintro r w' ⟨x,rfl,hR⟩;have HR:=hid hR;clear hR;go_wp2;go_ret2;exact⟨x,rfl,HR.out⟩
theorem zab7 {w0 w:World} {b o D:Nat} {vt:Value} {vs:Value} {s:List Bx} (c:CP w b o D 0 .new 0 false 0 vt [] st0 vs s.length (inL s)) (hl:Low w0 w b vs) (hvt:∀k∈Value.owner vt,k<w0.heap.size) (hk:OkS s) (hm:∀x∈s,x.have_+1≤2000000000) {xb:Bx} {rb:List Bx} (hs:s=xb::rb) {v:Nat} (hW:WfH (.fin 7 v true)) :
  Calls Tryz.prog 165 #[.pointer (some ⟨b,o,none⟩),.agg #[.int .i64 0,.int .i64 2,.int .i64 7,.bool true,.int .i64 0,.int .u64 (v:Nat)]] w fun r w' =>
   ∃x,r= .returned (.tuple #[x,.int .i64 0])∧GoR w0 w w' b o D vt vs (atC rb,zbm::zes rb) x:=by
 subst hs;have hB:Below w.heap.size w (w.alloc (.cells #[.int .i64 0,.int .i64 2,.int .i64 7,.bool true,.int .i64 0,.int .u64 (v:Nat)] 142)):=zaa (Below.refl _ _) _;have HX:Hid (HAt (w.alloc (.cells #[.int .i64 0,.int .i64 2,.int .i64 7,.bool true,.int .i64 0,.int .u64 (v:Nat)] 142)) w.heap.size 0 (.fin 7 v true)):=hid (zb8 hW rfl w 142);have HV:=hid (zbi HX.out);have HM:=hid (zbn HX.out);simp only[valH,majH] at HV HM;have HBR:Hid (∀W:World,Calls Tryz.prog 169 #[.agg #[.int .i64 0,.int .i64 2,.int .i64 7,.bool true,.int .i64 0,.int .u64 (v:Nat)]] W fun r w'=>r= .returned (.bool true)∧Below W.heap.size W w'):=hid (fun W=>zi8 hW rfl W);have HL:=hid (fun w1 (k:Below w.heap.size w w1)=>zqz (k:=xb.have_) rfl hk.deep (c.go k).op);have H:=hid (And.intro c (And.intro hl (And.intro hvt (And.intro hk hB))));obtain⟨⟨x0,_⟩,⟨x1,_⟩,⟨x2,_⟩,⟨x3,_⟩,⟨x4,_⟩,⟨x5,_⟩⟩:=HX.out.2.six;clear c hB hl hvt hk hm hW HX;go_enter Tryz.func165,Tryz.ntmps165;(go_wp2_with fail);refine HM.out.mono ?_;rintro r w1 ⟨rfl,rfl⟩;(go_wp2_with fail);refine(HBR.out _).mono ?_;rintro e w1 ⟨rfl,b1⟩;have B1:=hid (zab H.out.2.2.2.2 b1);clear b1;(go_wp2_with fail);refine(HL.out _ B1.out).mono ?_;rintro e w2 ⟨rfl,v',hN,ho,hS⟩;have hc2:CP w2 b o D 0 .new 0 false 0 vt [] st0 v' rb.length (outL rb):=(H.out.1.go B1.out).setOp (hS.subg []) (by simp) hN;have hup:∀ob,Below w2.heap.size w2 (w2.alloc ob):=fun ob=>(Below.refl _ _).alloc (Nat.le_refl _) ob
 have hsz2:w.heap.size≤w2.heap.size:=Nat.le_trans B1.out.size hS.step.size;have hV:Vls w0 (w2.alloc (.cells #[.iface 169 (.agg #[])] 20)) (.slice (some ⟨w2.heap.size,0,none⟩) 1 1) [zbm]:=⟨zfv w2 _ _ _ rfl,fun k hk=>by
  simp only[Value.owner,List.mem_singleton] at hk;have:=H.out.2.1.size;omega⟩
 have hk2:=H.out.2.2.2.1;have HE:=hid (zlr (w0:=w0) (hc2.go (hup _)) hV (by simp) (Nat.le_trans H.out.2.1.size (Nat.le_trans hsz2 (hup _).size)) H.out.2.1.b H.out.2.2.1 (by rw[ho];exact H.out.2.1.vs) (fun y hy=>⟨hk2.some_ y hy,hk2.most y (List.mem_cons_of_mem _ hy)⟩) (by have:=hk2.deep;simp only[List.length_cons] at this;omega));have HS2:=hid (And.intro hsz2 (And.intro ho ((zae B1.out H.out.1.lt (Value.owner vt++Value.owner vs) o 18).tr (((hS.widen (o':=o) (n':=18) (by omega) (by omega)).subg _).tr (zae (hup (.cells #[.iface 169 (.agg #[])] 20)) hc2.lt _ _ _)))));clear hN ho hS hc2 hup hsz2 hV hk2;(go_wp2_with fail);refine HE.out.mono ?_;rintro e w' ⟨u,rfl,hR⟩;have HR:=hid hR;clear hR;go_wp2;go_ret2;exact⟨u,rfl,zli HR.out (.inr rfl) HS2.out.2.1 (fun k hk=>by
  simp only[Value.owner,List.mem_singleton] at hk;have:=HS2.out.1;omega) HS2.out.2.2⟩
end
section
open Go.Lib
def sel (e:Nat) (X:Ci×List Ev):Ci×List Ev:=if e≠0 then(.bad e,[]) else X
theorem zjr (X:Ci×List Ev):sel 0 X=X:=rfl
def hed0 (D:Nat) (s:List Bx) (h:Hd) (y:Nat):Ci×List Ev :=
 match zah h y with
 | .bad e=>(.bad e,[])
 | .new=>(.bad 2,[])
 | .mid m n v=>sel (refE D 0 0 s (.mid m n v) (y%32)) (.head s (.mid m n v),[])
 | .fin m v q=>sel (refE D 0 0 s (.fin m v q) (y%32)) (begC s m v q)
def hed1 (s:List Bx) (m:Bool) (t:List UInt8) (h:Hd) (y:Nat):Ci×List Ev :=
 match zah h y with
 | .bad e=>(.bad e,[])
 | .new=>(.bad 2,[])
 | .mid a n v=>sel (chE (mjT m) (.mid a n v)) (.chead s m t (.mid a n v),[])
 | .fin a v q=>sel (chE (mjT m) (.fin a v q)) (zje s m t (.fin a v q))
theorem zjh (s:List Bx) {m v:Nat} {q:Bool} (hm:m<6) (hq:q=true→v=0):begC s m v q=zgw s (.fin m v q):=by
  unfold begC;simp only[zgw];by_cases h1:m<2
  · rw[if_pos h1,if_pos h1]
  · rw [if_neg h1,if_neg h1]
    by_cases h2:m<4
    · rw [if_pos h2,if_pos h2]
      unfold expC goC;cases q with
      | true =>
        obtain rfl:=hq rfl;simp
      | false =>
        simp only[Bool.false_eq_true,if_false,List.length_nil,Nat.add_zero];by_cases h3:200<v
        · rw[if_pos h3,if_pos h3]
        · rw[if_neg h3,if_neg h3]
          by_cases h4:v=0
          · rw[if_pos h4,if_neg (by omega)]
          · rw[if_neg h4,if_pos (by omega)]
    · rw[if_neg h2,if_neg h2,if_pos hm]
      unfold conC;cases q with
      | true =>
        obtain rfl:=hq rfl;simp
      | false=>simp
theorem zq2 (s:List Bx) (m:Bool) (t:List UInt8) {a v:Nat} (h:brkH (.fin a v false)=false):zje s m t (.fin a v false)=zfn s m t (.fin a v false):=by
 unfold zje;rw[h,if_neg (by decide)];simp only[zfn,valH];unfold expC goC;by_cases h3:200<v+t.length
 ·rw[if_pos h3,if_pos h3]
 ·rw[if_neg h3,if_neg h3]
  by_cases h4:v=0
  ·rw[if_pos h4,if_neg (by omega),if_pos rfl]
  ·rw[if_neg h4,if_pos (by omega),if_pos rfl]
theorem zeh (m v:Nat) (q:Bool):brkH (.fin m v q)=(decide (m=7)&&q):=rfl
theorem zpi (m n v:Nat):brkH (.mid m n v)=false:=by simp[brkH,opnH]
theorem zw8 (D:Nat) (s:List Bx) (h:Hd) (l:Nat) (hb:brkH h=false) (ho:opnH h=true→2≤majH h∧majH h≤5) :
  (keyB s=true∧majH h≠3→refE D 0 0 s h l=8)∧(¬(keyB s=true∧majH h≠3)→(majH h=6→refE D 0 0 s h l=8)∧(majH h=7→refE D 0 0 s h l=othE l) ∧
   (majH h≠6→majH h≠7→((majH h=4∨majH h=5)∧s.length=D→refE D 0 0 s h l=4)∧(¬((majH h=4∨majH h=5)∧s.length=D)→refE D 0 0 s h l=0))):=by
 have hr:refE D 0 0 s h l=zhm D s h l:=by
  unfold refE;rw[if_neg (by decide),hb,if_neg (by decide)]
 have h1:¬(opnH h=true∧¬(2≤majH h∧majH h≤5)):=fun x=>x.2 (ho x.1)
 rw[hr];unfold zhm;rw[if_neg h1];refine⟨fun h=>if_pos h,fun h=> ?_⟩;rw[if_neg h];refine⟨fun h=>if_pos h,fun h=> ?_,fun h6 h7=> ?_⟩
 ·rw[if_neg (by omega),if_pos h]
 ·rw[if_neg h6,if_neg h7]
  exact⟨fun h=>if_pos h,fun h=>if_neg h⟩
theorem zabq (D:Nat) (s:List Bx) (hs:s.length≤D) (b:Nat) (hb:b<256):zi6 D s false b=hed0 D s .new b:=by
  unfold zi6 hed0;simp only[zah];have hM:b/32<8:=by omega
  obtain⟨M,hMM⟩:∃M,b/32=M:=⟨_,rfl⟩
  obtain⟨L,hLL⟩:∃L,b%32=L:=⟨_,rfl⟩
  have hL:L<32:=by omega
  have h255:b=255↔(M=7∧L=31):=by omega
  rw[hMM,hLL];rw[hMM] at hM;simp only[h255,Bool.false_eq_true,false_or];clear h255 hMM hLL hb;by_cases c1:28≤L∧L≤30
  · rw[if_pos (.inl c1),if_neg (show¬L<24 by omega),if_neg (show¬L<28 by omega),if_neg (show¬L=31 by omega)]
  have key:∀(h:Hd) (X:Ci×List Ev),majH h=M→brkH h=false→(opnH h=true→2≤M∧M≤5)→(M<6→X=zgw s h)→(M=7→L<24→X=putC s (simE L))→(M=7→L≠31) →
      (if keyB s=true∧M≠3 then((.bad 8,[]):Ci×List Ev) else if M=6 then(.bad 8,[]) else if M=7 then(if L=22 then putC s zcy else if L=20∨L=21 then putC s (zbt (decide (L=21))) else if 25≤L∧L≤27 then(.bad 6,[]) else(.bad 8,[]))
        else if(M=4∨M=5)∧D≤s.length then(.bad 4,[]) else zgw s h)=sel (refE D 0 0 s h L) X:=by
    intro h X hm hbr ho hX6 hX7 hX31;have hr:=zw8 D s h L hbr (by rw[hm];exact ho);rw[hm] at hr;by_cases c5:keyB s=true∧M≠3
    · rw[if_pos c5,hr.1 c5];rfl
    rw[if_neg c5];by_cases c6:M=6
    · rw[if_pos c6,(hr.2 c5).1 c6];rfl
    rw[if_neg c6];by_cases c7:M=7
    · rw[if_pos c7,(hr.2 c5).2.1 c7]
      unfold othE;by_cases d1:L=22∨L=20∨L=21
      · rw[if_pos d1,zjr,hX7 c7 (by omega)]
        unfold simE;by_cases d2:L=22
        · rw[if_pos d2,if_pos d2]
        · rw[if_neg d2,if_neg d2,if_pos (show L=20∨L=21 by omega)]
      · rw[if_neg d1,if_neg (show¬L=22 by omega),if_neg (show¬(L=20∨L=21) by omega)]
        by_cases d3:25≤L∧L≤27
        · rw[if_pos d3,if_pos d3];rfl
        · rw[if_neg d3,if_neg d3];rfl
    rw[if_neg c7];have h4:=(hr.2 c5).2.2 c6 c7;by_cases c8:(M=4∨M=5)∧s.length=D
    · rw[if_pos (show(M=4∨M=5)∧D≤s.length from⟨c8.1,by omega⟩),h4.1 c8];rfl
    · rw[if_neg (show¬((M=4∨M=5)∧D≤s.length) from fun h=>c8 ⟨h.1,by omega⟩),h4.2 c8,zjr,hX6 (by omega)]
  by_cases c2:L=31
  · subst c2
    rw[if_neg (show¬31<24 by decide),if_neg (show¬31<28 by decide),if_pos (rfl:(31:Nat)=31)];by_cases c3:M=7
    · subst c3
      have hr:refE D 0 0 s (.fin 7 0 true) 31=if mayB s=true then 0 else 2:=by
        unfold refE;rw[if_neg (by decide),if_pos (by rfl)]
      rw[if_neg (show¬((28≤31∧31≤30)∨(31=31∧(7=0∨7=1∨7=6))) by omega),if_pos (show 7=7∧31=31 from⟨rfl,rfl⟩)];simp only[hr];cases s with
      | nil=>rfl
      | cons x r =>
        have hm:(mayB (x::r)=true)↔¬(0≤x.c∨(x.map=true∧x.have_%2=1)):=by
          simp only[mayB];cases x.map <;>simp <;>omega
        simp only;by_cases hx:0≤x.c∨(x.map=true∧x.have_%2=1)
        · rw[if_pos hx,if_neg (fun h=>(hm.1 h) hx)];rfl
        · rw[if_neg hx,if_pos (hm.2 hx)];rfl
    · by_cases c4:M=0∨M=1∨M=6
      · have hr:refE D 0 0 s (.fin M 0 true) 31=2:=by
          have h1:opnH (.fin M 0 true)=true∧¬(2≤majH (.fin M 0 true)∧majH (.fin M 0 true)≤5):=⟨rfl,fun h=>by simp only[majH] at h;omega⟩
          have hb:brkH (.fin M 0 true)=false:=by rw[zeh];simp[c3]
          unfold refE zhm;rw[if_neg (by decide),hb,if_neg (by decide),if_pos h1]
        rw[if_pos (show((28≤31∧31≤30)∨(31=31∧(M=0∨M=1∨M=6))) from .inr ⟨rfl,c4⟩)];show _=sel (refE D 0 0 s (.fin M 0 true) 31) _;rw[hr];rfl
      · rw[if_neg (show¬((28≤31∧31≤30)∨(31=31∧(M=0∨M=1∨M=6))) by omega),if_neg (show¬(M=7∧31=31) by omega)]
        exact key (.fin M 0 true) _ rfl (by rw[zeh];simp[c3]) (fun _=>by omega) (fun h6=>zjh s h6 (fun _=>rfl)) (fun h=>absurd h c3) (fun h=>absurd h c3)
  · rw[if_neg (by omega),if_neg (by omega)]
    by_cases c9:L<24
    · rw[if_pos c9]
      exact key (.fin M L false) _ rfl (by rw[zeh,Bool.and_false]) (fun h=>by cases h) (fun h6=>zjh s h6 (fun h=>by cases h)) (fun h7 _=>by subst h7;rfl) (fun _=>c2)
    · rw[if_neg c9,if_pos (show L<28 by omega)]
      exact key (.mid M (2^(L-24)) 0) _ rfl (zpi _ _ _) (fun h=>by cases h) (fun _=>rfl) (fun _ h=>absurd h c9) (fun _=>c2)
theorem zah4 (D:Nat) (s:List Bx) {m n v:Nat} (hm:m<6) (hk:keyB s=true→m=3) (hd:4≤m→s.length<D) (b:Nat):zgw s (zah (.mid m n v) b)=hed0 D s (.mid m n v) b:=by
 unfold hed0;have hz:∀(h:Hd) (l:Nat),majH h=m→brkH h=false→opnH h=false→refE D 0 0 s h l=0:=by
  intro h l e1 e2 e3;have hr:=zw8 D s h l e2 (fun h=>by rw[e3] at h;cases h);rw[e1] at hr;exact(((hr.2 (fun h=>h.2 (hk h.1))).2.2 (by omega) (by omega)).2 (fun h=>by have:=hd (by omega);omega))
 simp only[zah];by_cases hn:n=1
 ·rw[if_pos hn]
  simp only;rw[hz _ _ rfl (by rw[zeh,Bool.and_false]) rfl,zjr,zjh s hm (fun h=>by cases h)]
 ·rw[if_neg hn]
  simp only;rw[hz _ _ rfl (zpi _ _ _) rfl,zjr];rfl
theorem zagi (D:Nat) (s:List Bx) (m:Bool) (t:List UInt8) (b:UInt8):za7 D (.open_ s m t) b=hed1 s m t .new b.toNat:=by
  have hb:=b.toNat_lt;simp only[za7];generalize b.toNat=b at *
  unfold hed1;simp only[zah];obtain⟨M,hMM⟩:∃M,b/32=M:=⟨_,rfl⟩
  obtain⟨L,hLL⟩:∃L,b%32=L:=⟨_,rfl⟩
  have hL:L<32:=by omega
  have hM:M<8:=by omega
  have h255:b=255↔(M=7∧L=31):=by omega
  have hmj:mjT m=(if m=true then 3 else 2):=rfl;have hmv:(if m=true then 3 else 2:Nat)=3∨(if m=true then 3 else 2:Nat)=2:=by cases m <;>simp
  rw[hMM,hLL];simp only[h255];rw[← hmj] at hmv ⊢;clear h255 hMM hLL hb;generalize mjT m=J at *
  by_cases c1:28≤L∧L≤30
  · rw[if_neg (by omega),if_pos (by omega),if_neg (by omega),if_neg (by omega),if_neg (by omega)]
  · by_cases c2:L=31
    · subst c2
      rw[if_neg (show¬31<24 by decide),if_neg (show¬31<28 by decide),if_pos rfl];simp only;by_cases c3:M=7
      · subst c3
        rw[if_pos (by simp)];have hc:chE J (.fin 7 0 true)=0:=by unfold chE;rw[if_pos (.inl rfl)]
        rw[hc];rfl
      · rw[if_neg (by omega),if_pos (by omega)]
        have hc:chE J (.fin M 0 true)=2:=by unfold chE;rw[zeh,if_neg (by simp[c3,opnH])]
        rw[hc];rfl
    · rw [if_neg (by omega)]
      by_cases c4:M=J
      · rw[if_neg (by omega)]
        by_cases c9:L<24
        · rw[if_pos c9]
          simp only;have hc:chE J (.fin M L false)=0:=by unfold chE;rw[if_pos (.inr ⟨c4,rfl⟩)]
          rw[hc,zjr,zq2 s m t (by rw[zeh,Bool.and_false])]
        · rw[if_neg c9,if_pos (by omega)]
          simp only;have hc:chE J (.mid M (2^(L-24)) 0)=0:=by unfold chE;rw[if_pos (.inr ⟨c4,rfl⟩)]
          rw[hc];rfl
      · rw[if_pos (.inl c4)]
        by_cases c9:L<24
        · rw[if_pos c9]
          simp only;have hc:chE J (.fin M L false)=2:=by unfold chE;rw[zeh,if_neg (by simp[opnH,majH,c4])]
          rw[hc];rfl
        · rw[if_neg c9,if_pos (by omega)]
          simp only;have hc:chE J (.mid M (2^(L-24)) 0)=2:=by unfold chE;rw[zpi,if_neg (by simp[opnH,majH,c4])]
          rw[hc];rfl
theorem zafo (D:Nat) (s:List Bx) (m:Bool) (t:List UInt8) {n v:Nat} (b:UInt8):za7 D (.chead s m t (.mid (mjT m) n v)) b=hed1 s m t (.mid (mjT m) n v) b.toNat:=by
 simp only[za7];unfold hed1;simp only[zah];by_cases hn:n=1
 ·rw[if_pos hn]
  simp only;have hc:chE (mjT m) (.fin (mjT m) (v*256+b.toNat) false)=0:=by unfold chE;rw[if_pos (.inr ⟨rfl,rfl⟩)]
  rw[hc,zjr,zq2 s m t (by rw[zeh,Bool.and_false])]
 ·rw[if_neg hn]
  simp only;have hc:chE (mjT m) (.mid (mjT m) (n-1) (v*256+b.toNat))=0:=by unfold chE;rw[if_pos (.inr ⟨rfl,rfl⟩)]
  rw[hc];rfl
theorem zxb (D:Nat) (s:List Bx) (m:Bool) (t:List UInt8) (n:Nat) (u:Option (Nat×Nat×Nat)) (b:UInt8):za7 D (.text s m (n+1) t u) b=bytC s m false t n u b:=by
  simp only[za7];unfold bytC mayH goC;cases m with
  | false =>
    simp only[Bool.false_eq_true,false_and,if_false,Bool.not_false,Bool.true_or,if_true];by_cases h:n=0
    · subst h;simp
    · rw[if_neg (by omega),if_pos (by omega)];rfl
  | true =>
    simp only[true_and,Bool.not_true,Bool.false_or];generalize zbq true u b=u';cases u' with
    | none=>simp
    | some x =>
      by_cases h:n=0
      · subst h
        cases hw:zch (some x) <;>simp
      · have h2:0<n:=by omega
        simp[h,h2]
theorem zr5 (D:Nat) (s:List Bx) (m:Bool) (t:List UInt8) (n:Nat) (u:Option (Nat×Nat×Nat)) (b:UInt8):za7 D (.ctext s m t (n+1) u) b=bytC s m true t n u b:=by
  simp only[za7];unfold bytC mayH goC;cases m with
  | false =>
    simp only[Bool.false_eq_true,false_and,if_false,Bool.not_false,Bool.true_or,if_true];by_cases h:n=0
    · subst h;simp
    · rw[if_neg (by omega),if_pos (by omega)];rfl
  | true =>
    simp only[true_and,Bool.not_true,Bool.false_or];generalize zbq true u b=u';cases u' with
    | none=>simp
    | some x =>
      by_cases h:n=0
      · subst h
        cases hw:zch (some x) <;>simp
      · have h2:0<n:=by omega
        simp[h,h2]
end
section
open Go.RowKit
open Go.Lib
theorem zaa7 {w0 w:World} {b o D:Nat} {vt:Value} {vs:Value} {s:List Bx} (c:CP w b o D 0 .new 0 false 0 vt [] st0 vs s.length (inL s)) (hl:Low w0 w b vs) (hvt:∀k∈Value.owner vt,k<w0.heap.size) (hk:OkS s) (hm:∀x∈s,x.have_+1≤2000000000)
    {M v:Nat} {q:Bool} (hW:WfH (.fin M v q)) (hq:q=true→v=0) (h6:M≠6) (hd:M=4∨M=5→s.length<16) (hb:M=7→q=true→s≠[]) :
    Calls Tryz.prog 165 #[.pointer (some ⟨b,o,none⟩),.agg #[.int .i64 0,.int .i64 2,.int .i64 (M:Nat),.bool q,.int .i64 0,.int .u64 (v:Nat)]] w fun r w' =>
      ∃x,r= .returned (.tuple #[x,.int .i64 (zbs (begC s M v q).1:Nat)])∧GoR w0 w w' b o D vt vs (begC s M v q) x:=by
  have h8:=hW.1;have hc:M=0∨M=1∨M=2∨M=3∨M=4∨M=5∨M=7:=by omega
  rcases hc with rfl|rfl|rfl|rfl|rfl|rfl|rfl
  · exact zafl c hl hvt hk hm hW
  · exact zabz c hl hvt hk hm hW
  · exact zae1 c hl hvt hk hm hW
  · exact zad0 c hl hvt hk hm hW
  · exact zaby c hl hvt hk hm (hd (.inl rfl)) hq hW
  · exact zacl c hl hvt hk hm (hd (.inr rfl)) hq hW
  · cases q with
    | false=>exact zac9 c hl hvt hk hm hW
    | true =>
      match s,hb rfl rfl with
      | x::r,_=>exact zab7 c hl hvt hk hm rfl hW
structure HedI (w w1:World) (b o D pl:Nat) (h:Hd) (mj:Nat) (ch:Bool) (lk:Nat) (vt:Value) (t:List UInt8) (u:Option (Nat×Nat×Nat)) (vs:Value) (s:List Bx):Prop where
 cp:CP w1 b o D pl h mj ch lk vt t u vs s.length (inL s)
 sub:Subg (Value.owner vt++Value.owner vs) b o 18 w w1
theorem HedI.bad {w0 w w1:World} {b o D pl:Nat} {h:Hd} {mj:Nat} {ch:Bool} {lk:Nat} {vt:Value} {t:List UInt8} {u:Option (Nat×Nat×Nat)} {vs:Value} {s:List Bx} (I:HedI w w1 b o D pl h mj ch lk vt t u vs s) {e:Nat} (he:e≠0):GoR w0 w w1 b o D vt vs (.bad e,[]) (.slice none 0 0) :=
 ⟨Vls.nil_ _ _,⟨vt,vs,⟨he,I.cp.room,I.cp.cells.1.2.1.1⟩,fun _ hk=> .inl hk⟩,I.sub⟩
theorem HedI.up {w w1 w2:World} {b o D pl:Nat} {h:Hd} {mj:Nat} {ch:Bool} {lk:Nat} {vt:Value} {t:List UInt8} {u:Option (Nat×Nat×Nat)} {vs:Value} {s:List Bx} (I:HedI w w1 b o D pl h mj ch lk vt t u vs s) (k:Below w1.heap.size w1 w2):HedI w w2 b o D pl h mj ch lk vt t u vs s :=
 ⟨I.cp.go k,I.sub.tr (zae k I.cp.lt _ _ _)⟩
theorem zaga {w0 w:World} {b o D pl:Nat} {h:Hd} {mj:Nat} {ch:Bool} {lk:Nat} {vt:Value} {t:List UInt8} {u:Option (Nat×Nat×Nat)} {vs:Value} {s:List Bx} (c:CP w b o D pl h mj ch lk vt t u vs s.length (inL s)) (y:UInt8) (hd:s.length≤16) {e:Nat} (hh:zah h y.toNat= .bad e) (he:e≠0) :
  Calls Tryz.prog 158 #[.pointer (some ⟨b,o,none⟩),.int .u8 (y.toNat:Int)] w fun r w'=>∃x,r= .returned (.tuple #[x,.int .i64 (e:Nat)])∧GoR w0 w w' b o D vt vs (.bad e,[]) x:=by
 have hy:=y.toNat_lt;have HS:=zc3 hy c.hd;rw[hh] at HS;have hb31:=zgy y.toNat hy;have HC:Hid (∀w1,zbw w b (o+3) (.bad e) w1→HedI w w1 b o D pl (.bad e) mj ch lk vt t u vs s):=hid (fun w1 h1=>⟨c.setHd h1.2 h1.1,(h1.2.widen (by omega) (by omega)).subg _⟩);have HR:Hid (∀w1,HedI w w1 b o D pl (.bad e) mj ch lk vt t u vs s→Calls Tryz.prog 162 #[.pointer (some ⟨b,o,none⟩),.int .u8 (y.toNat%32:Nat)] w1 fun r w'=>r= .returned (.int .i64 (refE D pl mj s (.bad e) (y.toNat%32):Nat))∧Below w1.heap.size w1 w'):=hid (fun w1 I=>zcq I.cp hd _);simp only[errH,endH] at HS;have HS:=hid HS;obtain⟨X,hX⟩:∃X,(y.toNat:Int)=X:=⟨_,rfl⟩
 obtain⟨Y,hY⟩:∃Y,((y.toNat%32:Nat):Int)=Y:=⟨_,rfl⟩
 rw[hY] at hb31 HR;rw[hX] at HS hb31 ⊢;have ze:((e:Int)==0)=false:=by rw[beq_eq_false_iff_ne];omega
 have ze2:((e:Int) !=0)=true:=by rw[bne_iff_ne];omega
 have HE:=hid he;clear c hh hd hy HR hX hY hb31 he;go_enter Tryz.func158,Tryz.ntmps158;(go_wp2_with fail);refine HS.out.mono ?_;rintro r w1 ⟨rfl,h1⟩;have HI:=hid (HC.out _ h1);clear h1;go_wp2;go_ret2;exact⟨_,rfl,HI.out.bad HE.out⟩
theorem zkv {w0 w:World} {b o D pl:Nat} {h:Hd} {mj:Nat} {ch:Bool} {lk:Nat} {vt:Value} {t:List UInt8} {u:Option (Nat×Nat×Nat)} {vs:Value} {s:List Bx} (c:CP w b o D pl h mj ch lk vt t u vs s.length (inL s)) (y:UInt8) (hd:s.length≤16) {m n v:Nat} (hh:zah h y.toNat=(.mid m n v)) {e:Nat} (hr:refE D pl mj s (.mid m n v) (y.toNat%32)=e) (he:e≠0) :
  Calls Tryz.prog 158 #[.pointer (some ⟨b,o,none⟩),.int .u8 (y.toNat:Int)] w fun r w'=>∃x,r= .returned (.tuple #[x,.int .i64 (e:Nat)])∧GoR w0 w w' b o D vt vs (.bad e,[]) x:=by
 have hy:=y.toNat_lt;have HS:=zc3 hy c.hd;rw[hh] at HS;have hb31:=zgy y.toNat hy;have HC:Hid (∀w1,zbw w b (o+3) (.mid m n v) w1→HedI w w1 b o D pl (.mid m n v) mj ch lk vt t u vs s):=hid (fun w1 h1=>⟨c.setHd h1.2 h1.1,(h1.2.widen (by omega) (by omega)).subg _⟩);have HR:Hid (∀w1,HedI w w1 b o D pl (.mid m n v) mj ch lk vt t u vs s→Calls Tryz.prog 162 #[.pointer (some ⟨b,o,none⟩),.int .u8 (y.toNat%32:Nat)] w1 fun r w'=>r= .returned (.int .i64 (refE D pl mj s (.mid m n v) (y.toNat%32):Nat))∧Below w1.heap.size w1 w'):=hid (fun w1 I=>zcq I.cp hd _);simp only[errH,endH] at HS;have HS:=hid HS;obtain⟨X,hX⟩:∃X,(y.toNat:Int)=X:=⟨_,rfl⟩
 obtain⟨Y,hY⟩:∃Y,((y.toNat%32:Nat):Int)=Y:=⟨_,rfl⟩
 rw[hY] at hb31 HR;rw[hX] at HS hb31 ⊢;rw[hr] at HR;have ze:((e:Int)==0)=false:=by rw[beq_eq_false_iff_ne];omega
 have ze2:((e:Int) !=0)=true:=by rw[bne_iff_ne];omega
 have HE:=hid he;clear c hh hd hy hX hY he hr;go_enter Tryz.func158,Tryz.ntmps158;(go_wp2_with fail);refine HS.out.mono ?_;rintro r w1 ⟨rfl,h1⟩;have HI:=hid (HC.out _ h1);clear h1;(go_wp2_with fail);refine(HR.out _ HI.out).mono ?_;rintro r w2 ⟨rfl,b2⟩;have HJ:=hid (HI.out.up b2);clear b2;go_wp2;go_ret2;exact⟨_,rfl,HJ.out.bad HE.out⟩
theorem zkd {w0 w:World} {b o D pl:Nat} {h:Hd} {mj:Nat} {ch:Bool} {lk:Nat} {vt:Value} {t:List UInt8} {u:Option (Nat×Nat×Nat)} {vs:Value} {s:List Bx} (c:CP w b o D pl h mj ch lk vt t u vs s.length (inL s)) (y:UInt8) (hd:s.length≤16) {m v:Nat} {q:Bool} (hh:zah h y.toNat=(.fin m v q)) {e:Nat} (hr:refE D pl mj s (.fin m v q) (y.toNat%32)=e) (he:e≠0) :
  Calls Tryz.prog 158 #[.pointer (some ⟨b,o,none⟩),.int .u8 (y.toNat:Int)] w fun r w'=>∃x,r= .returned (.tuple #[x,.int .i64 (e:Nat)])∧GoR w0 w w' b o D vt vs (.bad e,[]) x:=by
 have hy:=y.toNat_lt;have HS:=zc3 hy c.hd;rw[hh] at HS;have hb31:=zgy y.toNat hy;have HC:Hid (∀w1,zbw w b (o+3) (.fin m v q) w1→HedI w w1 b o D pl (.fin m v q) mj ch lk vt t u vs s):=hid (fun w1 h1=>⟨c.setHd h1.2 h1.1,(h1.2.widen (by omega) (by omega)).subg _⟩);have HR:Hid (∀w1,HedI w w1 b o D pl (.fin m v q) mj ch lk vt t u vs s→Calls Tryz.prog 162 #[.pointer (some ⟨b,o,none⟩),.int .u8 (y.toNat%32:Nat)] w1 fun r w'=>r= .returned (.int .i64 (refE D pl mj s (.fin m v q) (y.toNat%32):Nat))∧Below w1.heap.size w1 w'):=hid (fun w1 I=>zcq I.cp hd _);simp only[errH,endH] at HS;have HS:=hid HS;obtain⟨X,hX⟩:∃X,(y.toNat:Int)=X:=⟨_,rfl⟩
 obtain⟨Y,hY⟩:∃Y,((y.toNat%32:Nat):Int)=Y:=⟨_,rfl⟩
 rw[hY] at hb31 HR;rw[hX] at HS hb31 ⊢;rw[hr] at HR;have ze:((e:Int)==0)=false:=by rw[beq_eq_false_iff_ne];omega
 have ze2:((e:Int) !=0)=true:=by rw[bne_iff_ne];omega
 have HE:=hid he;clear c hh hd hy hX hY he hr;go_enter Tryz.func158,Tryz.ntmps158;(go_wp2_with fail);refine HS.out.mono ?_;rintro r w1 ⟨rfl,h1⟩;have HI:=hid (HC.out _ h1);clear h1;(go_wp2_with fail);refine(HR.out _ HI.out).mono ?_;rintro r w2 ⟨rfl,b2⟩;have HJ:=hid (HI.out.up b2);clear b2;go_wp2;go_ret2;exact⟨_,rfl,HJ.out.bad HE.out⟩
theorem zaf1 {w:World} {b o D pl:Nat} {h:Hd} {mj:Nat} {ch:Bool} {lk:Nat} {vt:Value} {t:List UInt8} {u:Option (Nat×Nat×Nat)} {vs:Value} {s:List Bx} (c:CP w b o D pl h mj ch lk vt t u vs s.length (inL s)) (y:UInt8) (hd:s.length≤16) {m n v:Nat} (hh:zah h y.toNat= .mid m n v) (hr:refE D pl mj s (.mid m n v) (y.toNat%32)=0) :
  Calls Tryz.prog 158 #[.pointer (some ⟨b,o,none⟩),.int .u8 (y.toNat:Int)] w fun r w'=>r= .returned (.tuple #[.slice none 0 0,.int .i64 0])∧HedI w w' b o D pl (.mid m n v) mj ch lk vt t u vs s:=by
 have hy:=y.toNat_lt;have HS:=zc3 hy c.hd;rw[hh] at HS;have hb31:=zgy y.toNat hy;have HC:Hid (∀w1,zbw w b (o+3) (.mid m n v) w1→HedI w w1 b o D pl (.mid m n v) mj ch lk vt t u vs s):=hid (fun w1 h1=>⟨c.setHd h1.2 h1.1,(h1.2.widen (by omega) (by omega)).subg _⟩);have HR:Hid (∀w1,HedI w w1 b o D pl (.mid m n v) mj ch lk vt t u vs s→Calls Tryz.prog 162 #[.pointer (some ⟨b,o,none⟩),.int .u8 (y.toNat%32:Nat)] w1 fun r w'=>r= .returned (.int .i64 (refE D pl mj s (.mid m n v) (y.toNat%32):Nat))∧Below w1.heap.size w1 w'):=hid (fun w1 I=>zcq I.cp hd _);simp only[errH,endH] at HS;have HS:=hid HS;obtain⟨X,hX⟩:∃X,(y.toNat:Int)=X:=⟨_,rfl⟩
 obtain⟨Y,hY⟩:∃Y,((y.toNat%32:Nat):Int)=Y:=⟨_,rfl⟩
 rw[hY] at hb31 HR;rw[hX] at HS hb31 ⊢;rw[hr] at HR;clear c hh hd hy hX hY hr;go_enter Tryz.func158,Tryz.ntmps158;(go_wp2_with fail);refine HS.out.mono ?_;rintro r w1 ⟨rfl,h1⟩;have HI:=hid (HC.out _ h1);clear h1;(go_wp2_with fail);refine(HR.out _ HI.out).mono ?_;rintro r w2 ⟨rfl,b2⟩;have HJ:=hid (HI.out.up b2);clear b2;go_wp2;go_ret2;exact⟨rfl,HJ.out⟩
theorem zaiv {w0 w:World} {b o D pl:Nat} {h:Hd} {mj:Nat} {ch:Bool} {lk:Nat} {vt:Value} {t:List UInt8} {u:Option (Nat×Nat×Nat)} {vs:Value} {s:List Bx} (c:CP w b o D pl h mj ch lk vt t u vs s.length (inL s)) (y:UInt8) (hd:s.length≤16) (hp:pl=0) {m v:Nat} {q:Bool} (hh:zah h y.toNat= .fin m v q) (hr:refE D pl mj s (.fin m v q) (y.toNat%32)=0) {R:Ci×List Ev}
  (HB:∀w2,HedI w w2 b o D pl .new mj ch lk vt t u vs s→Calls Tryz.prog 165 #[.pointer (some ⟨b,o,none⟩),.agg #[.int .i64 0,.int .i64 2,.int .i64 (m:Nat),.bool q,.int .i64 0,.int .u64 (v:Nat)]] w2 fun r w'=>∃x,r= .returned (.tuple #[x,.int .i64 (zbs R.1:Nat)])∧GoR w0 w2 w' b o D vt vs R x) :
  Calls Tryz.prog 158 #[.pointer (some ⟨b,o,none⟩),.int .u8 (y.toNat:Int)] w fun r w'=>∃x,r= .returned (.tuple #[x,.int .i64 (zbs R.1:Nat)])∧GoR w0 w w' b o D vt vs R x:=by
 have hy:=y.toNat_lt;have HS:=zc3 hy c.hd;rw[hh] at HS;have hb31:=zgy y.toNat hy;have HC:Hid (∀w1,zbw w b (o+3) (.fin m v q) w1→HedI w w1 b o D pl (.fin m v q) mj ch lk vt t u vs s):=hid (fun w1 h1=>⟨c.setHd h1.2 h1.1,(h1.2.widen (by omega) (by omega)).subg _⟩);have HR:Hid (∀w1,HedI w w1 b o D pl (.fin m v q) mj ch lk vt t u vs s→Calls Tryz.prog 162 #[.pointer (some ⟨b,o,none⟩),.int .u8 (y.toNat%32:Nat)] w1 fun r w'=>r= .returned (.int .i64 (refE D pl mj s (.fin m v q) (y.toNat%32):Nat))∧Below w1.heap.size w1 w'):=hid (fun w1 I=>zcq I.cp hd _);simp only[errH,endH] at HS;have HS:=hid HS;obtain⟨X,hX⟩:∃X,(y.toNat:Int)=X:=⟨_,rfl⟩
 obtain⟨Y,hY⟩:∃Y,((y.toNat%32:Nat):Int)=Y:=⟨_,rfl⟩
 rw[hY] at hb31 HR;rw[hX] at HS hb31 ⊢;rw[hr] at HR;have HBB:=hid HB;have HLT:=hid c.lt;have zp:((pl:Int)==1)=false:=by subst hp;rfl
 clear c hh hd hy hX hY hr HB hp;go_enter Tryz.func158,Tryz.ntmps158;(go_wp2_with fail);refine HS.out.mono ?_;rintro r w1 ⟨rfl,h1⟩;have HI:=hid (HC.out _ h1);clear h1;(go_wp2_with fail);refine(HR.out _ HI.out).mono ?_;rintro r w2 ⟨rfl,b2⟩;have HJ:=hid (HI.out.up b2);have hl2:b<w2.heap.size:=HJ.out.cp.lt;have HK:Hid (∀ob,HedI w (w2.alloc ob) b o D pl (.fin m v q) mj ch lk vt t u vs s):=hid (fun ob=>HJ.out.up ((Below.refl _ _).alloc (Nat.le_refl _) ob));obtain⟨⟨x0,_⟩,⟨x1,_⟩,⟨x2,_⟩,⟨x3,_⟩,⟨x4,_⟩,⟨x5,_⟩⟩:=HJ.out.cp.hd.2.six;have HCL:=hid (fun ob=>zlh (HK.out ob).cp.hd);have HBK:=hid (zag w2 #[.int .i64 0,.int .i64 2,.int .i64 (m:Nat),.bool q,.int .i64 0,.int .u64 (v:Nat)] 142);have HL2:=hid hl2;clear b2 hl2;(go_wp2_with fail);refine(HCL.out _).mono ?_;rintro r w3 ⟨rfl,h3⟩;have hI3:HedI w w3 b o D pl .new mj ch lk vt t u vs s:=⟨(HK.out _).cp.setHd h3.2 h3.1,(HK.out _).sub.tr ((h3.2.widen (by omega) (by omega)).subg _)⟩
 have hbk3:Blk w3 w2.heap.size #[.int .i64 0,.int .i64 2,.int .i64 (m:Nat),.bool q,.int .i64 0,.int .u64 (v:Nat)] 142:=(h3.2.step.block _ (by simp) (by have:=HL2.out;simp;omega)).trans HBK.out;have c2:=hI3.cp.cells.1.2.2.1;have d0:=hbk3.cell 0;have d1:=hbk3.cell 1;have d2:=hbk3.cell 2;have d3:=hbk3.cell 3;have d4:=hbk3.cell 4;have d5:=hbk3.cell 5;have HI3:=hid hI3;have HBC:=hid (HBB.out w3 hI3);clear h3 hI3 hbk3 x0 x1 x2 x3 x4 x5;(go_wp2_with fail);refine HBC.out.mono ?_;rintro r w' ⟨x,rfl,hR⟩;have HR4:=hid hR;clear hR;go_wp2;go_ret2;exact⟨x,rfl,HR4.out.from_ HI3.out.sub (fun k hk=> .inl hk)⟩
theorem zah2 {w0 w:World} {b o D pl:Nat} {h:Hd} {mj:Nat} {ch:Bool} {lk:Nat} {vt:Value} {t:List UInt8} {u:Option (Nat×Nat×Nat)} {vs:Value} {s:List Bx} (c:CP w b o D pl h mj ch lk vt t u vs s.length (inL s)) (y:UInt8) (hd:s.length≤16) (hp:pl=1) {m v:Nat} {q:Bool} (hh:zah h y.toNat= .fin m v q) (hr:refE D pl mj s (.fin m v q) (y.toNat%32)=0) {R:Ci×List Ev}
  (HB:∀w2,HedI w w2 b o D pl .new mj ch lk vt t u vs s→Calls Tryz.prog 164 #[.pointer (some ⟨b,o,none⟩),.agg #[.int .i64 0,.int .i64 2,.int .i64 (m:Nat),.bool q,.int .i64 0,.int .u64 (v:Nat)]] w2 fun r w'=>∃x,r= .returned (.tuple #[x,.int .i64 (zbs R.1:Nat)])∧GoR w0 w2 w' b o D vt vs R x) :
  Calls Tryz.prog 158 #[.pointer (some ⟨b,o,none⟩),.int .u8 (y.toNat:Int)] w fun r w'=>∃x,r= .returned (.tuple #[x,.int .i64 (zbs R.1:Nat)])∧GoR w0 w w' b o D vt vs R x:=by
 have hy:=y.toNat_lt;have HS:=zc3 hy c.hd;rw[hh] at HS;have hb31:=zgy y.toNat hy;have HC:Hid (∀w1,zbw w b (o+3) (.fin m v q) w1→HedI w w1 b o D pl (.fin m v q) mj ch lk vt t u vs s):=hid (fun w1 h1=>⟨c.setHd h1.2 h1.1,(h1.2.widen (by omega) (by omega)).subg _⟩);have HR:Hid (∀w1,HedI w w1 b o D pl (.fin m v q) mj ch lk vt t u vs s→Calls Tryz.prog 162 #[.pointer (some ⟨b,o,none⟩),.int .u8 (y.toNat%32:Nat)] w1 fun r w'=>r= .returned (.int .i64 (refE D pl mj s (.fin m v q) (y.toNat%32):Nat))∧Below w1.heap.size w1 w'):=hid (fun w1 I=>zcq I.cp hd _);simp only[errH,endH] at HS;have HS:=hid HS;obtain⟨X,hX⟩:∃X,(y.toNat:Int)=X:=⟨_,rfl⟩
 obtain⟨Y,hY⟩:∃Y,((y.toNat%32:Nat):Int)=Y:=⟨_,rfl⟩
 rw[hY] at hb31 HR;rw[hX] at HS hb31 ⊢;rw[hr] at HR;have HBB:=hid HB;have HLT:=hid c.lt;have zp:((pl:Int)==1)=true:=by subst hp;rfl
 clear c hh hd hy hX hY hr HB hp;go_enter Tryz.func158,Tryz.ntmps158;(go_wp2_with fail);refine HS.out.mono ?_;rintro r w1 ⟨rfl,h1⟩;have HI:=hid (HC.out _ h1);clear h1;(go_wp2_with fail);refine(HR.out _ HI.out).mono ?_;rintro r w2 ⟨rfl,b2⟩;have HJ:=hid (HI.out.up b2);have hl2:b<w2.heap.size:=HJ.out.cp.lt;have HK:Hid (∀ob,HedI w (w2.alloc ob) b o D pl (.fin m v q) mj ch lk vt t u vs s):=hid (fun ob=>HJ.out.up ((Below.refl _ _).alloc (Nat.le_refl _) ob));obtain⟨⟨x0,_⟩,⟨x1,_⟩,⟨x2,_⟩,⟨x3,_⟩,⟨x4,_⟩,⟨x5,_⟩⟩:=HJ.out.cp.hd.2.six;have HCL:=hid (fun ob=>zlh (HK.out ob).cp.hd);have HBK:=hid (zag w2 #[.int .i64 0,.int .i64 2,.int .i64 (m:Nat),.bool q,.int .i64 0,.int .u64 (v:Nat)] 142);have HL2:=hid hl2;clear b2 hl2;(go_wp2_with fail);refine(HCL.out _).mono ?_;rintro r w3 ⟨rfl,h3⟩;have hI3:HedI w w3 b o D pl .new mj ch lk vt t u vs s:=⟨(HK.out _).cp.setHd h3.2 h3.1,(HK.out _).sub.tr ((h3.2.widen (by omega) (by omega)).subg _)⟩
 have hbk3:Blk w3 w2.heap.size #[.int .i64 0,.int .i64 2,.int .i64 (m:Nat),.bool q,.int .i64 0,.int .u64 (v:Nat)] 142:=(h3.2.step.block _ (by simp) (by have:=HL2.out;simp;omega)).trans HBK.out;have c2:=hI3.cp.cells.1.2.2.1;have d0:=hbk3.cell 0;have d1:=hbk3.cell 1;have d2:=hbk3.cell 2;have d3:=hbk3.cell 3;have d4:=hbk3.cell 4;have d5:=hbk3.cell 5;have HI3:=hid hI3;have HBC:=hid (HBB.out w3 hI3);clear h3 hI3 hbk3 x0 x1 x2 x3 x4 x5;(go_wp2_with fail);refine HBC.out.mono ?_;rintro r w' ⟨x,rfl,hR⟩;have HR4:=hid hR;clear hR;go_wp2;go_ret2;exact⟨x,rfl,HR4.out.from_ HI3.out.sub (fun k hk=> .inl hk)⟩
end
section
open Go.Lib
structure AllS (M:Nat) (s:List Bx):Prop where
 deep:s.length≤16
 c:∀x∈s, -1≤x.c∧x.c≤1000000
 some_:∀x∈s,1≤x.have_
 most:∀x∈s,x.have_≤M
structure PS (M:Nat) (s:List Bx):Prop where
 deep:s.length≤16
 c:∀x∈s, -1≤x.c∧x.c≤1000000
 some_:∀x∈s.tail,1≤x.have_
 most:∀x∈s,x.have_≤M
theorem PS.ok {M:Nat} {s:List Bx} (h:PS M s) (hM:M+1≤2000000000):OkS s∧∀x∈s,x.have_+1≤2000000000 :=
 ⟨⟨h.deep,h.c,h.some_,fun x hx=>by have:=h.most x hx;omega⟩,fun x hx=>by have:=h.most x hx;omega⟩
theorem PS.mono {M N:Nat} {s:List Bx} (h:PS M s) (hM:M≤N):PS N s:=⟨h.deep,h.c,h.some_,fun x hx=>Nat.le_trans (h.most x hx) hM⟩
theorem AllS.ps {M:Nat} {s:List Bx} (h:AllS M s):PS M s:=⟨h.deep,h.c,fun x hx=>h.some_ x (List.mem_of_mem_tail hx),h.most⟩
theorem PS.inc {M:Nat} {s:List Bx} (h:PS M s):AllS (M+1) (incB s):=by
  cases s with
  | nil=>exact⟨by simp[incB],fun x hx=>by simp[incB] at hx,fun x hx=>by simp[incB] at hx,fun x hx=>by simp[incB] at hx⟩
  | cons y r =>
    refine⟨h.deep,fun x hx=> ?_,fun x hx=> ?_,fun x hx=> ?_⟩
    all_goals
      simp only[incB,List.mem_cons] at hx;rcases hx with rfl|hx
    · exact h.c y (by simp)
    · exact h.c x (List.mem_cons_of_mem _ hx)
    · simp
    · exact h.some_ x hx
    · have:=h.most y (by simp);simp only;omega
    · have:=h.most x (List.mem_cons_of_mem _ hx);omega
theorem AllS.tail {M:Nat} {x:Bx} {r:List Bx} (h:AllS M (x::r)):AllS M r :=
 ⟨by have:=h.deep;simp only[List.length_cons] at this;omega,fun y hy=>h.c y (List.mem_cons_of_mem _ hy),fun y hy=>h.some_ y (List.mem_cons_of_mem _ hy),fun y hy=>h.most y (List.mem_cons_of_mem _ hy)⟩
theorem AllS.rest {M:Nat}:∀{s:List Bx},AllS M s→PS M (zap s)
  | [],h=>h.ps
  | b::r,h=>by
    simp only[zap];split
    · exact h.tail.rest
    · exact h.ps
def WfK (D M:Nat):Ci→Prop
 | .bad e=>e≠0
 | .item s dn=>PS M s∧s.length≤D∧(dn=true→s=[])
 | .head s h=>(PS M s∧s.length≤D)∧(keyB s=true→majH h=3)∧(4≤majH h→s.length<D)∧majH h<6∧∃m n v,h= .mid m n v
 | .text s m n t u=>(PS M s∧s.length≤D)∧1≤n∧t.length+n≤200∧(m=false→u=st0)
 | .open_ s _ t=>(PS M s∧s.length≤D)∧t.length≤200
 | .chead s m t h=>(PS M s∧s.length≤D)∧t.length≤200∧∃n v,h= .mid (mjT m) n v
 | .ctext s m t n u=>(PS M s∧s.length≤D)∧1≤n∧t.length+n≤200∧(m=false→u=st0)
theorem zaic {D M:Nat} {s:List Bx} (h:AllS M s) (hd:s.length≤D):WfK D M (atC s):=⟨h.rest,Nat.le_trans (zh1 s) hd,fun h=>by simpa using h⟩
theorem zj9 {D M:Nat} {s:List Bx} (h:PS M s) (hd:s.length≤D) (e:Ev):WfK D (M+1) (putC s e).1:=zaic h.inc (by rw[zbh];exact hd)
theorem zrz {D M:Nat} {s:List Bx} (h:PS M s) (hd:s.length<D) (hD:D≤16) (m:Bool) {c:Int} (hc: -1≤c∧c≤1000000):WfK D (M+1) (zca s m c).1:=by
 by_cases h0:c=0
 ·subst h0
  rw[ze3];exact zaic h.inc (by rw[zbh];omega)
 ·rw[zhr s m h0]
  have hi:=h.inc;refine⟨⟨by simp only[List.length_cons,zbh];omega,fun x hx=> ?_,fun x hx=>hi.some_ x hx,fun x hx=> ?_⟩,by simp only[List.length_cons,zbh];omega,fun h=>by cases h⟩
  ·simp only[List.mem_cons] at hx
   rcases hx with rfl|hx
   ·exact hc
   ·exact hi.c x hx
  ·simp only[List.mem_cons] at hx
   rcases hx with rfl|hx
   ·simp
   ·exact hi.most x hx
theorem zv9 {D M:Nat} {s:List Bx} (h:PS M s) (hd:s.length≤D) (hD:D≤16) {g:Hd} (hk:keyB s=true→majH g=3) (hx:4≤majH g→s.length<D) (hm:majH g<6) (hn:g≠ .new) (he:∀e,g= .bad e→e≠0):WfK D (M+1) (zgw s g).1:=by
  have h1:=h.mono (Nat.le_succ M);cases g with
  | bad e=>exact he e rfl
  | new=>exact absurd rfl hn
  | mid m n v=>exact⟨⟨h1,hd⟩,hk,hx,hm,m,n,v,rfl⟩
  | fin m v o =>
    simp only[majH] at hk hx hm;simp only[zgw];split
    · exact zj9 h hd _
    split
    · split
      · exact⟨⟨h1,hd⟩,by simp⟩
      split
      · exact(by decide:(5:Nat)≠0)
      split
      · exact zj9 h hd _
      · exact⟨⟨h1,hd⟩,by omega,by simp only[List.length_nil];omega,fun _=>rfl⟩
    · split
      · exact zrz h (hx (by omega)) hD _ (by omega)
      split
      · exact(by decide:(7:Nat)≠0)
      · exact zrz h (hx (by omega)) hD _ (by omega)
theorem zqy {D M:Nat} {s:List Bx} {m:Bool} {t:List UInt8} (h:PS M s∧s.length≤D) (ht:t.length≤200) {g:Hd} (hn:g≠ .new) (he:∀e,g= .bad e→e≠0) (hm:∀a n v,g= .mid a n v→a=mjT m):WfK D (M+1) (zfn s m t g).1:=by
  have h1:=h.1.mono (Nat.le_succ M);cases g with
  | bad e=>exact he e rfl
  | new=>exact absurd rfl hn
  | mid a n v =>
    obtain rfl:=hm a n v rfl;exact⟨⟨h1,h.2⟩,ht,n,v,rfl⟩
  | fin a v o =>
    simp only[zfn];split
    · exact(by decide:(5:Nat)≠0)
    split
    · exact⟨⟨h1,h.2⟩,ht⟩
    · exact⟨⟨h1,h.2⟩,by omega,by omega,fun _=>rfl⟩
theorem zajf {D M:Nat} {s:List Bx} {m ch:Bool} {t:List UInt8} {n:Nat} {u:Option (Nat×Nat×Nat)} (h:PS M s∧s.length≤D) (ht:t.length+n≤200) (hu:m=false→u=st0):WfK D (M+1) (goC s m ch t n u).1:=by
 have h1:=h.1.mono (Nat.le_succ M);unfold goC;split
 ·cases ch
  ·exact⟨⟨h1,h.2⟩,by omega,ht,hu⟩
  ·exact⟨⟨h1,h.2⟩,by omega,ht,hu⟩
 split
 ·exact⟨⟨h1,h.2⟩,by omega⟩
 ·exact zj9 h.1 h.2 _
theorem zaaz {D M:Nat} {s:List Bx} {m ch:Bool} {t:List UInt8} {n:Nat} {u:Option (Nat×Nat×Nat)} (h:PS M s∧s.length≤D) (ht:t.length+(n+1)≤200) (hu:m=false→u=st0) (y:UInt8):WfK D (M+1) (bytC s m ch t n u y).1:=by
 unfold bytC;split
 ·refine zajf h (by simp only[List.length_append,List.length_cons,List.length_nil];omega) (fun hm=> ?_)
  subst hm;exact hu rfl
 ·exact(by decide:(9:Nat)≠0)
theorem zaat {D M:Nat} (hD:D≤16) {s:Ci} (h:WfK D M s) (y:UInt8):WfK D (M+1) (za7 D s y).1:=by
  have hb:=y.toNat_lt;cases s with
  | bad e=>exact h
  | item s dn =>
    obtain⟨hp,hd,_⟩:=h;simp only[za7];unfold zi6;split
    · exact(by decide:(2:Nat)≠0)
    rename_i hform;split
    · cases s with
      | nil=>exact(by decide:(2:Nat)≠0)
      | cons x r =>
        simp only;split
        · exact(by decide:(2:Nat)≠0)
        · have ha:AllS (M+1) r:=⟨by have:=hp.deep;simp only[List.length_cons] at this;omega,fun y hy=>hp.c y (List.mem_cons_of_mem _ hy),fun y hy=>hp.some_ y hy,fun y hy=>by have:=hp.most y (List.mem_cons_of_mem _ hy);omega⟩
          exact zaic ha (by simp only[List.length_cons] at hd;omega)
    split
    · exact(by decide:(8:Nat)≠0)
    rename_i hkey;split
    · exact(by decide:(8:Nat)≠0)
    split
    · split
      · exact zj9 hp hd _
      split
      · exact zj9 hp hd _
      split
      · exact(by decide:(6:Nat)≠0)
      · exact(by decide:(8:Nat)≠0)
    split
    · exact(by decide:(4:Nat)≠0)
    · rename_i h6 h7 hdd
      have hmj:=zqb (b:=y.toNat) (fun h=>hform (.inr (.inl h)));refine zv9 hp hd hD ?_ ?_ ?_ (zb2 (.inl rfl)) (fun e he=>zgg (fun f hf=>by cases hf) he)
      · intro hk
        rw[hmj];by_cases h3:y.toNat/32=3
        · exact h3
        · exact absurd ⟨hk,h3⟩ hkey
      · intro h4
        rw[hmj] at h4;by_cases hh:D≤s.length
        · exact absurd ⟨by omega,hh⟩ hdd
        · omega
      · rw[hmj]
        omega
  | head s g =>
    obtain⟨⟨hp,hd⟩,h1,h2,h3,m,n,v,rfl⟩:=h;have hmj:majH (zah (.mid m n v) y.toNat)=m:=by
      simp only[zah];split <;>rfl
    exact zv9 hp hd hD (by rw[hmj];exact h1) (by rw[hmj];exact h2) (by rw[hmj];exact h3) (zb2 (.inr ⟨m,n,v,rfl⟩)) (fun e he=>zgg (fun f hf=>by cases hf) he)
  | text s m n t u =>
    obtain⟨hp,hn,ht,hu⟩:=h;obtain⟨n',rfl⟩:∃n',n=n'+1:=⟨n-1,by omega⟩
    rw[zxb];exact zaaz hp ht hu y
  | open_ s m t =>
    obtain⟨hp,ht⟩:=h;by_cases hf:y.toNat=255
    · simp only[za7]
      rw[if_pos hf];exact zj9 hp.1 hp.2 _
    · by_cases hc:y.toNat/32≠(if m=true then 3 else 2)∨28≤y.toNat%32
      · simp only[za7]
        rw[if_neg hf,if_pos hc];exact(by decide:(2:Nat)≠0)
      · simp only[za7]
        rw[if_neg hf,if_neg hc];refine zqy hp ht (zb2 (.inl rfl)) (fun e he=>zgg (fun f hf=>by cases hf) he) (fun a n v hg=> ?_);have hmj:=zqb (b:=y.toNat) (fun h=>hc (.inr h.1));rw[hg] at hmj;simp only[majH] at hmj;rw[hmj];by_cases h4:y.toNat/32=(if m=true then 3 else 2)
        · exact h4
        · exact absurd (.inl h4) hc
  | chead s m t g =>
    obtain⟨hp,ht,n,v,rfl⟩:=h;refine zqy hp ht (zb2 (.inr ⟨_,n,v,rfl⟩)) (fun e he=>zgg (fun f hf=>by cases hf) he) (fun a n' v' hg=> ?_);simp only[zah] at hg;split at hg
    · cases hg
    · injection hg with h1;exact h1.symm
  | ctext s m t n u =>
    obtain⟨hp,hn,ht,hu⟩:=h;obtain⟨n',rfl⟩:∃n',n=n'+1:=⟨n-1,by omega⟩
    rw[zr5];exact zaaz hp ht hu y
def stkK:Ci→List Bx
 | .bad _=>[]
 | .item s _=>s
 | .head s _=>s
 | .text s _ _ _ _=>s
 | .open_ s _ _=>s
 | .chead s _ _ _=>s
 | .ctext s _ _ _ _=>s
def SmC (s:Ci):Prop:=∀x∈stkK s,x.have_≤1000000000
theorem zaiy (D M:Nat):WfK D M ci0:=⟨⟨by simp,fun x hx=>by simp at hx,fun x hx=>by simp at hx,fun x hx=>by simp at hx⟩,by simp,fun h=>by cases h⟩
end
end Go.Proofs.YtpaciekgbhoncaaGreat
