/-
  Parts: JinE, JinF, Lst, Vls, JinG, JinH, JinI, JinJ, JinK, HeadPure, CinPure, CinBack, CinFactA.
-/
import Derived.Test.YtpaciekgbhoncaaGreatG0e
import Derived.Test.YtpaciekgbhoncaaGreatG0a
import Derived.Deep.DeepCutAuto
import Derived.Deep.RegionLaw
import Derived.Test.YtpaciekgbhoncaaGreatG0b
import GoSem.Op.String
set_option maxRecDepth 100000
set_option maxHeartbeats 16000000
open Go.Lib (hid)
namespace Go.Proofs.YtpaciekgbhoncaaGreat
section
open Go.RowKit
open Go.Lib
def OutJ (w:World) (b o D:Nat):Pj→Prop
 | .bad _=>True
 | .at_ st dn=>GJ w b o D st dn
def zdd (w:World) (b o D:Nat) (p:Pj) (r:Ending) (w':World):Prop:=r= .returned (.int .i64 (errP p))∧Sub b (o+20) 18 w w'∧OutJ w' b o D p
theorem zcu {w w':World} {b o D:Nat} (e:Nat) (h:Sub b (o+20) 18 w w'):zdd w b o D (.bad e) (.returned (.int .i64 e)) w':=⟨rfl,h,trivial⟩
theorem zaf3 (w:World) (b o n q:Nat):Sub b o n w (w.drewN q):=(Sub.refl _ _ _ _).drewN q
theorem zadq {w:World} {b o D:Nat} {st:List FrJ} {dn:Bool} (h:GJ w b o D st dn) :
    Calls Tryz.prog 108 #[.pointer (some ⟨b,o,none⟩)] w (zdd w b o D (zd3 st).1):=by
  obtain⟨M,hG,hM,hW,hD⟩:=h;have no:plJ st dn≠4→(zd3 st).1= .bad 2→Calls Tryz.prog 108 #[.pointer (some ⟨b,o,none⟩)] w (zdd w b o D (zd3 st).1):=by
    intro h1 h2;rw[h2];exact(zabt hG h1).mono (by
      rintro r w' ⟨rfl,rfl⟩;exact zcu 2 (Sub.refl _ _ _ _))
  match st,hG,hM,hW,no with
  | [],hG,_,hW,no=>exact no (by cases dn <;>simp[plJ]) rfl
  |⟨false,p⟩::r,hG,_,hW,no=>exact no (by simp only[plJ];split <;>(try split) <;>omega) rfl
  | ⟨true,p⟩::r,hG,hM,hW,no =>
    by_cases hp:p=1
    · subst hp
      refine(zyi hG).mono ?_;rintro r w' ⟨rfl,rfl⟩;exact⟨rfl,zid _ _ _ _,zoq (hG.setPl 0) rfl rfl hM (zqq hW) hD⟩
    · refine no (by simp only[plJ];repeat' split <;>try omega) ?_
      unfold zd3;split
      · rename_i h;simp only[List.cons.injEq,FrJ.mk.injEq,true_and] at h;exact absurd h.1 hp
      · rfl
theorem zabg {w:World} {b o D:Nat} {st:List FrJ} {dn:Bool} (h:GJ w b o D st dn) :
    Calls Tryz.prog 109 #[.pointer (some ⟨b,o,none⟩)] w (zdd w b o D (zek st).1):=by
  obtain⟨M,hG,hM,hW,hD⟩:=h
  match st,hG,hM,hW with
  | [],hG,_,hW =>
    refine(ztv hG).mono ?_;rintro r w' ⟨rfl,rfl⟩;exact zcu 2 (Sub.refl _ _ _ _)
  | ⟨m, p⟩::r,hG,hM,hW =>
    have hl:=hW.2.1;simp only[List.length_cons] at hl;by_cases h5:plJ (⟨m,p⟩::r) dn=5
    · rw[h5] at hG
      refine(zyx (k:=r.length) hG (by omega)).mono ?_;rintro r' w' ⟨rfl,hs,hg⟩;have hm:M r.length=m:=hM.1;rw[hm] at hg;cases m with
      | false =>
        have hp:p=1:=by simp only[plJ] at h5;split at h5 <;>(try split at h5) <;>omega
        subst hp;exact⟨rfl,hs,zoq hg rfl rfl hM (zmh hW) hD⟩
      | true =>
        have hp:p=3:=by simp only[plJ] at h5;repeat' split at h5 <;>try omega
        subst hp;exact⟨rfl,hs,zoq hg rfl rfl hM (zmh hW) hD⟩
    · have hc:(zek (⟨m,p⟩::r)).1= .bad 2:=by
        unfold zek;split
        · rename_i h;simp only[List.cons.injEq,FrJ.mk.injEq] at h;obtain⟨⟨rfl,rfl⟩,_⟩:=h;exact absurd rfl h5
        · rename_i h;simp only[List.cons.injEq,FrJ.mk.injEq] at h;obtain⟨⟨rfl,rfl⟩,_⟩:=h;exact absurd rfl h5
        · rfl
      rw[hc];refine(zaen (k:=r.length) hG h5).mono ?_;rintro r w' ⟨rfl,rfl⟩;exact zcu 2 (Sub.refl _ _ _ _)
theorem zai5 (st:List FrJ) (h:zjv st):5=plJ st (zgo st):=by
 match st,h with
 | [],_=>rfl
 |⟨false,p⟩::r,h=>have:p=1:=h.1;subst this;rfl
 |⟨true,p⟩::r,h=>have:p=3:=h.1;subst this;rfl
theorem zah8 (st:List FrJ):5=plJ (zml st) (zgo st):=by
 match st with
 | []=>rfl
 |⟨false,p⟩::r=>rfl
 |⟨true,p⟩::r=>rfl
theorem zx7 {w:World} {b o D:Nat} {st:List FrJ} {dn:Bool} (h:GJ w b o D st dn) (m:Bool) :
    Calls Tryz.prog 110 #[.pointer (some ⟨b,o,none⟩),.bool m] w (zdd w b o D (zdq m st).1):=by
  obtain⟨M,hG,hM,hW,hD⟩:=h
  match st,hG,hM,hW with
  | [],hG,_,hW =>
    refine(zxs hG m).mono ?_;rintro r w' ⟨rfl,rfl⟩;exact zcu 2 (Sub.refl _ _ _ _)
  | ⟨x, p⟩::r,hG,hM,hW =>
    have hl:=hW.2.1;simp only[List.length_cons] at hl;have hm:M r.length=x:=hM.1;have hw:=zp6 hW m;by_cases hx:x=m
    · subst hx
      have hpp:=hW.2.2.1;simp only at hpp;by_cases hc:p=0∨p=if x=true then 3 else 1
      · have e:zdq x (⟨x,p⟩::r)=(.at_ r (zgo r),[zbm]):=if_pos ⟨rfl,hc⟩
        rw[e] at hw ⊢;refine(zad6 (k:=r.length) hG (by omega) x hm ?_).mono ?_
        · cases x <;>simp only[plJ] at hc ⊢ <;>rcases hc with rfl|rfl <;>simp
        rintro r' w' ⟨rfl,hs,hg⟩;exact⟨rfl,hs,zoq hg (zai5 r hW.2.2.2) rfl hM.2 hw hD⟩
      · have e:zdq x (⟨x,p⟩::r)=(.bad 2,[]):=if_neg (fun h=>hc h.2)
        rw[e];have hpl:plJ (⟨x,p⟩::r) dn≠5∧plJ (⟨x,p⟩::r) dn≠1∧plJ (⟨x,p⟩::r) dn≠3:=by
          cases x <;>simp at hc hpp <;>simp only[plJ] <;>repeat' (first | omega|split)
        refine(zua (k:=r.length) hG (by omega) x hm hpl.1 hpl.2.1 hpl.2.2).mono ?_;rintro r w' ⟨rfl,q,rfl⟩;exact zcu 2 (zaf3 _ _ _ _ _)
    · have e:zdq m (⟨x,p⟩::r)=(.bad 2,[]):=if_neg (fun h=>hx h.1)
      rw[e];refine(zx4 (k:=r.length) hG (by omega) m (by rw[hm];exact hx)).mono ?_;rintro r w' ⟨rfl,q,rfl⟩;exact zcu 2 (zaf3 _ _ _ _ _)
theorem zhw {D:Nat} {st:List FrJ} {dn:Bool} (h:WfJ D st dn):zgp st dn=true↔plJ st dn=0∨plJ st dn=1:=by
  match st,h with
  | [],_=>cases dn <;>simp[zgp,plJ]
  | ⟨false,p⟩::r,h =>
    have hp:p≤2:=h.2.2.1;simp only[zgp,plJ,Bool.or_eq_true,beq_iff_eq]
    repeat' split
    all_goals omega
  | ⟨true,p⟩::r,h =>
    have hp:p≤4:=h.2.2.1;simp only[zgp,plJ,beq_iff_eq]
    repeat' split
    all_goals omega
theorem zrq {w:World} {b o D:Nat} {st:List FrJ} {dn:Bool} (h:GJ w b o D st dn) (e:Ev) (v:Value) (hv:v= .nilIface∨∃d x,v= .iface d x∧d≠166) :
  Calls Tryz.prog 112 #[.pointer (some ⟨b,o,none⟩),v] w (zdd w b o D (valJ st dn e).1):=by
 obtain⟨M,hG,hM,hW,hD⟩:=h;have hw:=zws hW e;unfold valJ at hw ⊢;by_cases hr:zgp st dn=true
 ·rw[if_pos hr] at hw ⊢
  refine(zpn hG ((zhw hW).1 hr) v hv).mono ?_;rintro r w' ⟨rfl,hs,hg⟩;exact⟨rfl,hs,zoq hg (zah8 st) (zfg st).symm hM.paid hw hD⟩
 ·rw[if_neg hr]
  have hp:¬(plJ st dn=0∨plJ st dn=1):=fun h=>hr ((zhw hW).2 h)
  refine(zit hG (fun h=>hp (.inl h)) (fun h=>hp (.inr h)) v).mono ?_;rintro r w' ⟨rfl,rfl⟩;exact zcu 2 (Sub.refl _ _ _ _)
theorem zahd {w:World} {b o D:Nat} {st:List FrJ} {dn:Bool} (h:GJ w b o D st dn) (m:Bool) (e:Ev) (c:Int) :
    Calls Tryz.prog 112 #[.pointer (some ⟨b,o,none⟩),.iface 166 (.agg #[.bool m,.int .i64 c])] w (zdd w b o D (zer D st dn m e).1):=by
  obtain⟨M,hG,hM,hW,hD⟩:=h;have hw:=zpx hW m e;have hl:=hW.2.1;unfold zer at hw ⊢;by_cases hr:zgp st dn=true
  · rw[if_pos hr] at hw ⊢
    refine(zp2 hG ((zhw hW).1 hr) hl hD m c).mono ?_;rintro r w' ⟨rfl,hs,hg⟩;by_cases hd:D≤st.length
    · rw[if_pos hd]
      have e2:st.length=D:=by omega
      rw[if_pos e2];exact zcu 4 hs
    · rw[if_neg hd] at hw ⊢
      have e2:st.length≠D:=by omega
      rw[if_neg e2];refine⟨rfl,hs,zoq (hg e2) ?_ ?_ ⟨?_,?_⟩ hw hD⟩
      · cases m <;>rfl
      · simp[zfg]
      · show updM M st.length m (zml st).length=m
        simp[updM,zfg]
      · exact MapJ.set (by rw[zfg];exact Nat.le_refl _) hM.paid
  · rw[if_neg hr]
    have hp:¬(plJ st dn=0∨plJ st dn=1):=fun h=>hr ((zhw hW).2 h)
    refine(zit hG (fun h=>hp (.inl h)) (fun h=>hp (.inr h)) _).mono ?_;rintro r w' ⟨rfl,rfl⟩;exact zcu 2 (Sub.refl _ _ _ _)
end
section
open Go.RowKit
open Go.Lib
theorem zqc {w:World} {b o D:Nat} {p:Pj} (v:Value) (h:Calls Tryz.prog 108 #[.pointer (some ⟨b,o,none⟩)] w (zdd w b o D p)) :
  Calls Tryz.prog 104 #[.pointer (some ⟨b,o,none⟩),.int .u8 58,v] w (zdd w b o D p):=by
 have H:=hid h;clear h;go_enter Tryz.func104,Tryz.ntmps104;(go_wp2_with fail);refine H.out.mono ?_;rintro r w1 ⟨rfl,h1⟩;have H1:=hid h1;clear h1;obtain⟨E,hE⟩:∃E:Nat,errP p=E:=⟨_,rfl⟩
 have HE:=hid hE;rw[hE];clear hE;go_wp2;go_ret;exact⟨by rw[HE.out];rfl,H1.out⟩
theorem zos {w:World} {b o D:Nat} {p:Pj} (v:Value) (h:Calls Tryz.prog 109 #[.pointer (some ⟨b,o,none⟩)] w (zdd w b o D p)) :
  Calls Tryz.prog 104 #[.pointer (some ⟨b,o,none⟩),.int .u8 44,v] w (zdd w b o D p):=by
 have H:=hid h;clear h;go_enter Tryz.func104,Tryz.ntmps104;(go_wp2_with fail);refine H.out.mono ?_;rintro r w1 ⟨rfl,h1⟩;have H1:=hid h1;clear h1;obtain⟨E,hE⟩:∃E:Nat,errP p=E:=⟨_,rfl⟩
 have HE:=hid hE;rw[hE];clear hE;go_wp2;go_ret;exact⟨by rw[HE.out];rfl,H1.out⟩
theorem zkg {w:World} {b o D:Nat} {p:Pj} (m:Bool) (v:Value) (h:Calls Tryz.prog 110 #[.pointer (some ⟨b,o,none⟩),.bool m] w (zdd w b o D p)) :
  Calls Tryz.prog 104 #[.pointer (some ⟨b,o,none⟩),.int .u8 (if m=true then 125 else 93),v] w (zdd w b o D p):=by
 have H:=hid h;clear h;cases m
 all_goals
  simp only[if_true,Bool.false_eq_true,if_false];go_enter Tryz.func104,Tryz.ntmps104;(go_wp2_with fail);refine H.out.mono ?_;rintro r w1 ⟨rfl,h1⟩;have H1:=hid h1;clear h1;obtain⟨E,hE⟩:∃E:Nat,errP p=E:=⟨_,rfl⟩
  have HE:=hid hE;rw[hE];clear hE;go_wp2;go_ret;exact⟨by rw[HE.out];rfl,H1.out⟩
theorem zig {w:World} {b o D pl k:Nat} {M:Nat→Bool} {p:Pj} (hG:GAt w b o D pl k M) (h2:pl≠2) (h3:pl≠3) (K:Int) (k1:(K==58)=false) (k2:(K==44)=false) (k3:(K==93)=false) (k4:(K==125)=false) (v:Value)
  (h:Calls Tryz.prog 112 #[.pointer (some ⟨b,o,none⟩),v] w (zdd w b o D p)) :
  Calls Tryz.prog 104 #[.pointer (some ⟨b,o,none⟩),.int .u8 K,v] w (zdd w b o D p):=by
 have H:=hid h;have c1:=hG.plc;have z2:((pl:Int)==2)=false:=by simp;omega
 have z3:((pl:Int)==3)=false:=by simp;omega
 clear h h2 h3 hG;go_enter Tryz.func104,Tryz.ntmps104;(go_wp2_with fail);refine H.out.mono ?_;rintro r w1 ⟨rfl,h1⟩;have H1:=hid h1;clear h1;obtain⟨E,hE⟩:∃E:Nat,errP p=E:=⟨_,rfl⟩
 have HE:=hid hE;rw[hE];clear hE;go_wp2;go_ret;exact⟨by rw[HE.out];rfl,H1.out⟩
theorem ziq {w:World} {b o D pl k:Nat} {M:Nat→Bool} {p:Pj} (hG:GAt w b o D pl k M) (h2:pl=2∨pl=3) (K:Int) (k1:(K==58)=false) (k2:(K==44)=false) (k3:(K==93)=false) (k4:(K==125)=false) (v:Value)
  (h:Calls Tryz.prog 111 #[.pointer (some ⟨b,o,none⟩),v] w (zdd w b o D p)) :
  Calls Tryz.prog 104 #[.pointer (some ⟨b,o,none⟩),.int .u8 K,v] w (zdd w b o D p):=by
 have H:=hid h;have c1:=hG.plc;clear h hG;rcases h2 with rfl|rfl
 all_goals
  go_enter Tryz.func104,Tryz.ntmps104;(go_wp2_with fail);refine H.out.mono ?_;rintro r w1 ⟨rfl,h1⟩;have H1:=hid h1;clear h1;obtain⟨E,hE⟩:∃E:Nat,errP p=E:=⟨_,rfl⟩
  have HE:=hid hE;rw[hE];clear hE;go_wp2;go_ret;exact⟨by rw[HE.out];rfl,H1.out⟩
theorem zaf4 {D:Nat} {st:List FrJ} {dn:Bool} (h:WfJ D st dn) (hp:plJ st dn=2∨plJ st dn=3):∃p r,st=⟨true,p⟩::r∧(p=0∨p=4):=by
  match st,h with
  | [],_=>cases dn <;>simp[plJ] at hp
  | ⟨false,p⟩::r,h =>
    have hq:p≤2:=h.2.2.1;have hc:p=0∨p=1∨p=2:=by omega
    rcases hc with rfl|rfl|rfl <;>simp[plJ] at hp
  | ⟨true,p⟩::r,h =>
    have hq:p≤4:=h.2.2.1;refine⟨p,r,rfl,?_⟩;have hc:p=0∨p=1∨p=2∨p=3∨p=4:=by omega
    rcases hc with rfl|rfl|rfl|rfl|rfl <;>simp[plJ] at hp ⊢
theorem zaap {D:Nat} {st:List FrJ} {dn:Bool} (h:WfJ D st dn) (hp:plJ st dn=2∨plJ st dn=3):zgp st dn=false:=by
 obtain⟨p,r,rfl,h0|h0⟩:=zaf4 h hp <;>subst h0 <;>rfl
theorem zob {w:World} {b o D:Nat} (v:Value) (hv:v= .nilIface∨∃d x,v= .iface d x∧d≠179) (p:Pj) (hp:p= .bad 2) :
  Calls Tryz.prog 111 #[.pointer (some ⟨b,o,none⟩),v] w (zdd w b o D p):=by
 subst hp;refine(zakq v hv).mono ?_;rintro r w' ⟨rfl,rfl⟩;exact zcu 2 (Sub.refl _ _ _ _)
theorem zt5 {w:World} {b o D:Nat} {st:List FrJ} {dn:Bool} (h:GJ w b o D st dn) (hp:plJ st dn=2∨plJ st dn=3) (t:List UInt8) :
  Calls Tryz.prog 111 #[.pointer (some ⟨b,o,none⟩),.iface 179 (.string ⟨t.toArray⟩)] w (zdd w b o D (strJ st dn t).1):=by
 obtain⟨M,hG,hM,hW,hD⟩:=h;have hw:=zafy hW t;obtain⟨p,r,rfl,h0|h0⟩:=zaf4 hW hp
 all_goals
  subst h0;refine(zagp hG ⟨t.toArray⟩).mono ?_;rintro r' w' ⟨rfl,rfl⟩;exact⟨rfl,zid _ _ _ _,zoq (hG.setPl 4) rfl rfl hM hw hD⟩
theorem zai1 {st:List FrJ} {dn:Bool} {D:Nat} (h:WfJ D st dn) (hp:¬(plJ st dn=2∨plJ st dn=3)) (t:List UInt8):strJ st dn t=valJ st dn (zce t):=by
 unfold strJ;split
 ·exact absurd (.inr rfl) hp
 ·exact absurd (.inl rfl) hp
 ·rfl
theorem zack {w:World} {b o D:Nat} {st:List FrJ} {dn:Bool} (h:GJ w b o D st dn) (t:Tk) (hk:zi3 t) :
    Calls Tryz.prog 104 #[.pointer (some ⟨b,o,none⟩),.int .u8 t.k,zo0 t] w (zdd w b o D (tokJ D (.at_ st dn) t).1):=by
  have h0:=h;obtain⟨M,hG,hM,hW,hD⟩:=h0;have vals:∀(e:Ev) (v:Value) (K:Int),(K==58)=false→(K==44)=false→(K==93)=false→(K==125)=false→(v= .nilIface∨∃d x,v= .iface d x∧d≠166∧d≠179) →
      Calls Tryz.prog 104 #[.pointer (some ⟨b,o,none⟩),.int .u8 K,v] w (zdd w b o D (valJ st dn e).1):=by
    intro e v K k1 k2 k3 k4 hv;by_cases hp:plJ st dn=2∨plJ st dn=3
    · refine ziq hG hp K k1 k2 k3 k4 v (zob v ?_ _ ?_)
      · rcases hv with hv|⟨d,x,hv,_,hd⟩
        · exact .inl hv
        · exact .inr ⟨d,x,hv,hd⟩
      · unfold valJ;rw[if_neg (by rw[zaap hW hp];decide)]
    · refine zig hG (fun h=>hp (.inl h)) (fun h=>hp (.inr h)) K k1 k2 k3 k4 v (zrq h e v ?_)
      rcases hv with hv|⟨d,x,hv,hd,_⟩
      · exact .inl hv
      · exact .inr ⟨d,x,hv,hd⟩
  have opens:∀(m:Bool) (K:Int),(K==58)=false→(K==44)=false→(K==93)=false→(K==125)=false →
      Calls Tryz.prog 104 #[.pointer (some ⟨b,o,none⟩),.int .u8 K,valE (zda m)] w (zdd w b o D (zer D st dn m (zda m)).1):=by
    intro m K k1 k2 k3 k4;have hv:valE (zda m)= .iface 166 (.agg #[.bool m,.int .i64 (-1)]):=by cases m <;>rfl
    rw[hv];by_cases hp:plJ st dn=2∨plJ st dn=3
    · refine ziq hG hp K k1 k2 k3 k4 _ (zob _ (.inr ⟨166,_,rfl,by decide⟩) _ ?_)
      unfold zer;rw[if_neg (by rw[zaap hW hp];decide)]
    · exact zig hG (fun h=>hp (.inl h)) (fun h=>hp (.inr h)) K k1 k2 k3 k4 _ (zahd h m (zda m) (-1))
  obtain⟨k,x,n⟩:=t;rcases hk.1 with hh|hh|hh|hh|hh|hh|hh|hh|hh|hh|hh
  all_goals simp only at hh;subst hh
  · exact zos _ (zabg h)
  · exact zqc _ (zadq h)
  · exact zkg false _ (zx7 h false)
  · exact zkg true _ (zx7 h true)
  · exact opens false _ rfl rfl rfl rfl
  · exact opens true _ rfl rfl rfl rfl
  · show Calls _ _ #[_,.int .u8 115,.iface 179 (.string ⟨x.toArray⟩)] w (zdd w b o D (strJ st dn x).1)
    by_cases hp:plJ st dn=2∨plJ st dn=3
    · exact ziq hG hp _ rfl rfl rfl rfl _ (zt5 h hp x)
    · rw[zai1 hW hp]
      exact zig hG (fun h=>hp (.inl h)) (fun h=>hp (.inr h)) _ rfl rfl rfl rfl _ (zrq h _ _ (.inr ⟨179,_,rfl,by decide⟩))
  · exact vals (zju n) _ _ rfl rfl rfl rfl (.inr ⟨93,_,rfl,by decide,by decide⟩)
  · exact vals (zdh true) _ _ rfl rfl rfl rfl (.inr ⟨4,_,rfl,by decide,by decide⟩)
  · exact vals (zdh false) _ _ rfl rfl rfl rfl (.inr ⟨4,_,rfl,by decide,by decide⟩)
  · exact vals zcy _ _ rfl rfl rfl rfl (.inl rfl)
end
section
open Go.RowKit
open Go.Lib
def pre (E:Nat→Ev) (j:Nat):List Ev:=(List.range j).map E
def evsC:List Ev→List Value
 | []=>[]
 | e::r=>zeg e++evsC r
theorem zag4 (L:List Ev):(evsC L).length=L.length*5:=by
  induction L with
  | nil=>rfl
  | cons e L ih =>
    rw[evsC,List.length_append,ih];simp[zeg];omega
theorem zakz (L:List Ev):∀u∈evsC L,u.oneCell'=true:=by
  induction L with
  | nil=>intro u h;simp[evsC] at h
  | cons e L ih =>
    intro u h;rw[evsC,List.mem_append] at h;rcases h with h|h
    · simp[zeg] at h
      rcases h with rfl|rfl|rfl|rfl|rfl <;>rfl
    · exact ih u h
def getE (L:List Ev) (i:Nat):Ev:=L[i]?.getD evZ
theorem zaky (L:List Ev):∀(i j:Nat),i<L.length→j<5→(evsC L)[i*5+j]? =(zeg (getE L i))[j]? := by
  induction L with
  | nil=>intro i j h;simp at h
  | cons e L ih =>
    intro i j hi hj;rw[evsC];cases i with
    | zero =>
      rw[List.getElem?_append_left (by simp[zeg];omega)];simp[getE]
    | succ i =>
      rw[List.getElem?_append_right (by simp[zeg];omega)];have h1:(i+1)*5+j-(zeg e).length=i*5+j:=by simp[zeg];omega
      rw[h1,ih i j (by simpa using hi) hj];simp[getE]
theorem zajb (E:Nat→Ev) (n:Nat):(pre E n).length=n:=by simp[pre]
theorem zakx (E:Nat→Ev) (n i:Nat) (h:i<n):getE (pre E n) i=E i:=by simp[getE,pre,h]
def Made (w0 w:World) (v:Value) (n:Nat) (L:List Ev):Prop:=Below w0.heap.size w0 w∧Win w 43 5 v n (evsC L)∧∀k∈Value.owner v,w0.heap.size≤k
end
section
open Go.RowKit
open Go.Lib
theorem zed:(Tryz.prog.info? 20).map (fun i=>(i.zero,i.size,i.bytes))=some (some .nilIface,1,16):=by kernel_rfl
structure Vls (w0 w:World) (v:Value) (L:List Ev):Prop where
 win:Win w 20 1 v L.length (L.map valE)
 new:∀k∈Value.owner v,w0.heap.size≤k
theorem Vls.nil_ (w0 w:World):Vls w0 w (.slice none 0 0) []:=⟨Win.nil_ _ _ _,fun k hk=>by simp[Value.owner] at hk⟩
theorem Vls.keep {w0 w w':World} {v:Value} {L:List Ev} (h:Vls w0 w v L) (hk:∀k,k<w.heap.size→w0.heap.size≤k→w'.heap[k]? = w.heap[k]?):Vls w0 w' v L :=
 ⟨h.win.keep fun k ho=>hk k (h.win.lt k ho) (h.new k ho),h.new⟩
theorem Vls.go {w0 w w':World} {v:Value} {L:List Ev} (h:Vls w0 w v L) (k:Below w.heap.size w w'):Vls w0 w' v L:=h.keep fun i hi _=>k.block i hi
theorem Vls.sub {w0 w w':World} {v:Value} {L:List Ev} {b o n:Nat} (h:Vls w0 w v L) (k:Sub b o n w w') (hb:b<w0.heap.size):Vls w0 w' v L :=
 h.keep fun i hi h0=>k.step.block i hi (by simp only[List.mem_singleton];omega)
theorem Vls.old {w0 w1 w:World} {v:Value} {L:List Ev} (h:Vls w0 w v L) (hs:w1.heap.size≤w0.heap.size):Vls w1 w v L:=⟨h.win,fun k hk=>Nat.le_trans hs (h.new k hk)⟩
theorem Vls.form {w0 w:World} {v:Value} {L:List Ev} (h:Vls w0 w v L):∃a c,v= .slice a L.length c:=by
 obtain⟨a,c,h,_,_⟩:=h.win.slice_form;exact⟨a,c,h⟩
theorem zhn (L:List Ev):∀u∈L.map valE,u.oneCell'=true:=by
 intro u hu;obtain⟨e,_,rfl⟩:=List.mem_map.1 hu;unfold valE
 repeat' split
 all_goals rfl
theorem zlo {w0 w w2:World} {v v':Value} {L K:List Ev} {n m:Nat} (h:Vls w0 w v L) (hn:L.length=n) (hm:K.length=m) (hs:w0.heap.size≤w.heap.size) (hW:Win w2 20 1 v' (n+m) (L.map valE++K.map valE))
  (hO:v'.ownBlock=v.ownBlock∨v'.ownBlock=some w.heap.size∧w.heap.size<w2.heap.size):Vls w0 w2 v' (L++K):=by
 refine⟨by rw[List.length_append,List.map_append,hn,hm];exact hW,fun k hk=> ?_⟩;rcases hO with e|⟨e,_⟩
 ·exact h.new k ((zad _ _).1 (e▸(zad _ _).2 hk))
 ·have:=(zad _ _).2 hk
  rw[e] at this;cases this;exact hs
end
section
open Go.RowKit
open Go.Lib
theorem zev (D:Nat):∀(a b:List Tk) (p:Pj),zaw D p (a++b)=((zaw D (zaw D p a).1 b).1,(zaw D p a).2++(zaw D (zaw D p a).1 b).2)
 | [],b,p=>by simp[zaw]
 | t::a,b,p=>by simp only[List.cons_append,zaw,zev D a b,List.append_assoc]
theorem zwh {ts:List Tk} {j:Nat} (h:j<ts.length):ts[j]=getT ts j:=by simp[getT,h]
theorem zagj {D:Nat} {p q:Pj} {ts:List Tk} {L:List Ev} {j:Nat} (hj:j<ts.length) (h:zaw D p (ts.take j)=(q,L)) :
  zaw D p (ts.take (j+1))=((tokJ D q (getT ts j)).1,L++(tokJ D q (getT ts j)).2):=by
 rw[List.take_add_one,List.getElem?_eq_getElem hj,zwh hj,zev,h];simp only[Option.toList_some,zab6]
theorem zwv {D e:Nat} {p:Pj} {ts:List Tk} {L:List Ev} {j:Nat} (h:zaw D p (ts.take j)=(.bad e,L)):zaw D p ts=(.bad e,L):=by
 have:=zev D (ts.take j) (ts.drop j) p;rw[List.take_append_drop,h,zacg] at this;simpa using this
theorem GJ.below {w w':World} {b o D:Nat} {st:List FrJ} {dn:Bool} (h:GJ w b o D st dn) (k:Below w.heap.size w w'):GJ w' b o D st dn:=by
 obtain⟨M,hG,r⟩:=h;exact⟨M,hG.below k,r⟩
theorem GJ.room {w:World} {b o D:Nat} {st:List FrJ} {dn:Bool} (h:GJ w b o D st dn):Room w b o 38:=by
 obtain⟨M,hG,r⟩:=h;exact hG.room
structure RdJ (w0 w wr:World) (b o D:Nat) (st:List FrJ) (dn:Bool) (ts:List Tk) (v:Value) (j:Nat) (u:Value) (st':List FrJ) (dn':Bool) (L:List Ev):Prop where
 toks:Tks w0 wr v ts
 own:∀k∈Value.owner v,k<w.heap.size
 at_:zaw D (.at_ st dn) (ts.take j)=(.at_ st' dn',L)
 vls:Vls w wr u L
 gj:GJ wr b o D st' dn'
 sub:Sub b (o+20) 18 w wr
 len:L.length≤j
def endE (q:Pj) (E:Nat):Nat:=match q with
 | .bad e=>e
 | .at_ _ _=>E
structure ReadJ (w w':World) (b o D:Nat) (q:Pj×List Ev) (E:Nat) (r:Ending):Prop where
 tells:∃u,r= .returned (.tuple #[u,.int .i64 (endE q.1 E)])∧Vls w w' u q.2
 sub:Sub b (o+20) 18 w w'
 out:OutJ w' b o D q.1
theorem zvb (t:Tk):zo0 t= .nilIface∨∃d x,zo0 t= .iface d x:=by
  unfold zo0;cases zfj t with
  | none=>exact .inl rfl
  | some e =>
    simp only;unfold valE
    repeat' split
    all_goals first | exact .inl rfl|exact .inr ⟨_,_,rfl⟩
theorem zx1 {w0 w:World} {b o D:Nat} {st:List FrJ} {dn:Bool} (h:GJ w b o D st dn) {ts:List Tk} {v:Value} (hT:Tks w0 w v ts) (hb:b<w0.heap.size) (hw:w0.heap.size≤w.heap.size) (hk:∀t∈ts,zi3 t) (hn:ts.length≤900) (E:Nat) :
    Calls Tryz.prog 99 #[.pointer (some ⟨b,o,none⟩),v,.int .i64 E] w fun r w'=>ReadJ w w' b o D (zaw D (.at_ st dn) ts) E r:=by
  obtain⟨a,c,rfl⟩:=hT.form;have H0:Hid (RdJ w0 w w b o D st dn ts (.slice a ts.length c) 0 (.slice none 0 0) st dn []):=hid ⟨hT,hT.win.lt,by simp[zaw],Vls.nil_ _ _,h,Sub.refl _ _ _ _,by simp⟩;have HB:=hid hb;have HW:=hid hw;have HK:=hid hk;have HN:=hid hn;clear hT hb hw hk hn h;obtain⟨n,hnn⟩:∃n,ts.length=n:=⟨_,rfl⟩
  have HNN:=hid hnn;rw[hnn] at H0 ⊢;have hn9:n≤900:=by have:=HN.out;omega
  clear hnn;go_enter Tryz.func99,Tryz.ntmps99;go_wp2
  go_loopw [8,10,11,12,13,16] (fun u _ _ _ _ i wr=>∃(j:Nat) (st':List FrJ) (dn':Bool) (L:List Ev),i= .int .i64 j∧j≤n∧Hid (RdJ w0 w wr b o D st dn ts (.slice a n c) j u st' dn' L)) (fun _ _ _ _ _ i _=>n-(RowKit.intOf i).toNat)
  case atStart=>exact⟨0,st,dn,[],rfl,by omega,H0⟩
  case round =>
    obtain⟨j,st',dn',L,rfl,hj,HR⟩:=hrel;clear H0;by_cases hlt:j<n
    · have hjt:j<ts.length:=by rw[HNN.out];exact hlt
      obtain⟨g,off,c',hv,x0,x1,x2,x3⟩:=HR.out.toks.cells hjt;obtain⟨ua,uc,rfl⟩:=HR.out.vls.form;have hkt:=HK.out _ (List.getElem_mem hjt);rw[zwh hjt] at hkt;have hq:=zagj hjt HR.out.at_;have hp:=zae8 D st' dn' (getT ts j) hkt;have hwq:WfP D (tokJ D (.at_ st' dn') (getT ts j)).1:=zagb (by obtain⟨M,_,_,h,_⟩:=HR.out.gj;exact h) _;have hP:=fun W=>zaib (getT ts j) hkt W
      have hTk:=fun W (h:GJ W b o D st' dn')=>zack h (getT ts j) hkt
      have hL1:=HR.out.len;have hL2:L.length≤900:=by have:=HN.out;omega
      obtain⟨m,hm⟩:∃m,L.length=m:=⟨_,rfl⟩
      have hform:=zvb (getT ts j);generalize getT ts j=t at *
      generalize hV:zo0 t=V at *
      obtain⟨e,hS⟩:∃e,zfj t=e:=⟨_,rfl⟩
      rw[hS] at hP hp;have hVe:∀x,e=some x→V=valE x:=by
        rintro x rfl;rw[← hV];unfold zo0;rw[hS]
      generalize hQ:tokJ D (.at_ st' dn') t=Q at *
      obtain⟨q,qs⟩:=Q;simp only at hq hp hwq hTk;simp only[Value.slice.injEq] at hv;obtain⟨rfl,hvn,rfl⟩:=hv;clear hvn;unfold tkV at hP;obtain⟨k,tx,n1,n2⟩:=t;simp only at x0 x1 x2 x3 hP hTk;generalize (k:Int)=kk at *
      generalize (⟨tx.toArray⟩:ByteArray)=X at *
      generalize (n2:Int)=nn2 at *
      have HP:=hid hP;have HT:=hid hTk;have HQ:=hid hq;have HPP:=hid hp;have HVE:=hid hVe;have HL:=hid (And.intro hm (And.intro hL1 hL2));rw[hm];clear hkt hq hp hP hTk hQ hV hS hVe hL1 hL2 hjt hm;(go_wp2_with fail);refine(HP.out _).mono ?_;rintro r w1 ⟨rfl,b1⟩;have hb0:=zab (zaa (Below.refl _ wr) (.cells #[.int .u8 kk,.string X,.bool n1,.int .u64 nn2] 205)) b1;have c0:=((zag wr #[.int .u8 kk,.string X,.bool n1,.int .u64 nn2] 205).go b1).cell 0;have hG1:=HR.out.gj.below hb0;have HB1:=hid hb0;have HG1:=hid hG1;simp only[List.getElem?_toArray,List.getElem?_cons_zero] at c0;clear b1 hb0 hG1;(go_wp2_with fail);refine(HT.out _ HG1.out).mono ?_;rintro r w2 ⟨rfl,hs2,ho2⟩;have HS2:=hid hs2;have HO2:=hid ho2;clear hs2 ho2;have hbw:b<w.heap.size:=Nat.lt_of_lt_of_le HB.out HW.out;have hbr:b<wr.heap.size:=Nat.lt_of_lt_of_le hbw HR.out.sub.step.size;have hsub:Sub b (o+20) 18 w w2:=(HR.out.sub.trans (zbr HB1.out hbr _ _)).trans HS2.out;have hvls:Vls w w2 (.slice ua m uc) L:=(HL.out.1▸(HR.out.vls.go HB1.out)).sub HS2.out hbw;have htks:Tks w0 w2 (.slice (some ⟨g,off,none⟩) n c) ts:=(HR.out.toks.go HB1.out).sub HS2.out HB.out;have HS3:=hid (And.intro hsub (And.intro hvls (And.intro htks (And.intro hbw hbr))));clear hsub hvls htks hbw hbr;cases q with
      | bad x =>
        have hz:((x:Int) !=0)=true:=by have:=hwq.1;simp;omega
        have HF:Hid (ReadJ w w2 b o D (zaw D (.at_ st dn) ts) E (.returned (.tuple #[.slice ua m uc,.int .i64 x]))):=hid (by
          have h1:=HQ.out;have h2:=HPP.out;rw[if_neg (by exact hwq.1)] at h2;rw[h2,List.append_nil] at h1;rw[zwv h1];exact⟨⟨_,rfl,HS3.out.2.1⟩,HS3.out.1,trivial⟩)
        simp only[errP];clear hwq;go_wp2;go_ret2;exact HF.out
      | at_ st2 dn2 =>
        have h2:qs=e.toList:=by simpa [errP] using HPP.out
        subst h2;simp only[errP];cases e with
        | none =>
          have HN1:Hid (RdJ w0 w w2 b o D st dn ts (.slice (some ⟨g,off,none⟩) n c) (j+1) (.slice ua m uc) st2 dn2 L):=hid ⟨HS3.out.2.2.1,HR.out.own,by rw[HQ.out];simp,HS3.out.2.1,HO2.out,HS3.out.1,by have:=HL.out.2.1;omega⟩;simp only[Option.isSome];clear hwq;go_wp2
          go_roundw
          case rel=>exact⟨j+1,st2,dn2,L,rfl,hlt,HN1⟩
          case measure=>simp[RowKit.intOf];omega
        | some x =>
          simp only[Option.isSome];have hVx:=HVE.out x rfl;have hm9:m≤900:=by have:=HL.out;omega
          have HNX:Hid (∀v3 w4,Win w4 20 1 v3 (m+1) (L.map valE++[V])→(w2.alloc (.cells #[V] 20)).grownBy w4 (Value.slice ua m uc).ownBlock→(v3.ownBlock=(Value.slice ua m uc).ownBlock∨v3.ownBlock=some (w2.heap.size+1)∧w2.heap.size+1<w4.heap.size) →
              RdJ w0 w w4 b o D st dn ts (.slice (some ⟨g,off,none⟩) n c) (j+1) v3 st2 dn2 (L++[x])):=hid (by
            intro v3 w4 hW3 hG3 hO3;have hbw:=HS3.out.2.2.2.1;have s2:w.heap.size≤w2.heap.size:=HS3.out.1.step.size;have s3:w2.heap.size≤(w2.alloc (.cells #[V] 20)).heap.size:=by simp
            have hrow:∀k,(Value.slice ua m uc).ownBlock=some k→w.heap.size≤k:=fun k hk=>HS3.out.2.1.new k ((zad _ _).1 hk)
            have ha:Sub b (o+20) 18 w (w2.alloc (.cells #[V] 20)):=HS3.out.1.alloc _ hbw;have hblk:∀k,k<w.heap.size→w4.heap[k]? = w2.heap[k]? := fun k hk=>(hG3.block k (by omega) (fun e=>by have:=hrow k e.symm;omega)).trans (Below.heap_alloc w2 _ k (by omega))
            refine⟨⟨HS3.out.2.2.1.win.keep fun k ho=>hblk k (HR.out.own k ho),HS3.out.2.2.1.new⟩,HR.out.own,by rw[HQ.out];rfl,?_,?_,znc ha hG3 hbw hrow,?_⟩
            · exact zlo (w:=w2.alloc (.cells #[V] 20)) (K:=[x]) (HS3.out.2.1.keep fun i hi _=>Below.heap_alloc w2 _ i hi) HL.out.1 rfl (Nat.le_trans s2 s3) (by rw[hVx] at hW3;exact hW3) (by simpa using hO3)
            · obtain⟨M,hG,r⟩:=HO2.out
              exact⟨M,hG.keep (hblk b hbw),r⟩
            · have:=HL.out.2.1
              simp only[List.length_append,List.length_cons,List.length_nil];omega)
          have HWV:Hid (Win (w2.alloc (.cells #[V] 20)) 20 1 (.slice ua m uc) m (L.map valE)):=hid (by
            have:=HS3.out.2.1.win.alloc (.cells #[V] 20)
            rwa [HL.out.1] at this)
          clear hwq hVx;rcases hform with rfl|⟨d,z,rfl⟩
          all_goals
            go_wp2_with (at_builtin;refine zaj rfl _ _ _ rfl Tryz.underlying85 zed rfl rfl HWV.out _ rfl 1 _ (zfp _ Tryz.underlying85 _ _ _ rfl ?e3) ?e1 ?e2 ?_)
            case e1=>unfold maxLen;omega
            case e2=>omega
            case e3=>rfl
            intro v3 w4 hW3 hG3 hO3;have HN1:=hid (HNX.out v3 w4 hW3.out hG3.out hO3.out);clear hW3 hG3 hO3;go_wp2
            go_roundw
            case rel=>exact⟨j+1,st2,dn2,L++[x],rfl,hlt,HN1⟩
            case measure=>simp[RowKit.intOf];omega
    · obtain rfl:j=n:=by omega
      have HF:Hid (ReadJ w wr b o D (zaw D (.at_ st dn) ts) E (.returned (.tuple #[_,.int .i64 E]))):=hid (by
        have h1:=HR.out.at_;rw[List.take_of_length_le (by rw[HNN.out];exact Nat.le_refl _)] at h1;rw[h1];exact⟨⟨_,rfl,HR.out.vls⟩,HR.out.sub,HR.out.gj⟩)
      go_wp2;go_ret2;exact HF.out
end
section
open Go.RowKit
open Go.Lib
theorem GJ.sub {w w':World} {b o D o' n:Nat} {st:List FrJ} {dn:Bool} (h:GJ w b o D st dn) (k:Sub b o' n w w') (h1:o+2≤o') (h2:o'+n≤o+20):GJ w' b o D st dn:=by
 obtain⟨M,hG,r⟩:=h;exact⟨M,⟨hG.room.sub k,(k.cell _ (by omega)).trans hG.dep,(k.cell _ (by omega)).trans hG.plc,(k.cell _ (by omega)).trans hG.opn,fun i hi=>(k.cell _ (by omega)).trans (hG.maps i hi)⟩,r⟩
abbrev paZ (e D:Int):List Value:=[.int .i64 e,.int .i64 D]++lxZ 0++[.int .i64 0,.int .i64 0,.bool false,.bool false,.bool false,.bool false,.bool false,.bool false,.bool false,.bool false,.bool false,.bool false,.bool false,.bool false,.bool false,.bool false,.bool false,.bool false]
def PAt (w:World) (b o D:Nat) (s:Js):Prop:=(1≤D∧D≤16)∧match s.p with
 | .bad e=>e≠0∧At w b o (paZ e D)
 | .at_ st dn=>w.cell? ⟨b,o,none⟩=some (.int .i64 0)∧LAt w b (o+2) s.lx∧GJ w b o D st dn∧badX s.lx=none∧WfX s.lx
def j0:Js:=⟨.idle,.at_ [] false⟩
theorem zacn {w:World} {b o D:Nat} (hD:1≤D∧D≤16) (h:At w b o (paZ 0 D)):PAt w b o D j0:=by
 have hl:At w b (o+2) (lxZ 0):=At.right (vs:=[.int .i64 0,.int .i64 D]) (us:=lxZ 0) (At.left (vs:=[.int .i64 0,.int .i64 D]++lxZ 0) h);refine⟨hD,(h 0 _ rfl).1,hl,⟨fun _=>false,⟨h.room (by simp),(h 1 _ rfl).1,(h 20 _ rfl).1,(h 21 _ rfl).1,fun i hi=> ?_⟩,trivial,⟨fun h=>(by cases h),by simp,trivial⟩,hD.2⟩,rfl,trivial⟩;have h3:∀i,i<16→(paZ 0 D)[22+i]? = some (.bool false):=by
  intro i hi;have hc:i=0∨i=1∨i=2∨i=3∨i=4∨i=5∨i=6∨i=7∨i=8∨i=9∨i=10∨i=11∨i=12∨i=13∨i=14∨i=15:=by omega
  rcases hc with rfl|rfl|rfl|rfl|rfl|rfl|rfl|rfl|rfl|rfl|rfl|rfl|rfl|rfl|rfl|rfl <;>rfl
 have:=(h (22+i) _ (h3 i hi)).1
 rwa [← Nat.add_assoc] at this
theorem PAt.room {w:World} {b o D:Nat} {s:Js} (h:PAt w b o D s):Room w b o 38:=by
 obtain⟨hD,h⟩:=h;revert h;cases s.p with
 | bad e=>exact fun h=>h.2.room (by simp)
 | at_ st dn=>exact fun h=>h.2.2.1.room
theorem PAt.lt {w:World} {b o D:Nat} {s:Js} (h:PAt w b o D s):b<w.heap.size:=h.room.lt
theorem PAt.keep {w w':World} {b o D:Nat} {s:Js} (h:PAt w b o D s) (hk:w'.heap[b]? = w.heap[b]?):PAt w' b o D s:=by
  obtain⟨hD,h⟩:=h;refine⟨hD,?_⟩;revert h;cases s.p with
  | bad e=>exact fun h=>⟨h.1,h.2.keep hk⟩
  | at_ st dn =>
    rintro ⟨h1,h2,⟨M,hG,r⟩,h4⟩;exact⟨by simpa only[World.cell?,hk] using h1,h2.keep hk,⟨M,hG.keep hk,r⟩,h4⟩
theorem PAt.head {w:World} {b o D:Nat} {s:Js} (h:PAt w b o D s):w.cell? ⟨b,o,none⟩=some (.int .i64 (errP s.p))∧w.cell? ⟨b,o+1,none⟩=some (.int .i64 D):=by
  obtain⟨hD,h⟩:=h;revert h;cases s.p with
  | bad e=>exact fun h=>⟨(h.2 0 _ rfl).1,(h.2 1 _ rfl).1⟩
  | at_ st dn =>
    rintro ⟨h1,h2,⟨M,hG,r⟩,h4⟩;exact⟨h1,hG.dep⟩
theorem zlx {w:World} {b o D:Nat} {s:Js} (h:PAt w b o D s) :
  Calls Tryz.prog 98 #[.pointer (some ⟨b,o,none⟩)] w fun r w'=>r= .returned (.int .i64 (errP s.p))∧w=w':=by
 obtain⟨c0,c1⟩:=h.head;have hz:((D:Int)==0)=false:=by have:=h.1;simp;omega
 clear h;generalize (errP s.p:Int)=e at *
 go_enter Tryz.func98,Tryz.ntmps98;go_wp2;go_ret;exact⟨rfl,rfl⟩
theorem zrw (p v:Value) (w:World):Calls Tryz.prog 101 #[p,v,.int .i64 0] w fun r w'=>r= .returned (.tuple #[v,.int .i64 0])∧w'=w:=by
 go_enter Tryz.func101,Tryz.ntmps101;go_wp2;go_ret2;exact⟨rfl,rfl⟩
theorem zin {w:World} {b o D:Nat} (h:Room w b o 38) (hc:w.cell? ⟨b,o+1,none⟩=some (.int .i64 D)) (v:Value) (e:Nat) (he:e≠0) :
  Calls Tryz.prog 101 #[.pointer (some ⟨b,o,none⟩),v,.int .i64 e] w fun r w'=>r= .returned (.tuple #[v,.int .i64 e])∧At w' b o (paZ e D)∧Sub b o 38 w w':=by
 have hz:((e:Int) !=0)=true:=by simp;omega
 have HT:=hid h;clear h he;go_enter Tryz.func101,Tryz.ntmps101
 go_wp2_with (refine zas rfl 140 _ _ rfl b o (paZ e D) rfl rfl HT.out (by kernel_rfl) (by kernel_rfl) ?_)
 intro w1 HP;go_wp2;go_ret2;exact⟨rfl,HP.out⟩
theorem zrp {w:World} {b o D:Nat} {st:List FrJ} {dn:Bool} (h:GJ w b o D st dn) :
    Calls Tryz.prog 94 #[.pointer (some ⟨b,o,none⟩)] w fun r w'=>r= .returned (.bool dn)∧w'=w:=by
  obtain⟨M,hG,hM,hW,hD⟩:=h;have c1:=hG.opn;have c2:=hG.plc
  match st,hW with
  | [],hW =>
    have c1':w.cell? ⟨b,o+21,none⟩=some (.int .i64 0):=c1;clear hG hM hW hD c1;cases dn
    · have c2':w.cell? ⟨b,o+20,none⟩=some (.int .i64 0):=c2
      clear c2;go_enter Tryz.func94,Tryz.ntmps94;go_wp2;go_ret;exact⟨rfl,rfl⟩
    · have c2':w.cell? ⟨b,o+20,none⟩=some (.int .i64 5):=c2
      clear c2;go_enter Tryz.func94,Tryz.ntmps94;go_wp2;go_ret;exact⟨rfl,rfl⟩
  | f :: r,hW =>
    have hdn:dn=false:=by
      cases dn
      · rfl
      · exact absurd (hW.1 rfl) (by simp)
    subst hdn;have hz:(((f::r).length:Int)==0)=false:=by simp;omega
    clear hG hM hW hD c2;generalize ((f::r).length:Int)=K at *
    go_enter Tryz.func94,Tryz.ntmps94;go_wp2;go_ret;exact⟨rfl,rfl⟩
theorem zafg (D:Nat) (hD:1≤D∧D≤16) (w:World) :
  Calls Tryz.prog 52 #[.int .i64 D] w fun r w'=>r= .returned (.pointer (some ⟨w.heap.size,0,none⟩))∧PAt w' w.heap.size 0 D j0∧Below w.heap.size w w':=by
 have h1:((D:Int)<1)=False:=by simp;omega
 have h2:((16:Int)<(D:Int))=False:=by simp;omega
 have HP:Hid (PAt (w.alloc (.cells (paZ 0 D).toArray 140)) w.heap.size 0 D j0):=hid (zacn hD (zmj (heap_alloc_new w _)));clear hD;go_enter Tryz.func52,Tryz.ntmps52;go_wp2;go_ret;exact⟨rfl,HP.out,zaa (Below.refl _ _) _⟩
end
section
open Go.RowKit
open Go.Lib
structure StepR (w w':World) (b o D:Nat) (q:Js×List Ev) (r:Ending):Prop where
 tells:∃u,r= .returned (.tuple #[u,.int .i64 (errP q.1.p)])∧Vls w w' u q.2
 at_:PAt w' b o D q.1
 sub:Sub b o 38 w w'
theorem zts (D:Nat) (lx:Lx) (st:List FrJ) (dn:Bool) (hW:WfJ D st dn) (hl:∀e,lx= .bad e→e≠0) (y:UInt8) :
    (endE (zaw D (.at_ st dn) (zak lx y).2).1 (errX (zak lx y).1)=0→badX (zak lx y).1=none∧zel D ⟨lx,.at_ st dn⟩ y=(⟨(zak lx y).1,(zaw D (.at_ st dn) (zak lx y).2).1⟩,(zaw D (.at_ st dn) (zak lx y).2).2)∧∃st' dn',(zaw D (.at_ st dn) (zak lx y).2).1= .at_ st' dn') ∧
    (endE (zaw D (.at_ st dn) (zak lx y).2).1 (errX (zak lx y).1)≠0→(zel D ⟨lx,.at_ st dn⟩ y).2=(zaw D (.at_ st dn) (zak lx y).2).2∧(zel D ⟨lx,.at_ st dn⟩ y).1.p= .bad (endE (zaw D (.at_ st dn) (zak lx y).2).1 (errX (zak lx y).1))):=by
  have hb:=znz lx y;have hne:∀e,(zak lx y).1= .bad e→e≠0:=by
    intro e he;by_cases hlb:badX lx=none
    · exact zaef hlb y (by rw[he];rfl)
    · cases lx with
      | bad e' =>
        simp only[zak,Lx.bad.injEq] at he;subst he;exact hl _ rfl
      | _=>exact absurd rfl hlb
  simp only[zel];generalize zak lx y=X at hb hne;obtain⟨x1,x2⟩:=X;have wf:=fun q (h:(zaw D (.at_ st dn) x2).1=q)=>show WfP D q from h▸zln x2 (p:= .at_ st dn) hW
  cases x1 with
  | bad e =>
    have he:=hne e rfl;obtain rfl:x2=[]:=by
      have:=hb (by simpa [errX] using he);exact(Prod.mk.inj this).2
    simp only[zaw,endE,errX,badX];exact⟨fun h=>absurd h he,fun _=>⟨trivial,trivial⟩⟩
  | idle|str _ _|num _|word _ _ =>
    simp only[badX,errX];cases hq:(zaw D (.at_ st dn) x2).1 with
    | bad e =>
      have:=(wf _ hq).1;simp only[endE];exact⟨fun h=>absurd h this,fun _=>⟨trivial,trivial⟩⟩
    | at_ st' dn' =>
      simp only[endE];exact⟨fun _=>⟨trivial,trivial,_,_,rfl⟩,fun h=>absurd rfl h⟩
theorem zae3 (s:Lx) (y:UInt8):(zak s y).2.length≤900:=by
  have start:∀x,(zar x).2.length≤1:=by
    intro x;unfold zar
    repeat' split
    all_goals simp
  have h:=start y.toNat
  match s with
  | .bad e=>simp[zak]
  | .idle=>simp only[zak];omega
  | .str s t => simp only[zak];repeat' split
                all_goals simp
  | .num d =>
    simp only[zak]
    repeat' split
    all_goals first | simp|skip
    generalize zar y.toNat=q at *
    obtain⟨q1,q2⟩:=q;cases q1 <;>simp[zsa] at h ⊢ <;>omega
  | .word k []=>simp[zak]
  | .word k (x::q) =>
    simp only[zak]
    repeat' split
    all_goals simp
theorem zt6 {w:World} {b o D:Nat} {lx:Lx} {st:List FrJ} {dn:Bool} (h:PAt w b o D ⟨lx,.at_ st dn⟩) (y:UInt8) :
  Calls Tryz.prog 97 #[.pointer (some ⟨b,o,none⟩),.int .u8 y.toNat] w fun r w'=>StepR w w' b o D (zel D ⟨lx,.at_ st dn⟩ y) r:=by
 have h0:=h;obtain⟨hD,c0,hL,hG,hb,hW⟩:=h0;have hbl:=h.lt;obtain⟨M,hg,hM,hWJ,hD2⟩:=hG;have hc:=zts D lx st dn hWJ (fun e he=>by rw[he] at hb;cases hb) y;have hS:=zab9 hL y;have hw:=zpe lx hW y;have hln:=zae3 lx y;have HAD:=hid (zlx h);generalize zak lx y=X at *
 generalize zel D ⟨lx,.at_ st dn⟩ y=R at *
 obtain⟨x1,x2⟩:=X;simp only at hc hS hw hln;generalize hE:Go.Proofs.YtpaciekgbhoncaaGreat.errX x1=E at *
 have HRD:Hid (∀w1 v,Tks w w1 v x2→Sub b (o+2) 18 w w1→Calls Tryz.prog 99 #[.pointer (some ⟨b,o,none⟩),v,.int .i64 E] w1 fun r w'=>ReadJ w1 w' b o D (zaw D (.at_ st dn) x2) E r):=hid (fun w1 v hT hs =>
  zx1 (GJ.sub ⟨M,hg,hM,hWJ,hD2⟩ hs (by omega) (by omega)) hT hbl hs.step.size hw.2 hln E)
 generalize zaw D (.at_ st dn) x2=Q at *
 obtain⟨q1,q2⟩:=Q;simp only at hc;obtain⟨F,hF⟩:∃F,endE q1 E=F:=⟨_,rfl⟩
 rw[hF] at hc;have HS:=hid hS;have HC:=hid hc;have HF:=hid hF;have HL:=hid (And.intro hL (And.intro hbl (And.intro hW (And.intro hD (And.intro hw.1 h.room)))));have HE:=hid hE;have HDP:=hid hg.dep;have HC0:=hid c0;clear hS hc hF hL hbl hb hW hD hw hln hg hM hWJ hD2 h c0 hE;simp only[errP] at HAD;by_cases hz:F=0
 ·go_enter Tryz.func97,Tryz.ntmps97
  (go_wp2_with fail);refine HAD.out.mono ?_;rintro r w1 ⟨rfl,rfl⟩;(go_wp2_with fail);refine HS.out.mono ?_;rintro r w1 ⟨v1,rfl,hT1,hL1,hs1⟩;have H1:=hid (And.intro hT1 (And.intro hL1 hs1));clear hT1 hL1 hs1;(go_wp2_with fail);refine(HRD.out _ _ H1.out.1 H1.out.2.2).mono ?_;rintro r w2 ⟨⟨u,rfl,hV⟩,hs2,ho2⟩;simp only;rw[HF.out];have H2:=hid (And.intro hV (And.intro hs2 ho2));clear hV hs2 ho2;subst hz;(go_wp2_with fail);refine(zrw _ u w2).mono ?_;rintro r w3 ⟨rfl,rfl⟩;go_wp2;go_ret2;obtain⟨k1,k2,st',dn',k3⟩:=HC.out.1 trivial;rw[k2];subst k3;have hs:Sub b o 38 w w3:=(H1.out.2.2.widen (by omega) (by omega)).trans (H2.out.2.1.widen (by omega) (by omega));exact⟨⟨_,rfl,H2.out.1.old H1.out.2.2.step.size⟩,⟨HL.out.2.2.2.1,((H2.out.2.1.cell _ (by omega)).trans (H1.out.2.2.cell _ (by omega))).trans HC0.out,H1.out.2.1.sub H2.out.2.1 (by omega),H2.out.2.2,k1,HL.out.2.2.2.2.1⟩,hs⟩
 ·go_enter Tryz.func97,Tryz.ntmps97
  (go_wp2_with fail);refine HAD.out.mono ?_;rintro r w1 ⟨rfl,rfl⟩;(go_wp2_with fail);refine HS.out.mono ?_;rintro r w1 ⟨v1,rfl,hT1,hL1,hs1⟩;have H1:=hid (And.intro hT1 (And.intro hL1 hs1));clear hT1 hL1 hs1;(go_wp2_with fail);refine(HRD.out _ _ H1.out.1 H1.out.2.2).mono ?_;rintro r w2 ⟨⟨u,rfl,hV⟩,hs2,ho2⟩;simp only;rw[HF.out];have H2:=hid (And.intro hV hs2);clear hV hs2 ho2;have HT:=hid (zin (w:=w2) (D:=D) ((HL.out.2.2.2.2.2.sub H1.out.2.2).sub H2.out.2) (((H2.out.2.cell _ (by omega)).trans (H1.out.2.2.cell _ (by omega))).trans HDP.out) u F hz);(go_wp2_with fail);refine HT.out.mono ?_;rintro r w3 ⟨rfl,hA,hs3⟩;have H3:=hid (And.intro hA hs3);clear hA hs3;go_wp2;go_ret2;obtain⟨k1,k2⟩:=HC.out.2 hz;have hs:Sub b o 38 w w3:=((H1.out.2.2.widen (by omega) (by omega)).trans (H2.out.2.widen (by omega) (by omega))).trans H3.out.2;have hv:Vls w w3 u q2:=(H2.out.1.old H1.out.2.2.step.size).sub H3.out.2 HL.out.2.1;refine⟨⟨_,by rw[k2];rfl,by rw[k1];exact hv⟩,⟨HL.out.2.2.2.1,?_⟩,hs⟩;rw[k2];exact⟨hz,H3.out.1⟩
theorem zwi {w:World} {b o D e:Nat} {lx:Lx} (h:PAt w b o D ⟨lx,.bad e⟩) (y:UInt8) :
  Calls Tryz.prog 97 #[.pointer (some ⟨b,o,none⟩),.int .u8 y.toNat] w fun r w'=>StepR w w' b o D (zel D ⟨lx,.bad e⟩ y) r:=by
 have HAD:=hid (zlx h);have HP:=hid h;have hz:((e:Int) !=0)=true:=by have:=h.2.1;simp;omega
 simp only[errP] at HAD;clear h;go_enter Tryz.func97,Tryz.ntmps97;(go_wp2_with fail);refine HAD.out.mono ?_;rintro r w1 ⟨rfl,rfl⟩;go_wp2;go_ret2;exact⟨⟨_,rfl,Vls.nil_ _ _⟩,HP.out,Sub.refl _ _ _ _⟩
theorem zadt {w:World} {b o D:Nat} {s:Js} (h:PAt w b o D s) (y:UInt8) :
  Calls Tryz.prog 97 #[.pointer (some ⟨b,o,none⟩),.int .u8 y.toNat] w fun r w'=>StepR w w' b o D (zel D s y) r:=by
 obtain⟨lx,p⟩:=s;cases p with
 | bad e=>exact zwi h y
 | at_ st dn=>exact zt6 h y
end
section
open Go.RowKit
open Go.Lib
structure EndR (w w':World) (b o:Nat) (q:List Ev×Nat) (r:Ending):Prop where
 tells:∃u,r= .returned (.tuple #[u,.int .i64 q.2])∧Vls w w' u q.1
 sub:Sub b o 38 w w'
theorem zai7 (s:Lx) (h:(endX s).2≠0):(endX s).1=[]:=by
  cases s with
  | num d =>
    simp only[endX] at h ⊢;split at h
    · rename_i h1;rw[if_pos h1]
    · exact absurd rfl h
  | _=>rfl
theorem zah1 (s:Lx):(endX s).1.length≤900:=by
 cases s with
 | num d=>simp only[endX];split <;>simp
 | _=>simp[endX]
theorem zy3 (D:Nat) (lx:Lx) (st:List FrJ) (dn:Bool) (hW:WfJ D st dn) :
    (endE (zaw D (.at_ st dn) (endX lx).1).1 (endX lx).2=0→∃st' dn',(zaw D (.at_ st dn) (endX lx).1).1= .at_ st' dn'∧endJ D ⟨lx,.at_ st dn⟩=((zaw D (.at_ st dn) (endX lx).1).2,if dn'=true then 0 else 3)) ∧
    (endE (zaw D (.at_ st dn) (endX lx).1).1 (endX lx).2≠0→endJ D ⟨lx,.at_ st dn⟩=((zaw D (.at_ st dn) (endX lx).1).2,endE (zaw D (.at_ st dn) (endX lx).1).1 (endX lx).2)):=by
  have h1:=zai7 lx;simp only[endJ];generalize endX lx=X at h1;obtain⟨x1,x2⟩:=X;simp only at h1 ⊢;by_cases he:x2≠0
  · rw[h1 he,if_pos he]
    simp only[zaw,endE];exact⟨fun h=>absurd h he,fun _=>trivial⟩
  · rw[if_neg he]
    obtain rfl:x2=0:=by omega
    have wf:=zln x1 (p:= .at_ st dn) hW;generalize zaw D (.at_ st dn) x1=Q at wf ⊢;obtain⟨q1,q2⟩:=Q;cases q1 with
    | bad e =>
      simp only[endE];exact⟨fun h=>absurd h wf.1,fun _=>trivial⟩
    | at_ st' dn' =>
      simp only[endE];refine⟨fun _=>⟨st',dn',rfl,?_⟩,fun h=>absurd rfl h⟩;cases dn' <;>rfl
theorem zaao {w:World} {b o D:Nat} {lx:Lx} {st:List FrJ} {dn:Bool} (h:PAt w b o D ⟨lx,.at_ st dn⟩) :
    Calls Tryz.prog 95 #[.pointer (some ⟨b,o,none⟩)] w fun r w'=>EndR w w' b o (endJ D ⟨lx,.at_ st dn⟩) r:=by
  have h0:=h;obtain⟨hD,c0,hL,hG,hb,hW⟩:=h0;have hbl:=h.lt;obtain⟨M,hg,hM,hWJ,hD2⟩:=hG;have hc:=zy3 D lx st dn hWJ;have hS:=zahb hL;have hw:=zww lx;have hln:=zah1 lx;have HAD:=hid (zlx h);generalize endX lx=X at *
  generalize endJ D ⟨lx,.at_ st dn⟩=R at *
  obtain⟨x1,E⟩:=X;simp only at hc hS hw hln;have HRD:Hid (∀w1 v,Tks w w1 v x1→Sub b (o+2) 18 w w1→Calls Tryz.prog 99 #[.pointer (some ⟨b,o,none⟩),v,.int .i64 E] w1 fun r w'=>ReadJ w1 w' b o D (zaw D (.at_ st dn) x1) E r):=hid (fun w1 v hT hs =>
    zx1 (GJ.sub ⟨M,hg,hM,hWJ,hD2⟩ hs (by omega) (by omega)) hT hbl hs.step.size hw hln E)
  generalize zaw D (.at_ st dn) x1=Q at *
  obtain⟨q1,q2⟩:=Q;simp only at hc;obtain⟨F,hF⟩:∃F,endE q1 E=F:=⟨_,rfl⟩
  rw[hF] at hc;have HS:=hid hS;have HC:=hid hc;have HF:=hid hF;have HL:=hid (And.intro hbl (And.intro hD h.room));have HDP:=hid hg.dep;clear hS hc hF hL hbl hb hW hD hw hln hg hM hWJ hD2 h c0;simp only[errP] at HAD;by_cases hz:F=0
  · obtain⟨st',dn',k1,k2⟩:=HC.out.1 hz
    subst k1;subst hz;have HK:=hid k2;clear k2;cases dn' with
    | true =>
      go_enter Tryz.func95,Tryz.ntmps95;(go_wp2_with fail);refine HAD.out.mono ?_;rintro r w1 ⟨rfl,rfl⟩;(go_wp2_with fail);refine HS.out.mono ?_;rintro r w1 ⟨v1,rfl,hT1,hL1,hs1⟩;have H1:=hid (And.intro hT1 hs1);clear hT1 hL1 hs1;(go_wp2_with fail);refine(HRD.out _ _ H1.out.1 H1.out.2).mono ?_;rintro r w2 ⟨⟨u,rfl,hV⟩,hs2,ho2⟩;simp only;rw[HF.out];have H2:=hid (And.intro hV (And.intro hs2 ho2));clear hV hs2 ho2;(go_wp2_with fail);refine(zrp H2.out.2.2).mono ?_;rintro r w3 ⟨rfl,rfl⟩;(go_wp2_with fail);refine(zrw _ u _).mono ?_;rintro r w3 ⟨rfl,rfl⟩;go_wp2;go_ret2;rw[HK.out];exact⟨⟨_,rfl,H2.out.1.old H1.out.2.step.size⟩,(H1.out.2.widen (by omega) (by omega)).trans (H2.out.2.1.widen (by omega) (by omega))⟩
    | false =>
      go_enter Tryz.func95,Tryz.ntmps95;(go_wp2_with fail);refine HAD.out.mono ?_;rintro r w1 ⟨rfl,rfl⟩;(go_wp2_with fail);refine HS.out.mono ?_;rintro r w1 ⟨v1,rfl,hT1,hL1,hs1⟩;have H1:=hid (And.intro hT1 hs1);clear hT1 hL1 hs1;(go_wp2_with fail);refine(HRD.out _ _ H1.out.1 H1.out.2).mono ?_;rintro r w2 ⟨⟨u,rfl,hV⟩,hs2,ho2⟩;simp only;rw[HF.out];have H2:=hid (And.intro hV (And.intro hs2 ho2));have HT:=hid (zin (w:=w2) (D:=D) ((HL.out.2.2.sub H1.out.2).sub hs2) (((hs2.cell _ (by omega)).trans (H1.out.2.cell _ (by omega))).trans HDP.out) u 3 (by decide));clear hV hs2 ho2;(go_wp2_with fail);refine(zrp H2.out.2.2).mono ?_;rintro r w3 ⟨rfl,rfl⟩;(go_wp2_with fail);refine HT.out.mono ?_;rintro r w4 ⟨rfl,hA,hs3⟩;have H3:=hid hs3;clear hA hs3;go_wp2;go_ret2;rw[HK.out];exact⟨⟨_,rfl,(H2.out.1.old H1.out.2.step.size).sub H3.out HL.out.1⟩,((H1.out.2.widen (by omega) (by omega)).trans (H2.out.2.1.widen (by omega) (by omega))).trans H3.out⟩
  · have HK:=hid (HC.out.2 hz)
    have hz2:((F:Int)==0)=false:=by simp;omega
    go_enter Tryz.func95,Tryz.ntmps95;(go_wp2_with fail);refine HAD.out.mono ?_;rintro r w1 ⟨rfl,rfl⟩;(go_wp2_with fail);refine HS.out.mono ?_;rintro r w1 ⟨v1,rfl,hT1,hL1,hs1⟩;have H1:=hid (And.intro hT1 hs1);clear hT1 hL1 hs1;(go_wp2_with fail);refine(HRD.out _ _ H1.out.1 H1.out.2).mono ?_;rintro r w2 ⟨⟨u,rfl,hV⟩,hs2,ho2⟩;simp only;rw[HF.out];have H2:=hid (And.intro hV hs2);have HT:=hid (zin (w:=w2) (D:=D) ((HL.out.2.2.sub H1.out.2).sub hs2) (((hs2.cell _ (by omega)).trans (H1.out.2.cell _ (by omega))).trans HDP.out) u F hz);clear hV hs2 ho2;(go_wp2_with fail);refine HT.out.mono ?_;rintro r w4 ⟨rfl,hA,hs3⟩;have H3:=hid hs3;clear hA hs3;go_wp2;go_ret2;rw[HK.out];exact⟨⟨_,rfl,(H2.out.1.old H1.out.2.step.size).sub H3.out HL.out.1⟩,((H1.out.2.widen (by omega) (by omega)).trans (H2.out.2.widen (by omega) (by omega))).trans H3.out⟩
theorem zacw {w:World} {b o D e:Nat} {lx:Lx} (h:PAt w b o D ⟨lx,.bad e⟩) :
  Calls Tryz.prog 95 #[.pointer (some ⟨b,o,none⟩)] w fun r w'=>EndR w w' b o (endJ D ⟨lx,.bad e⟩) r:=by
 have HAD:=hid (zlx h);have hz:((e:Int) !=0)=true:=by have:=h.2.1;simp;omega
 simp only[errP] at HAD;clear h;go_enter Tryz.func95,Tryz.ntmps95;(go_wp2_with fail);refine HAD.out.mono ?_;rintro r w1 ⟨rfl,rfl⟩;go_wp2;go_ret2;exact⟨⟨_,rfl,Vls.nil_ _ _⟩,Sub.refl _ _ _ _⟩
theorem zahp {w:World} {b o D:Nat} {s:Js} (h:PAt w b o D s) :
  Calls Tryz.prog 95 #[.pointer (some ⟨b,o,none⟩)] w fun r w'=>EndR w w' b o (endJ D s) r:=by
 obtain⟨lx,p⟩:=s;cases p with
 | bad e=>exact zacw h
 | at_ st dn=>exact zaao h
end
section
open Go.RowKit
open Go.Lib
theorem zah3 (D:Nat) (p:Pj) (t:Tk):(tokJ D p t).2.length≤1:=by
  have hv:∀st dn e,(valJ st dn e).2.length≤1:=by intro st dn e;unfold valJ;split <;>simp
  have hs:∀m st,(zdq m st).2.length≤1:=by
    intro m st
    match st with
    | []=>simp[zdq]
    | ⟨b,q⟩::r =>
      by_cases hc:b=m∧(q=0∨q=if m=true then 3 else 1)
      · have e:zdq m (⟨b,q⟩::r)=(.at_ r (zgo r),[zbm]):=if_pos hc
        rw[e];simp
      · have e:zdq m (⟨b,q⟩::r)=(.bad 2,[]):=if_neg hc
        rw[e];simp
  have ho:∀st dn m e,(zer D st dn m e).2.length≤1:=by
    intro st dn m e;unfold zer;split
    · split <;>simp
    · simp
  have hc:∀st,(zek st).2.length≤1:=by intro st;unfold zek;split <;>simp
  have hl:∀st,(zd3 st).2.length≤1:=by intro st;unfold zd3;split <;>simp
  have ht:∀st dn x,(strJ st dn x).2.length≤1:=by
    intro st dn x;have:=hv st dn (zce x);unfold strJ;split
    · simp
    · simp
    · exact this
  cases p with
  | bad e=>simp[tokJ]
  | at_ st dn =>
    simp only[tokJ]
    repeat' split
    all_goals first | exact hc _|exact hl _|exact hs _ _|exact ho _ _ _ _|exact ht _ _ _|exact hv _ _ _
theorem zie (D:Nat):∀(l:List Tk) (p:Pj),(zaw D p l).2.length≤l.length
  | [],p=>by simp[zaw]
  | t::l,p=>by
    have h1:=zah3 D p t;have h2:=zie D l (tokJ D p t).1;simp only[zaw,List.length_append,List.length_cons];omega
theorem zvm (s:Lx) (y:UInt8):(zak s y).2.length≤2:=by
  have start:∀x,(zar x).2.length≤1:=by
    intro x;unfold zar
    repeat' split
    all_goals simp
  have h:=start y.toNat
  match s with
  | .bad e=>simp[zak]
  | .idle=>simp only[zak];omega
  | .str s t => simp only[zak];repeat' split
                all_goals simp
  | .num d =>
    simp only[zak]
    repeat' split
    all_goals first | simp|skip
    generalize zar y.toNat=q at *
    obtain⟨q1,q2⟩:=q;cases q1 <;>simp[zsa] at h ⊢ <;>omega
  | .word k []=>simp[zak]
  | .word k (x::q) =>
    simp only[zak]
    repeat' split
    all_goals simp
theorem zxo (D:Nat) (s:Js) (b:UInt8):(zel D s b).2.length≤2:=by
 unfold zel;split
 ·simp
 ·split
  ·simp
  ·have h1:=zie D (zak s.lx b).2 s.p
   have h2:=zvm s.lx b;simp only;omega
theorem zae7 (s:Lx):(endX s).1.length≤1:=by
 cases s with
 | num d=>simp only[endX];split <;>simp
 | _=>simp[endX]
theorem zact (D:Nat) (s:Js):(endJ D s).1.length≤1:=by
  unfold endJ;split
  · simp
  · split
    · simp
    · have h1:=zie D (endX s.lx).1 s.p
      have h2:=zae7 s.lx;split
      all_goals
        rename_i h;rw[h] at h1;simp only at h1 ⊢;omega
def WfS (D:Nat) (s:Js):Prop:=WfX s.lx∧WfP D s.p
theorem zako (D:Nat) (s:Js) (h:WfS D s) (b:UInt8):∀e∈(zel D s b).2,zgt e:=by
 intro e he;unfold zel at he;split at he
 ·simp at he
 ·split at he
  ·simp at he
  ·exact zgk D _ _ (zpe _ h.1 b).2 e he
theorem zab0 (D:Nat) (s:Js):∀e∈(endJ D s).1,zgt e:=by
  intro e he;unfold endJ at he;split at he
  · simp at he
  · split at he
    · simp at he
    · have:=zgk D (endX s.lx).1 s.p (zww _)
      split at he
      all_goals
        rename_i h;rw[h] at this;exact this e he
end
section
open Go.Lib
def bigB:Nat→Nat→List UInt8
 | 0,_=>[]
 | n+1,v=>UInt8.ofNat (v/256^n%256)::bigB n v
theorem zbo (n v:Nat):(bigB n v).length=n:=by
 induction n with
 | zero=>rfl
 | succ n ih=>simp[bigB,ih]
theorem zag6 (x:Nat):(UInt8.ofNat (x%256)).toNat=x%256:=by simp
def sizH (v:Nat):Nat×Nat:=if v<24 then(0,v) else if v<256 then(1,24) else if v<65536 then(2,25) else if v<4294967296 then(4,26) else(8,27)
def zcd (m v:Nat):List UInt8:=UInt8.ofNat (m*32+(sizH v).2)::bigB (sizH v).1 v
theorem ztl (v:Nat) (hv:v<18446744073709551616):v<24∧sizH v=(0,v)∨(24≤v∧v<256)∧sizH v=(1,24)∨(256≤v∧v<65536)∧sizH v=(2,25)∨(65536≤v∧v<4294967296)∧sizH v=(4,26)∨(4294967296≤v∧v<18446744073709551616)∧sizH v=(8,27):=by
  unfold sizH;by_cases h1:v<24
  · exact .inl ⟨h1,by rw[if_pos h1]⟩
  · by_cases h2:v<256
    · exact .inr (.inl ⟨by omega,by rw[if_neg h1,if_pos h2]⟩)
    · by_cases h3:v<65536
      · exact .inr (.inr (.inl ⟨by omega,by rw[if_neg h1,if_neg h2,if_pos h3]⟩))
      · by_cases h4:v<4294967296
        · exact .inr (.inr (.inr (.inl ⟨by omega,by rw[if_neg h1,if_neg h2,if_neg h3,if_pos h4]⟩)))
        · exact .inr (.inr (.inr (.inr ⟨by omega,by rw[if_neg h1,if_neg h2,if_neg h3,if_neg h4]⟩)))
theorem znq (m v:Nat):(zcd m v).length=1+(sizH v).1:=by
 unfold zcd;rw[List.length_cons,zbo];omega
inductive Hd
 | bad (e:Nat)
 | new
 | mid (m n v:Nat)
 | fin (m v:Nat) (o:Bool)
def zah:Hd→Nat→Hd
 | .bad e,_=> .bad e
 | .fin _ _ _,_=> .bad 14
 | .new,b=>if b%32<24 then .fin (b/32) (b%32) false else if b%32<28 then .mid (b/32) (2^(b%32-24)) 0 else if b%32=31 then .fin (b/32) 0 true else .bad 2
 | .mid m n v,b=>if n=1 then .fin m (v*256+b) false else .mid m (n-1) (v*256+b)
def endH:Hd→Bool
 | .fin _ _ _=>true
 | _=>false
def errH:Hd→Nat
 | .bad e=>e
 | _=>0
def majH:Hd→Nat
 | .mid m _ _=>m
 | .fin m _ _=>m
 | _=>0
def valH:Hd→Nat
 | .fin _ v _=>v
 | _=>0
def opnH:Hd→Bool
 | .fin _ _ o=>o
 | _=>false
end
section
open Go.Lib
inductive Ci
 | bad (e:Nat)
 | item (s:List Bx) (dn:Bool)
 | head (s:List Bx) (h:Hd)
 | text (s:List Bx) (m:Bool) (n:Nat) (t:List UInt8) (u:Option (Nat×Nat×Nat))
 | open_ (s:List Bx) (m:Bool) (t:List UInt8)
 | chead (s:List Bx) (m:Bool) (t:List UInt8) (h:Hd)
 | ctext (s:List Bx) (m:Bool) (t:List UInt8) (n:Nat) (u:Option (Nat×Nat×Nat))
def zfk (b:Bx):Bool:=decide (0≤b.c∧(b.have_:Int)=if b.map=true then 2*b.c else b.c)
def zap:List Bx→List Bx
 | []=>[]
 | b::r=>if zfk b=true then zap r else b::r
def numC:List Bx→Nat
 | []=>0
 | b::r=>if zfk b=true then numC r+1 else 0
def zes (s:List Bx):List Ev:=List.replicate (numC s) zbm
def atC (s:List Bx):Ci:= .item (zap s) (zap s).isEmpty
def putC (s:List Bx) (e:Ev):Ci×List Ev:=(atC (incB s),e::zes (incB s))
def zb9 (m:Bool) (c:Int):Ev:=⟨if m=true then 6 else 5,false,0,⟨#[]⟩,c⟩
def zca (s:List Bx) (m:Bool) (c:Int):Ci×List Ev:=(atC (⟨m,c,0⟩::incB s),zb9 m c::zes (⟨m,c,0⟩::incB s))
def zby (m:Bool) (t:List UInt8):Ev:=⟨if m=true then 3 else 4,false,0,⟨t.toArray⟩,0⟩
def za5 (m:Bool) (v:Nat):Ev:=⟨2,m,v,⟨#[]⟩,0⟩
def zbt (y:Bool):Ev:=⟨1,y,0,⟨#[]⟩,0⟩
def zgw (s:List Bx):Hd→Ci×List Ev
  | .bad e=>(.bad e,[])
  | .fin m v o =>
    if m<2 then putC s (za5 (decide (m=1)) v)
    else if m<4 then(if o=true then(.open_ s (decide (m=3)) [],[]) else if 200<v then(.bad 5,[]) else if v=0 then putC s (zby (decide (m=3)) []) else(.text s (decide (m=3)) v [] st0,[]))
    else if o=true then zca s (decide (m=5)) (-1) else if 1000000<v then(.bad 7,[]) else zca s (decide (m=5)) v
  | h=>(.head s h,[])
def zi6 (D:Nat) (s:List Bx) (dn:Bool) (b:Nat):Ci×List Ev :=
  if dn=true∨(28≤b%32∧b%32≤30)∨(b%32=31∧(b/32=0∨b/32=1∨b/32=6)) then(.bad 2,[])
  else if b=255 then
    match s with
    | []=>(.bad 2,[])
    | x::r=>if 0≤x.c∨(x.map=true∧x.have_%2=1) then(.bad 2,[]) else(atC r,zbm::zes r)
  else if keyB s=true∧b/32≠3 then(.bad 8,[])
  else if b/32=6 then(.bad 8,[])
  else if b/32=7 then(if b%32=22 then putC s zcy else if b%32=20∨b%32=21 then putC s (zbt (decide (b%32=21))) else if 25≤b%32∧b%32≤27 then(.bad 6,[]) else(.bad 8,[]))
  else if(b/32=4∨b/32=5)∧D≤s.length then(.bad 4,[])
  else zgw s (zah .new b)
def zfn (s:List Bx) (m:Bool) (t:List UInt8):Hd→Ci×List Ev
 | .bad e=>(.bad e,[])
 | .fin _ v _=>if 200<v+t.length then(.bad 5,[]) else if v=0 then(.open_ s m t,[]) else(.ctext s m t v st0,[])
 | h=>(.chead s m t h,[])
def zbq (m:Bool) (u:Option (Nat×Nat×Nat)) (b:UInt8):Option (Nat×Nat×Nat):=if m=true then zb7 u b else u
def za7 (D:Nat):Ci→UInt8→Ci×List Ev
  | .bad e,_=>(.bad e,[])
  | .item s dn,b=>zi6 D s dn b.toNat
  | .head s h,b=>zgw s (zah h b.toNat)
  | .text s m n t u,b =>
    if m=true∧zbq m u b=none then(.bad 9,[])
    else if n=1 then(if m=true∧zch (zbq m u b)=false then(.bad 9,[]) else putC s (zby m (t++[b]))) else(.text s m (n-1) (t++[b]) (zbq m u b),[])
  | .open_ s m t,b=>if b.toNat=255 then putC s (zby m t) else if b.toNat/32≠(if m=true then 3 else 2)∨28≤b.toNat%32 then(.bad 2,[]) else zfn s m t (zah .new b.toNat)
  | .chead s m t h,b=>zfn s m t (zah h b.toNat)
  | .ctext s m t n u,b =>
    if m=true∧zbq m u b=none then(.bad 9,[])
    else if n=1 then(if m=true∧zch (zbq m u b)=false then(.bad 9,[]) else(.open_ s m (t++[b]),[])) else(.ctext s m (t++[b]) (n-1) (zbq m u b),[])
def zl8:Ci→Nat
 | .bad e=>e
 | .item _ true=>0
 | _=>3
def ci0:Ci:= .item [] false
def zkt:Ci→Nat
 | .bad _=>0
 | .item s _=>s.length
 | .head s _=>s.length
 | .text s _ _ t _=>t.length+s.length
 | .open_ s _ t=>t.length+s.length
 | .chead s _ t _=>t.length+s.length
 | .ctext s _ t _ _=>t.length+s.length
theorem zh1:∀s:List Bx,(zap s).length≤s.length
  | []=>Nat.le_refl _
  | b::r=>by
    simp only[zap];split
    · have:=zh1 r;simp only[List.length_cons];omega
    · exact Nat.le_refl _
theorem zgg {h:Hd} {b e:Nat} (hh:∀f,h= .bad f→f≠0) (he:zah h b= .bad e):e≠0:=by
  cases h with
  | bad f=>simp only[zah,Hd.bad.injEq] at he;subst he;exact hh _ rfl
  | fin m v o=>simp only[zah,Hd.bad.injEq] at he;omega
  | new =>
    simp only[zah] at he
    repeat' split at he
    all_goals first |(simp only[Hd.bad.injEq] at he;omega)|cases he
  | mid m n v =>
    simp only[zah] at he;split at he <;>cases he
theorem zb2 {h:Hd} {b:Nat} (hn:h= .new∨∃m n v,h= .mid m n v):zah h b≠ .new:=by
 rcases hn with rfl|⟨m,n,v,rfl⟩
 ·simp only[zah]
  repeat' split
  all_goals simp
 ·simp only[zah]
  split <;>simp
theorem zqb {b:Nat} (h:¬(28≤b%32∧b%32≤30)):majH (zah .new b)=b/32:=by
 simp only[zah]
 repeat' split
 all_goals first | rfl|omega
end
section
open Go.Lib
def zbl (s:List Bx) (e:Ev):List UInt8 :=
  if e.k=7 then(match s with
    | []=>[]
    | b::_=>if b.c<0 then [255] else [])
  else if e.k=0 then [246]
  else if e.k=1 then [if e.y=true then 245 else 244]
  else if e.k=2 then zcd (if e.y=true then 1 else 0) e.m
  else if e.k=3∨e.k=4 then zcd (if e.k=3 then 3 else 2) e.t.data.toList.length++e.t.data.toList
  else if e.c<0 then [if e.k=6 then 191 else 159]
  else zcd (if e.k=6 then 5 else 4) e.c.toNat
theorem zf6 (m v:Nat):(zcd m v).length≤9:=by
 rw[znq];unfold sizH;split
 ·simp
 split
 ·simp
 split
 ·simp
 split <;>simp
end
section
open Go.Lib
def zbs:Ci→Nat
 | .bad e=>e
 | _=>0
theorem zv6 {s:Ci} (h:zbs s≠0):∃e,s= .bad e∧e≠0:=by
 cases s with
 | bad e=>exact⟨e,rfl,h⟩
 | _=>exact absurd rfl h
def zci:Ci→Bool
 | .item [] true=>true
 | _=>false
end
end Go.Proofs.YtpaciekgbhoncaaGreat
