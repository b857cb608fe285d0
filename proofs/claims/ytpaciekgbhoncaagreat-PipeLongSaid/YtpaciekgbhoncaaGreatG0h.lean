/-
  Parts: HeadSt, PinPa, PinPd, PinPe, PinPf.
-/
import Derived.Test.YtpaciekgbhoncaaGreatG0b
import Derived.Test.YtpaciekgbhoncaaGreatG0f
import Derived.Test.YtpaciekgbhoncaaGreatG0g
set_option maxRecDepth 100000
set_option maxHeartbeats 16000000
open Go.Lib (hid)
namespace Go.Proofs.YtpaciekgbhoncaaGreat
section
open Go.RowKit
open Go.Lib
def hd6 (e p m:Nat) (o:Bool) (l v:Nat):List Value:=[.int .i64 e,.int .i64 p,.int .i64 m,.bool o,.int .i64 l,.int .u64 v]
def zgx:Hd→List Value
 | .bad e=>hd6 e 0 0 false 0 0
 | .new=>hd6 0 0 0 false 0 0
 | .mid m n v=>hd6 0 1 m false n v
 | .fin m v o=>hd6 0 2 m o 0 v
def WfH:Hd→Prop
 | .bad e=>e=2∨e=14
 | .new=>True
 | .mid m n v=>m<8∧1≤n∧n≤8∧(v+1)*256^n≤18446744073709551616
 | .fin m v _=>m<8∧v<18446744073709551616
def HAt (w:World) (b o:Nat) (s:Hd):Prop:=WfH s∧At w b o (zgx s)
theorem zck (s:Hd):(zgx s).length=6:=by cases s <;>rfl
theorem HAt.lt {w:World} {b o:Nat} {s:Hd} (h:HAt w b o s):b<w.heap.size:=h.2.lt (by intro e;have:=zck s;rw[e] at this;simp at this)
theorem HAt.map {w w':World} {b o:Nat} {s:Hd} (h:HAt w b o s) (hk:∀vs:List Value,vs.length=6→At w b o vs→At w' b o vs):HAt w' b o s:=⟨h.1,hk _ (zck s) h.2⟩
theorem HAt.keep {w w':World} {b o:Nat} {s:Hd} (h:HAt w b o s) (hk:w'.heap[b]? = w.heap[b]?):HAt w' b o s:=h.map fun _ _ h=>h.keep hk
theorem HAt.sub {w w':World} {b o o' n:Nat} {s:Hd} (h:HAt w b o s) (k:Sub b o' n w w') (hd:o+6≤o'∨o'+n≤o):HAt w' b o s:=h.map fun vs hv h=>h.sub k (by omega)
theorem HAt.drewN {w:World} {b o:Nat} {s:Hd} (h:HAt w b o s) (q:Nat):HAt (w.drewN q) b o s:=h.map fun _ _ h=>h
def zbw (w:World) (b o:Nat) (s:Hd) (w':World):Prop:=HAt w' b o s∧Sub b o 6 w w'
theorem At.six {w:World} {b o:Nat} {v0 v1 v2 v3 v4 v5:Value} (h:At w b o [v0,v1,v2,v3,v4,v5]) :
  (w.cell? ⟨b,o,none⟩=some v0∧w.frozen? ⟨b,o,none⟩=false)∧(w.cell? ⟨b,o+1,none⟩=some v1∧w.frozen? ⟨b,o+1,none⟩=false) ∧
  (w.cell? ⟨b,o+2,none⟩=some v2∧w.frozen? ⟨b,o+2,none⟩=false)∧(w.cell? ⟨b,o+3,none⟩=some v3∧w.frozen? ⟨b,o+3,none⟩=false) ∧
  (w.cell? ⟨b,o+4,none⟩=some v4∧w.frozen? ⟨b,o+4,none⟩=false)∧(w.cell? ⟨b,o+5,none⟩=some v5∧w.frozen? ⟨b,o+5,none⟩=false) :=
 ⟨h 0 v0 rfl,h 1 v1 rfl,h 2 v2 rfl,h 3 v3 rfl,h 4 v4 rfl,h 5 v5 rfl⟩
theorem zcv (s:Hd) (x:Nat) (hx:x<256) (h:WfH s):WfH (zah s x):=by
  cases s with
  | bad e=>exact h
  | fin m v o=>exact .inr rfl
  | new =>
    simp only[zah];split
    · exact⟨by omega,by omega⟩
    · split
      · obtain⟨k,hk⟩:∃k,x%32-24=k:=⟨_,rfl⟩
        rw[hk];have:k=0∨k=1∨k=2∨k=3:=by omega
        refine⟨by omega,?_⟩;rcases this with rfl|rfl|rfl|rfl <;>decide
      · split
        · exact⟨by omega,by omega⟩
        · exact .inl rfl
  | mid m n v =>
    obtain⟨h1,h2,h3,h4⟩:=h;obtain⟨k,rfl⟩:∃k,n=k+1:=⟨n-1,by omega⟩
    have hp:(v*256+x+1)*256^k≤18446744073709551616:=by
      have:(v*256+x+1)*256^k≤((v+1)*256)*256^k:=Nat.mul_le_mul_right _ (by omega);have e:(v+1)*256*256^k=(v+1)*256^(k+1):=by rw[Nat.pow_succ,Nat.mul_assoc,Nat.mul_comm 256]
      omega
    have h1p:1≤256^k:=Nat.pow_pos (by decide);have hv:v*256+x<18446744073709551616:=by
      have:=Nat.mul_le_mul_left (v*256+x+1) h1p;omega
    simp only[zah];split
    · exact⟨h1,hv⟩
    · exact⟨h1,by omega,by omega,hp⟩
theorem zbi {w:World} {b o:Nat} {s:Hd} (h:HAt w b o s) :
    Calls Tryz.prog 173 #[.pointer (some ⟨b,o,none⟩)] w fun e w'=>e= .returned (.int .u64 (valH s))∧w=w':=by
  cases s with
  | bad f =>
    obtain⟨_,⟨hc,_⟩,_⟩:=At.six h.2;clear h;go_enter Tryz.func173,Tryz.ntmps173;go_wp2;go_ret;exact⟨rfl,rfl⟩
  | new =>
    obtain⟨_,⟨hc,_⟩,_⟩:=At.six h.2;clear h;go_enter Tryz.func173,Tryz.ntmps173;go_wp2;go_ret;exact⟨rfl,rfl⟩
  | mid m n v =>
    obtain⟨_,⟨hc,_⟩,_⟩:=At.six h.2;clear h;go_enter Tryz.func173,Tryz.ntmps173;go_wp2;go_ret;exact⟨rfl,rfl⟩
  | fin m v q =>
    obtain⟨_,⟨hc,_⟩,_,_,_,⟨hc5,_⟩⟩:=At.six h.2;clear h;go_enter Tryz.func173,Tryz.ntmps173;go_wp2;go_ret;exact⟨rfl,rfl⟩
theorem At.set0 {w:World} {b o:Nat} {v:Value} {vs:List Value} (h:At w b o (v::vs)) (u:Value):At (w.setCell ⟨b,o,none⟩ u) b o (u::vs):=h.set 0 (by simp) u
theorem zrf {w:World} {b o e p m:Nat} {q:Bool} {l v:Nat} (h:At w b o (hd6 e p m q l v)) (e' p' m':Nat) (q':Bool) (l' v':Nat) :
    At ((((((w.setCell ⟨b,o,none⟩ (.int .i64 e')).setCell ⟨b,o+1,none⟩ (.int .i64 p')).setCell ⟨b,o+2,none⟩ (.int .i64 m')).setCell ⟨b,o+3,none⟩ (.bool q')).setCell ⟨b,o+4,none⟩ (.int .i64 l')).setCell ⟨b,o+5,none⟩ (.int .u64 v')) b o (hd6 e' p' m' q' l' v') ∧
    Sub b o 6 w ((((((w.setCell ⟨b,o,none⟩ (.int .i64 e')).setCell ⟨b,o+1,none⟩ (.int .i64 p')).setCell ⟨b,o+2,none⟩ (.int .i64 m')).setCell ⟨b,o+3,none⟩ (.bool q')).setCell ⟨b,o+4,none⟩ (.int .i64 l')).setCell ⟨b,o+5,none⟩ (.int .u64 v')) :=
  ⟨(((((h.set0 (.int .i64 e')).set 1 (by simp) (.int .i64 p')).set 2 (by simp) (.int .i64 m')).set 3 (by simp) (.bool q')).set 4 (by simp) (.int .i64 l')).set 5 (by simp) (.int .u64 v'),
   ((((((zac w o _ (by omega)).setCell (o+1) _ (by omega)).setCell (o+2) _ (by omega)).setCell (o+3) _ (by omega)).setCell (o+4) _ (by omega)).setCell (o+5) _ (by omega))⟩
theorem zxq {w:World} {b o e p m:Nat} {q:Bool} {l v:Nat} (hA:At w b o (hd6 e p m q l v)) :
  Calls Tryz.prog 163 #[.pointer (some ⟨b,o,none⟩)] w fun e w'=>e= .returned (.tuple #[])∧zbw w b o .new w':=by
 have HP:Hid (zbw w b o .new _):=hid ⟨⟨trivial,(zrf hA 0 0 0 false 0 0).1⟩,(zrf hA 0 0 0 false 0 0).2⟩;obtain⟨⟨c0,f0⟩,⟨c1,f1⟩,⟨c2,f2⟩,⟨c3,f3⟩,⟨c4,f4⟩,⟨c5,f5⟩⟩:=hA.six;clear hA;go_enter Tryz.func163,Tryz.ntmps163;go_wp2
 go_end0
 exact⟨rfl,HP.out⟩
theorem zlh {w:World} {b o:Nat} {s:Hd} (h:HAt w b o s) :
  Calls Tryz.prog 163 #[.pointer (some ⟨b,o,none⟩)] w fun e w'=>e= .returned (.tuple #[])∧zbw w b o .new w':=by
 have h0:=h.2;cases s <;>exact zxq h0
theorem zak1 {w:World} {b o m n v x:Nat} (hx:x<256) (h:HAt w b o (.mid m n v)) :
  Calls Tryz.prog 182 #[.pointer (some ⟨b,o,none⟩),.int .u8 x] w fun e w'=>e= .returned (.tuple #[])∧zbw w b o (zah (.mid m n v) x) w':=by
 have hwf:=zcv _ x hx h.1;obtain⟨⟨h1,h2,h3,h4⟩,hA⟩:=h;have hA:At w b o (hd6 0 1 m false n v):=hA;have hv:v*2^8+x<18446744073709551616:=by
  have hp:256≤256^n:=by
   have:=Nat.pow_le_pow_right (n:=256) (by decide) h2;simpa using this
  have:=Nat.mul_le_mul_left (v+1) hp;omega
 have ho:=zv2 v x 8 hv (by omega);have hw1:IntKind.u64.wrap ((v:Int)*256)=((v*2^8:Nat):Int):=by rw[zam _ (by omega) (by omega)];omega
 rw[← hw1] at ho;have hw2:wrap64 ((n:Int)-1)=((n-1:Nat):Int):=by
  unfold wrap64;omega
 obtain⟨u,hu⟩:∃u,v*256+x=u:=⟨_,rfl⟩
 rw[show v*2^8+x=u by omega] at ho;obtain⟨k,hk⟩:∃k,n-1=k:=⟨_,rfl⟩
 rw[hk] at hw2;obtain⟨⟨c0,f0⟩,⟨c1,f1⟩,⟨c2,f2⟩,⟨c3,f3⟩,⟨c4,f4⟩,⟨c5,f5⟩⟩:=At.six hA;by_cases hn:n=1
 ·subst hn
  obtain rfl:k=0:=by omega
  rw[show zah (.mid m 1 v) x= .fin m u false by simp[zah,hu]] at hwf ⊢;have HP:Hid (zbw w b o (.fin m u false) (((w.setCell ⟨b,o+5,none⟩ (.int .u64 u)).setCell ⟨b,o+4,none⟩ (.int .i64 0)).setCell ⟨b,o+1,none⟩ (.int .i64 2))) :=
   hid ⟨⟨hwf,((hA.set 5 (by simp[hd6]) (.int .u64 u)).set 4 (by simp[hd6]) (.int .i64 0)).set 1 (by simp[hd6]) (.int .i64 2)⟩,((zac w (o+5) _ (by omega)).setCell (o+4) _ (by omega)).setCell (o+1) _ (by omega)⟩
  clear hA hwf hv h1 h2 h3 h4 hu hk hw1 hw2;go_enter Tryz.func182,Tryz.ntmps182;go_wp2
  go_end0
  exact⟨rfl,HP.out⟩
 ·rw[show zah (.mid m n v) x= .mid m k u by simp[zah,hu,hk,hn]] at hwf ⊢
  have HP:Hid (zbw w b o (.mid m k u) ((w.setCell ⟨b,o+5,none⟩ (.int .u64 u)).setCell ⟨b,o+4,none⟩ (.int .i64 k))) :=
   hid ⟨⟨hwf,(hA.set 5 (by simp[hd6]) (.int .u64 u)).set 4 (by simp[hd6]) (.int .i64 k)⟩,(zac w (o+5) _ (by omega)).setCell (o+4) _ (by omega)⟩
  have hz:((k:Int)==0)=false:=by rw[beq_eq_false_iff_ne];omega
  clear hA hwf hv h1 h2 h3 h4 hu hk hw1 hn;go_enter Tryz.func182,Tryz.ntmps182;go_wp2
  go_end0
  exact⟨rfl,HP.out⟩
theorem zwl {w:World} {b o x:Nat} (hx:x<256) (h1:x%32<24) (h:HAt w b o .new) :
  Calls Tryz.prog 181 #[.pointer (some ⟨b,o,none⟩),.int .u8 x] w fun e w'=>e= .returned (.int .i64 0)∧zbw w b o (zah .new x) w':=by
 have hwf:=zcv _ x hx h.1;have hA:At w b o (hd6 0 0 0 false 0 0):=h.2;obtain⟨⟨c0,f0⟩,⟨c1,f1⟩,⟨c2,f2⟩,⟨c3,f3⟩,⟨c4,f4⟩,⟨c5,f5⟩⟩:=At.six hA;have hb:=zgy x hx;rw[show zah .new x= .fin (x/32) (x%32) false by simp[zah,h1]] at hwf ⊢;have HP:Hid (zbw w b o (.fin (x/32) (x%32) false) (((w.setCell ⟨b,o+2,none⟩ (.int .i64 ((x/32:Nat):Int))).setCell ⟨b,o+1,none⟩ (.int .i64 2)).setCell ⟨b,o+5,none⟩ (.int .u64 ((x%32:Nat):Int)))) :=
  hid ⟨⟨hwf,((hA.set 2 (by simp[hd6]) (.int .i64 ((x/32:Nat):Int))).set 1 (by simp[hd6]) (.int .i64 2)).set 5 (by simp[hd6]) (.int .u64 ((x%32:Nat):Int))⟩,((zac w (o+2) _ (by omega)).setCell (o+1) _ (by omega)).setCell (o+5) _ (by omega)⟩
 rw[show((x/32:Nat):Int)=(x:Int)/32 by omega] at HP;generalize x%32=l at *
 have hl:((l:Int)<24)=True:=by simp only[eq_iff_iff,iff_true];omega
 have hwl:IntKind.u64.wrap (l:Int)=(l:Int):=zam _ (by omega) (by omega);clear hA hwf h1;go_enter Tryz.func181,Tryz.ntmps181;go_wp2;go_ret;exact⟨rfl,HP.out⟩
theorem zpp {w:World} {b o x:Nat} (hx:x<256) (h1:x%32=24) (h:HAt w b o .new) :
  Calls Tryz.prog 181 #[.pointer (some ⟨b,o,none⟩),.int .u8 x] w fun e w'=>e= .returned (.int .i64 0)∧zbw w b o (zah .new x) w':=by
 have hwf:=zcv _ x hx h.1;have hA:At w b o (hd6 0 0 0 false 0 0):=h.2;obtain⟨⟨c0,f0⟩,⟨c1,f1⟩,⟨c2,f2⟩,⟨c3,f3⟩,⟨c4,f4⟩,⟨c5,f5⟩⟩:=At.six hA;have hb:=zgy x hx;rw[h1] at hb;rw[show zah .new x= .mid (x/32) 1 0 by simp[zah,h1]] at hwf ⊢;have HP:Hid (zbw w b o (.mid (x/32) 1 0) ((((w.setCell ⟨b,o+2,none⟩ (.int .i64 ((x/32:Nat):Int))).setCell ⟨b,o+1,none⟩ (.int .i64 2)).setCell ⟨b,o+1,none⟩ (.int .i64 1)).setCell ⟨b,o+4,none⟩ (.int .i64 1))) :=
  hid ⟨⟨hwf,(((hA.set 2 (by simp[hd6]) (.int .i64 ((x/32:Nat):Int))).set 1 (by simp[hd6]) (.int .i64 2)).set 1 (by simp[hd6]) (.int .i64 1)).set 4 (by simp[hd6]) (.int .i64 1)⟩,(((zac w (o+2) _ (by omega)).setCell (o+1) _ (by omega)).setCell (o+1) _ (by omega)).setCell (o+4) _ (by omega)⟩
 rw[show((x/32:Nat):Int)=(x:Int)/32 by omega] at HP;clear hA hwf h1;go_enter Tryz.func181,Tryz.ntmps181;go_wp2;go_ret;exact⟨rfl,HP.out⟩
theorem zpz {w:World} {b o x:Nat} (hx:x<256) (h1:x%32=25) (h:HAt w b o .new) :
  Calls Tryz.prog 181 #[.pointer (some ⟨b,o,none⟩),.int .u8 x] w fun e w'=>e= .returned (.int .i64 0)∧zbw w b o (zah .new x) w':=by
 have hwf:=zcv _ x hx h.1;have hA:At w b o (hd6 0 0 0 false 0 0):=h.2;obtain⟨⟨c0,f0⟩,⟨c1,f1⟩,⟨c2,f2⟩,⟨c3,f3⟩,⟨c4,f4⟩,⟨c5,f5⟩⟩:=At.six hA;have hb:=zgy x hx;rw[h1] at hb;rw[show zah .new x= .mid (x/32) 2 0 by simp[zah,h1]] at hwf ⊢;have HP:Hid (zbw w b o (.mid (x/32) 2 0) ((((w.setCell ⟨b,o+2,none⟩ (.int .i64 ((x/32:Nat):Int))).setCell ⟨b,o+1,none⟩ (.int .i64 2)).setCell ⟨b,o+1,none⟩ (.int .i64 1)).setCell ⟨b,o+4,none⟩ (.int .i64 2))) :=
  hid ⟨⟨hwf,(((hA.set 2 (by simp[hd6]) (.int .i64 ((x/32:Nat):Int))).set 1 (by simp[hd6]) (.int .i64 2)).set 1 (by simp[hd6]) (.int .i64 1)).set 4 (by simp[hd6]) (.int .i64 2)⟩,(((zac w (o+2) _ (by omega)).setCell (o+1) _ (by omega)).setCell (o+1) _ (by omega)).setCell (o+4) _ (by omega)⟩
 rw[show((x/32:Nat):Int)=(x:Int)/32 by omega] at HP;clear hA hwf h1;go_enter Tryz.func181,Tryz.ntmps181;go_wp2;go_ret;exact⟨rfl,HP.out⟩
theorem zpb {w:World} {b o x:Nat} (hx:x<256) (h1:x%32=26) (h:HAt w b o .new) :
  Calls Tryz.prog 181 #[.pointer (some ⟨b,o,none⟩),.int .u8 x] w fun e w'=>e= .returned (.int .i64 0)∧zbw w b o (zah .new x) w':=by
 have hwf:=zcv _ x hx h.1;have hA:At w b o (hd6 0 0 0 false 0 0):=h.2;obtain⟨⟨c0,f0⟩,⟨c1,f1⟩,⟨c2,f2⟩,⟨c3,f3⟩,⟨c4,f4⟩,⟨c5,f5⟩⟩:=At.six hA;have hb:=zgy x hx;rw[h1] at hb;rw[show zah .new x= .mid (x/32) 4 0 by simp[zah,h1]] at hwf ⊢;have HP:Hid (zbw w b o (.mid (x/32) 4 0) ((((w.setCell ⟨b,o+2,none⟩ (.int .i64 ((x/32:Nat):Int))).setCell ⟨b,o+1,none⟩ (.int .i64 2)).setCell ⟨b,o+1,none⟩ (.int .i64 1)).setCell ⟨b,o+4,none⟩ (.int .i64 4))) :=
  hid ⟨⟨hwf,(((hA.set 2 (by simp[hd6]) (.int .i64 ((x/32:Nat):Int))).set 1 (by simp[hd6]) (.int .i64 2)).set 1 (by simp[hd6]) (.int .i64 1)).set 4 (by simp[hd6]) (.int .i64 4)⟩,(((zac w (o+2) _ (by omega)).setCell (o+1) _ (by omega)).setCell (o+1) _ (by omega)).setCell (o+4) _ (by omega)⟩
 rw[show((x/32:Nat):Int)=(x:Int)/32 by omega] at HP;clear hA hwf h1;go_enter Tryz.func181,Tryz.ntmps181;go_wp2;go_ret;exact⟨rfl,HP.out⟩
theorem zqa {w:World} {b o x:Nat} (hx:x<256) (h1:x%32=27) (h:HAt w b o .new) :
  Calls Tryz.prog 181 #[.pointer (some ⟨b,o,none⟩),.int .u8 x] w fun e w'=>e= .returned (.int .i64 0)∧zbw w b o (zah .new x) w':=by
 have hwf:=zcv _ x hx h.1;have hA:At w b o (hd6 0 0 0 false 0 0):=h.2;obtain⟨⟨c0,f0⟩,⟨c1,f1⟩,⟨c2,f2⟩,⟨c3,f3⟩,⟨c4,f4⟩,⟨c5,f5⟩⟩:=At.six hA;have hb:=zgy x hx;rw[h1] at hb;rw[show zah .new x= .mid (x/32) 8 0 by simp[zah,h1]] at hwf ⊢;have HP:Hid (zbw w b o (.mid (x/32) 8 0) ((((w.setCell ⟨b,o+2,none⟩ (.int .i64 ((x/32:Nat):Int))).setCell ⟨b,o+1,none⟩ (.int .i64 2)).setCell ⟨b,o+1,none⟩ (.int .i64 1)).setCell ⟨b,o+4,none⟩ (.int .i64 8))) :=
  hid ⟨⟨hwf,(((hA.set 2 (by simp[hd6]) (.int .i64 ((x/32:Nat):Int))).set 1 (by simp[hd6]) (.int .i64 2)).set 1 (by simp[hd6]) (.int .i64 1)).set 4 (by simp[hd6]) (.int .i64 8)⟩,(((zac w (o+2) _ (by omega)).setCell (o+1) _ (by omega)).setCell (o+1) _ (by omega)).setCell (o+4) _ (by omega)⟩
 rw[show((x/32:Nat):Int)=(x:Int)/32 by omega] at HP;clear hA hwf h1;go_enter Tryz.func181,Tryz.ntmps181;go_wp2;go_ret;exact⟨rfl,HP.out⟩
theorem ztj {w:World} {b o x:Nat} (hx:x<256) (h1:x%32=31) (h:HAt w b o .new) :
  Calls Tryz.prog 181 #[.pointer (some ⟨b,o,none⟩),.int .u8 x] w fun e w'=>e= .returned (.int .i64 0)∧zbw w b o (zah .new x) w':=by
 have hwf:=zcv _ x hx h.1;have hA:At w b o (hd6 0 0 0 false 0 0):=h.2;obtain⟨⟨c0,f0⟩,⟨c1,f1⟩,⟨c2,f2⟩,⟨c3,f3⟩,⟨c4,f4⟩,⟨c5,f5⟩⟩:=At.six hA;have hb:=zgy x hx;rw[h1] at hb;rw[show zah .new x= .fin (x/32) 0 true by simp[zah,h1]] at hwf ⊢;have HP:Hid (zbw w b o (.fin (x/32) 0 true) (((w.setCell ⟨b,o+2,none⟩ (.int .i64 ((x/32:Nat):Int))).setCell ⟨b,o+1,none⟩ (.int .i64 2)).setCell ⟨b,o+3,none⟩ (.bool true))) :=
  hid ⟨⟨hwf,((hA.set 2 (by simp[hd6]) (.int .i64 ((x/32:Nat):Int))).set 1 (by simp[hd6]) (.int .i64 2)).set 3 (by simp[hd6]) (.bool true)⟩,((zac w (o+2) _ (by omega)).setCell (o+1) _ (by omega)).setCell (o+3) _ (by omega)⟩
 rw[show((x/32:Nat):Int)=(x:Int)/32 by omega] at HP;clear hA hwf h1;go_enter Tryz.func181,Tryz.ntmps181;go_wp2;go_ret;exact⟨rfl,HP.out⟩
theorem zwz {w:World} {b o x:Nat} (hx:x<256) (l:Nat) (hl:l=28∨l=29∨l=30) (h1:x%32=l) (h:HAt w b o .new) :
  Calls Tryz.prog 181 #[.pointer (some ⟨b,o,none⟩),.int .u8 x] w fun e w'=>e= .returned (.int .i64 2)∧At w' b o (hd6 0 2 (x/32) false 0 0)∧Sub b o 6 w w':=by
 have hA:At w b o (hd6 0 0 0 false 0 0):=h.2;obtain⟨⟨c0,f0⟩,⟨c1,f1⟩,⟨c2,f2⟩,⟨c3,f3⟩,⟨c4,f4⟩,⟨c5,f5⟩⟩:=At.six hA;have hb:=zgy x hx;rw[h1] at hb;have HP:Hid (At ((w.setCell ⟨b,o+2,none⟩ (.int .i64 ((x/32:Nat):Int))).setCell ⟨b,o+1,none⟩ (.int .i64 2)) b o (hd6 0 2 (x/32) false 0 0)∧Sub b o 6 w ((w.setCell ⟨b,o+2,none⟩ (.int .i64 ((x/32:Nat):Int))).setCell ⟨b,o+1,none⟩ (.int .i64 2))) :=
  hid ⟨(hA.set 2 (by simp[hd6]) (.int .i64 ((x/32:Nat):Int))).set 1 (by simp[hd6]) (.int .i64 2),(zac w (o+2) _ (by omega)).setCell (o+1) _ (by omega)⟩
 rw[show((x/32:Nat):Int)=(x:Int)/32 by omega] at HP;clear hA h1;rcases hl with rfl|rfl|rfl
 all_goals
  go_enter Tryz.func181,Tryz.ntmps181;go_wp2;go_ret;exact⟨rfl,HP.out⟩
theorem zabh {w:World} {b o x:Nat} (hx:x<256) (h:HAt w b o .new) :
    Calls Tryz.prog 181 #[.pointer (some ⟨b,o,none⟩),.int .u8 x] w fun e w'=>e= .returned (.int .i64 (errH (zah .new x)))∧((∃f,zah .new x= .bad f)∨HAt w' b o (zah .new x))∧(∃e p m q l v,At w' b o (hd6 e p m q l v))∧Sub b o 6 w w':=by
  by_cases h1:x%32<24
  · have he:errH (zah .new x)=0:=by simp[zah,h1,errH]
    rw[he];refine(zwl hx h1 h).mono ?_;rintro e w' ⟨rfl,hP,hS⟩;refine⟨rfl,.inr hP,?_,hS⟩;have:=hP.2;rw[show zah .new x= .fin (x/32) (x%32) false by simp[zah,h1]] at this;exact⟨_,_,_,_,_,_,this⟩
  · by_cases h2:x%32<28
    · have he:errH (zah .new x)=0:=by simp[zah,h1,h2,errH]
      rw[he];have hd:x%32=24∨x%32=25∨x%32=26∨x%32=27:=by omega
      have hw':zah .new x= .mid (x/32) (2^(x%32-24)) 0:=by simp[zah,h1,h2]
      rcases hd with hd|hd|hd|hd
      · refine(zpp hx hd h).mono ?_
        rintro e w' ⟨rfl,hP,hS⟩;refine⟨rfl,.inr hP,?_,hS⟩;have:=hP.2;rw[hw'] at this;exact⟨_,_,_,_,_,_,this⟩
      · refine(zpz hx hd h).mono ?_
        rintro e w' ⟨rfl,hP,hS⟩;refine⟨rfl,.inr hP,?_,hS⟩;have:=hP.2;rw[hw'] at this;exact⟨_,_,_,_,_,_,this⟩
      · refine(zpb hx hd h).mono ?_
        rintro e w' ⟨rfl,hP,hS⟩;refine⟨rfl,.inr hP,?_,hS⟩;have:=hP.2;rw[hw'] at this;exact⟨_,_,_,_,_,_,this⟩
      · refine(zqa hx hd h).mono ?_
        rintro e w' ⟨rfl,hP,hS⟩;refine⟨rfl,.inr hP,?_,hS⟩;have:=hP.2;rw[hw'] at this;exact⟨_,_,_,_,_,_,this⟩
    · by_cases h3:x%32=31
      · have he:errH (zah .new x)=0:=by simp[zah,h3,errH]
        rw[he];refine(ztj hx h3 h).mono ?_;rintro e w' ⟨rfl,hP,hS⟩;refine⟨rfl,.inr hP,?_,hS⟩;have:=hP.2;rw[show zah .new x= .fin (x/32) 0 true by simp[zah,h3]] at this;exact⟨_,_,_,_,_,_,this⟩
      · have he:zah .new x= .bad 2:=by simp[zah,h1,h2,h3]
        rw[he];refine(zwz hx (x%32) (by omega) rfl h).mono ?_;rintro e w' ⟨rfl,hP,hS⟩;exact⟨rfl,.inl ⟨2,rfl⟩,⟨_,_,_,_,_,_,hP⟩,hS⟩
theorem zad7 {w:World} {b o x:Nat} {s:Hd} (hx:x<256) (hs:errH s=0) (h:HAt w b o s) :
    Calls Tryz.prog 167 #[.pointer (some ⟨b,o,none⟩),.int .u8 x] w fun e w'=>e= .returned (.int .i64 (errH (zah s x)))∧((∃f,zah s x= .bad f)∨HAt w' b o (zah s x))∧(∃e p m q l v,At w' b o (hd6 e p m q l v))∧Sub b o 6 w w':=by
  cases s with
  | bad f =>
    have h0:f=0:=hs;rcases h.1 with h|h <;>omega
  | new =>
    obtain⟨_,⟨c1,f1⟩,_⟩:=At.six h.2;have HB:=hid (zabh hx h);clear h;go_enter Tryz.func167,Tryz.ntmps167;(go_wp2_with fail);refine HB.out.mono ?_;rintro e w' ⟨rfl,hP⟩;have HP:=hid hP;clear hP;go_wp2;go_ret;exact⟨rfl,HP.out⟩
  | mid m n v =>
    obtain⟨_,⟨c1,f1⟩,_⟩:=At.six h.2;have he:errH (zah (.mid m n v) x)=0:=by simp only[zah];split <;>rfl
    rw[he];have HB:=hid (zak1 hx h);clear h he;go_enter Tryz.func167,Tryz.ntmps167;(go_wp2_with fail);refine HB.out.mono ?_;rintro e w' ⟨rfl,hP⟩;have HP:=hid hP;clear hP;go_wp2;go_ret;refine⟨rfl,.inr HP.out.1,?_,HP.out.2⟩;have h2:=HP.out.1.2;simp only[zah] at h2;split at h2 <;>exact⟨_,_,_,_,_,_,h2⟩
  | fin m v q =>
    have h0:At w b o (hd6 0 2 m q 0 v):=h.2;obtain⟨_,⟨c1,f1⟩,_⟩:=At.six h.2;clear h;go_enter Tryz.func167,Tryz.ntmps167;go_wp2;go_ret;exact⟨rfl,.inl ⟨14,rfl⟩,⟨_,_,_,_,_,_,h0⟩,Sub.refl _ _ _ _⟩
theorem zc3 {w:World} {b o x:Nat} {s:Hd} (hx:x<256) (h:HAt w b o s) :
    Calls Tryz.prog 161 #[.pointer (some ⟨b,o,none⟩),.int .u8 x] w fun e w'=>e= .returned (.tuple #[.bool (endH (zah s x)),.int .i64 (errH (zah s x))])∧zbw w b o (zah s x) w':=by
  by_cases hs:errH s=0
  · have hwf:=zcv s x hx h.1
    have hc0:w.cell? ⟨b,o,none⟩=some (.int .i64 0):=by
      have:=h.2;cases s with
      | bad f=>have h0:f=0:=hs;rcases h.1 with h|h <;>omega
      | _=>exact(At.six this).1.1
    have HT:=hid (zad7 hx hs h);clear h;generalize zah s x=s' at *
    cases s' with
    | bad f =>
      have hf:((f:Int) !=0)=true:=by rcases hwf with rfl|rfl <;>rfl
      have HT':=HT;simp only[errH,endH] at HT' ⊢;clear HT;go_enter Tryz.func161,Tryz.ntmps161;(go_wp2_with fail);refine HT'.out.mono ?_;rintro e w1 ⟨rfl,_,⟨e1,p1,m1,q1,l1,v1,hA⟩,hS⟩;have HP:Hid (zbw w b o (.bad f) _):=hid ⟨⟨hwf,(zrf hA f 0 0 false 0 0).1⟩,hS.trans (zrf hA f 0 0 false 0 0).2⟩;obtain⟨⟨c0,f0⟩,⟨c1,f1⟩,⟨c2,f2⟩,⟨c3,f3⟩,⟨c4,f4⟩,⟨c5,f5⟩⟩:=hA.six;clear hA hS HT' hwf hs hc0;go_wp2;go_ret2;exact⟨rfl,HP.out⟩
    | new =>
      have HT':=HT;simp only[errH,endH] at HT' ⊢;clear HT;go_enter Tryz.func161,Tryz.ntmps161;(go_wp2_with fail);refine HT'.out.mono ?_;rintro e w1 ⟨rfl,hP,_,hS⟩;have hP:HAt w1 b o .new:=hP.elim (fun⟨_,h⟩=>by cases h) id;obtain⟨⟨c0,f0⟩,⟨c1,f1⟩,_⟩:=At.six hP.2;have HP:Hid (zbw w b o .new w1):=hid ⟨hP,hS⟩;clear hP hS HT' hwf hs hc0;go_wp2;go_ret2;exact⟨rfl,HP.out⟩
    | mid m n v =>
      have HT':=HT;simp only[errH,endH] at HT' ⊢;clear HT;go_enter Tryz.func161,Tryz.ntmps161;(go_wp2_with fail);refine HT'.out.mono ?_;rintro e w1 ⟨rfl,hP,_,hS⟩;have hP:HAt w1 b o (.mid m n v):=hP.elim (fun⟨_,h⟩=>by cases h) id;obtain⟨⟨c0,f0⟩,⟨c1,f1⟩,_⟩:=At.six hP.2;have HP:Hid (zbw w b o (.mid m n v) w1):=hid ⟨hP,hS⟩;clear hP hS HT' hwf hs hc0;go_wp2;go_ret2;exact⟨rfl,HP.out⟩
    | fin m v q =>
      have HT':=HT;simp only[errH,endH] at HT' ⊢;clear HT;go_enter Tryz.func161,Tryz.ntmps161;(go_wp2_with fail);refine HT'.out.mono ?_;rintro e w1 ⟨rfl,hP,_,hS⟩;have hP:HAt w1 b o (.fin m v q):=hP.elim (fun⟨_,h⟩=>by cases h) id;obtain⟨⟨c0,f0⟩,⟨c1,f1⟩,_⟩:=At.six hP.2;have HP:Hid (zbw w b o (.fin m v q) w1):=hid ⟨hP,hS⟩;clear hP hS HT' hwf hs hc0;go_wp2;go_ret2;exact⟨rfl,HP.out⟩
  · cases s with
    | bad f =>
      have hf:((f:Int) !=0)=true:=by rcases h.1 with rfl|rfl <;>rfl
      obtain⟨⟨c0,f0⟩,_⟩:=At.six h.2;have HP:Hid (zbw w b o (.bad f) w):=hid ⟨h,Sub.refl _ _ _ _⟩;clear h hs;show Calls _ _ _ _ fun e w'=>e= .returned (.tuple #[.bool false,.int .i64 f])∧zbw w b o (.bad f) w'
      have HQ:∀q,Hid (zbw w b o (.bad f) (w.drewN q)):=fun q=>hid ⟨HP.out.1.drewN q,HP.out.2.drewN q⟩
      clear HP;go_enter Tryz.func161,Tryz.ntmps161;(go_wp2_with fail)
      go_quiet (fail)
      go_wp2;go_ret2;exact⟨rfl,(HQ _).out⟩
    | _=>exact absurd rfl hs
end
section
open Go.RowKit
open Go.Lib
structure PP (w:World) (b o D pl kd nm fm:Nat) (h:Hd) (tk lk:Nat) (vt:Value) (t:List UInt8) (u:Option (Nat×Nat×Nat)) (vs:Value) (n:Nat) (xs:List Value):Prop where
 a:At w b o [.int .i64 0,.int .i64 D,.int .i64 pl]
 it:At w b (o+3) [.int .i64 kd,.int .u64 nm,.int .u8 fm]
 hd:HAt w b (o+6) h
 tx:At w b (o+12) [.int .i64 tk,.int .i64 lk,vt]
 ck:CAt w b (o+15) u
 op:NsP w b (o+19) vs n xs
 wt:Win w 5 1 vt t.length (zbe t)
 ft:b∉Value.owner vt
theorem PP.lt {w:World} {b o D pl kd nm fm:Nat} {h:Hd} {tk lk:Nat} {vt:Value} {t:List UInt8} {u:Option (Nat×Nat×Nat)} {vs:Value} {n:Nat} {xs:List Value} (c:PP w b o D pl kd nm fm h tk lk vt t u vs n xs):b<w.heap.size:=c.hd.lt
theorem PP.go {w:World} {b o D pl kd nm fm:Nat} {h:Hd} {tk lk:Nat} {vt:Value} {t:List UInt8} {u:Option (Nat×Nat×Nat)} {vs:Value} {n:Nat} {xs:List Value} {w':World} (c:PP w b o D pl kd nm fm h tk lk vt t u vs n xs) (k:Below w.heap.size w w'):PP w' b o D pl kd nm fm h tk lk vt t u vs n xs:=by
 have hk:=k.block b c.lt;exact⟨c.a.keep hk,c.it.keep hk,c.hd.keep hk,c.tx.keep hk,c.ck.keep hk,c.op.keep k,c.wt.keep fun i hi=>k.block i (c.wt.lt i hi),c.ft⟩
theorem PP.apart {w:World} {b o D pl kd nm fm:Nat} {h:Hd} {tk lk:Nat} {vt:Value} {t:List UInt8} {u:Option (Nat×Nat×Nat)} {vs:Value} {n:Nat} {xs:List Value} (c:PP w b o D pl kd nm fm h tk lk vt t u vs n xs):∀k∈Value.owner vs,k∉Value.owner vt:=c.wt.apart2 c.op.win (by decide)
theorem PP.cells {w:World} {b o D pl kd nm fm:Nat} {h:Hd} {tk lk:Nat} {vt:Value} {t:List UInt8} {u:Option (Nat×Nat×Nat)} {vs:Value} {n:Nat} {xs:List Value} (c:PP w b o D pl kd nm fm h tk lk vt t u vs n xs) :
  ((w.cell? ⟨b,o,none⟩=some (.int .i64 0)∧w.frozen? ⟨b,o,none⟩=false)∧(w.cell? ⟨b,o+1,none⟩=some (.int .i64 D)∧w.frozen? ⟨b,o+1,none⟩=false)∧(w.cell? ⟨b,o+2,none⟩=some (.int .i64 pl)∧w.frozen? ⟨b,o+2,none⟩=false)) ∧
  ((w.cell? ⟨b,o+3,none⟩=some (.int .i64 kd)∧w.frozen? ⟨b,o+3,none⟩=false)∧(w.cell? ⟨b,o+3+1,none⟩=some (.int .u64 nm)∧w.frozen? ⟨b,o+3+1,none⟩=false)∧(w.cell? ⟨b,o+3+2,none⟩=some (.int .u8 fm)∧w.frozen? ⟨b,o+3+2,none⟩=false)) ∧
  ((w.cell? ⟨b,o+12,none⟩=some (.int .i64 tk)∧w.frozen? ⟨b,o+12,none⟩=false)∧(w.cell? ⟨b,o+12+1,none⟩=some (.int .i64 lk)∧w.frozen? ⟨b,o+12+1,none⟩=false)∧(w.cell? ⟨b,o+12+2,none⟩=some vt∧w.frozen? ⟨b,o+12+2,none⟩=false)) ∧
  (w.cell? ⟨b,o+19,none⟩=some vs∧w.frozen? ⟨b,o+19,none⟩=false) :=
 ⟨⟨c.a 0 _ rfl,c.a 1 _ rfl,c.a 2 _ rfl⟩,⟨c.it 0 _ rfl,c.it 1 _ rfl,c.it 2 _ rfl⟩,⟨c.tx 0 _ rfl,c.tx 1 _ rfl,c.tx 2 _ rfl⟩,c.op.ptr 0 _ rfl⟩
theorem PP.setA {w:World} {b o D pl kd nm fm:Nat} {h:Hd} {tk lk:Nat} {vt:Value} {t:List UInt8} {u:Option (Nat×Nat×Nat)} {vs:Value} {n:Nat} {xs:List Value} (c:PP w b o D pl kd nm fm h tk lk vt t u vs n xs) {w':World} (k:Sub b o 3 w w') {pl':Nat} (ha:At w' b o [.int .i64 0,.int .i64 D,.int .i64 pl']):PP w' b o D pl' kd nm fm h tk lk vt t u vs n xs :=
 ⟨ha,c.it.sub k (by omega),c.hd.sub k (by omega),c.tx.sub k (by omega),c.ck.sub k (by omega),c.op.subg (k.subg []) (by omega) (by simp),c.wt.subg (k.subg []) c.ft (by simp),c.ft⟩
theorem PP.setPl {w:World} {b o D pl kd nm fm:Nat} {h:Hd} {tk lk:Nat} {vt:Value} {t:List UInt8} {u:Option (Nat×Nat×Nat)} {vs:Value} {n:Nat} {xs:List Value} (c:PP w b o D pl kd nm fm h tk lk vt t u vs n xs) (p:Nat):PP (w.setCell ⟨b,o+2,none⟩ (.int .i64 p)) b o D p kd nm fm h tk lk vt t u vs n xs :=
 c.setA (zac w (o+2) _ (by omega)) (c.a.set 2 (by simp) _)
theorem PP.setIt {w:World} {b o D pl kd nm fm:Nat} {h:Hd} {tk lk:Nat} {vt:Value} {t:List UInt8} {u:Option (Nat×Nat×Nat)} {vs:Value} {n:Nat} {xs:List Value} (c:PP w b o D pl kd nm fm h tk lk vt t u vs n xs) {w':World} (k:Sub b (o+3) 3 w w') {kd' nm' fm':Nat} (ha:At w' b (o+3) [.int .i64 kd',.int .u64 nm',.int .u8 fm']):PP w' b o D pl kd' nm' fm' h tk lk vt t u vs n xs :=
 ⟨c.a.sub k (by simp),ha,c.hd.sub k (by omega),c.tx.sub k (by omega),c.ck.sub k (by omega),c.op.subg (k.subg []) (by omega) (by simp),c.wt.subg (k.subg []) c.ft (by simp),c.ft⟩
theorem PP.setHd {w:World} {b o D pl kd nm fm:Nat} {h:Hd} {tk lk:Nat} {vt:Value} {t:List UInt8} {u:Option (Nat×Nat×Nat)} {vs:Value} {n:Nat} {xs:List Value} (c:PP w b o D pl kd nm fm h tk lk vt t u vs n xs) {w':World} (k:Sub b (o+6) 6 w w') {h':Hd} (ha:HAt w' b (o+6) h'):PP w' b o D pl kd nm fm h' tk lk vt t u vs n xs :=
 ⟨c.a.sub k (by simp),c.it.sub k (by simp),ha,c.tx.sub k (by omega),c.ck.sub k (by omega),c.op.subg (k.subg []) (by omega) (by simp),c.wt.subg (k.subg []) c.ft (by simp),c.ft⟩
theorem PP.setTx {w:World} {b o D pl kd nm fm:Nat} {h:Hd} {tk lk:Nat} {vt:Value} {t:List UInt8} {u:Option (Nat×Nat×Nat)} {vs:Value} {n:Nat} {xs:List Value} (c:PP w b o D pl kd nm fm h tk lk vt t u vs n xs) {w':World} {g:List Nat} (k:Subg g b (o+12) 7 w w') (hg:∀x∈Value.owner vs,x∉g) {tk' lk':Nat} {vt':Value} {t':List UInt8} {u':Option (Nat×Nat×Nat)}
  (ha:At w' b (o+12) [.int .i64 tk',.int .i64 lk',vt']) (hk:CAt w' b (o+15) u') (hw:Win w' 5 1 vt' t'.length (zbe t')) (hf:b∉Value.owner vt'):PP w' b o D pl kd nm fm h tk' lk' vt' t' u' vs n xs :=
 ⟨c.a.subg k (by simp),c.it.subg k (by simp),c.hd.map fun vs hv h=>h.subg k (by omega),ha,hk,c.op.subg k (by omega) hg,hw,hf⟩
theorem PP.setOp {w:World} {b o D pl kd nm fm:Nat} {h:Hd} {tk lk:Nat} {vt:Value} {t:List UInt8} {u:Option (Nat×Nat×Nat)} {vs:Value} {n:Nat} {xs:List Value} (c:PP w b o D pl kd nm fm h tk lk vt t u vs n xs) {w':World} {g:List Nat} (k:Subg g b (o+19) 1 w w') (hg:∀x∈Value.owner vt,x∉g) {vs':Value} {n':Nat} {xs':List Value} (ha:NsP w' b (o+19) vs' n' xs'):PP w' b o D pl kd nm fm h tk lk vt t u vs' n' xs' :=
 ⟨c.a.subg k (by simp),c.it.subg k (by simp),c.hd.map fun vs hv h=>h.subg k (by omega),c.tx.subg k (by simp),(by
  refine c.ck.map fun vs hv h=>h.subg k (by omega)),ha,c.wt.subg k c.ft hg,c.ft⟩
theorem PP.drewN {w:World} {b o D pl kd nm fm:Nat} {h:Hd} {tk lk:Nat} {vt:Value} {t:List UInt8} {u:Option (Nat×Nat×Nat)} {vs:Value} {n:Nat} {xs:List Value} (c:PP w b o D pl kd nm fm h tk lk vt t u vs n xs) (q:Nat):PP (w.drewN q) b o D pl kd nm fm h tk lk vt t u vs n xs:=⟨c.a,c.it,c.hd.drewN q,c.tx,(c.ck.map fun _ _ h=>h),c.op.drewN q,c.wt,c.ft⟩
theorem PP.tx7 {w:World} {b o D pl kd nm fm:Nat} {h:Hd} {tk lk:Nat} {vt:Value} {t:List UInt8} {u:Option (Nat×Nat×Nat)} {vs:Value} {n:Nat} {xs:List Value} (c:PP w b o D pl kd nm fm h tk lk vt t u vs n xs):Room w b (o+12) 7:=by
 obtain⟨n,lo,hi,hk⟩:=c.ck.cells;have:=(At.append c.tx (us:=za9 n lo hi u.isNone) hk).room (by simp);simpa [za9] using this
theorem PP.room {w:World} {b o D pl kd nm fm:Nat} {h:Hd} {tk lk:Nat} {vt:Value} {t:List UInt8} {u:Option (Nat×Nat×Nat)} {vs:Value} {n:Nat} {xs:List Value} (c:PP w b o D pl kd nm fm h tk lk vt t u vs n xs):Room w b o 20:=by
 obtain⟨n,lo,hi,hk⟩:=c.ck.cells;have h1:=At.append c.tx (us:=za9 n lo hi u.isNone) hk;have h2:=At.append h1 (us:=[vs]) (by simpa [za9] using c.op.ptr);have h3:=At.append c.hd.2 (us:=_) (by rw[zck];exact h2);have h4:=At.append c.it h3;have h5:=At.append c.a h4;have:=h5.room (by simp);simpa [za9,zck] using this
def tkT (m:Bool):Nat:=if m=true then 8 else 7
theorem zacj {w:World} {b o:Nat} {m:Bool} {lk:Nat} {vt:Value} {t:List UInt8} (hA:At w b o [.int .i64 (tkT m:Nat),.int .i64 lk,vt]) (hW:Win w 5 1 vt t.length (zbe t)) :
    Calls Tryz.prog 210 #[.pointer (some ⟨b,o,none⟩)] w fun r w'=>r= .returned (valE (zby m t))∧w=w':=by
  have c0:=(hA 0 _ rfl).1;have c2:=(hA 2 _ rfl).1;simp only[Nat.add_zero] at c0;cases m with
  | true =>
    have hcv:=zmf (T:=179) Tryz.underlying179 hW;rw[show valE (zby true t)= .iface 179 (.string ⟨t.toArray⟩) from rfl];obtain⟨a,cp,rfl,_,_⟩:=hW.slice_form;simp only[tkT] at c0;generalize (⟨t.toArray⟩:ByteArray)=X at *
    clear hA hW;go_enter Tryz.func210,Tryz.ntmps210;go_wp2;go_ret;exact⟨rfl,rfl⟩
  | false =>
    have hcv:=zmf (T:=181) Tryz.underlying181 hW;rw[show valE (zby false t)= .iface 181 (.string ⟨t.toArray⟩) from rfl];obtain⟨a,cp,rfl,_,_⟩:=hW.slice_form;simp only[tkT] at c0;generalize (⟨t.toArray⟩:ByteArray)=X at *
    clear hA hW;go_enter Tryz.func210,Tryz.ntmps210;go_wp2;go_ret;exact⟨rfl,rfl⟩
end
section
open Go.RowKit
open Go.Lib
structure EndsJ (w0 w wr:World) (b o D pl:Nat) (kd nm fm:Nat) (h:Hd) (tk lk:Nat) (vt:Value) (t:List UInt8) (u:Option (Nat×Nat×Nat)) (v vs':Value) (q:List Bx) (L:List Ev) (j:Nat) (v1:Value) (g:List Nat):Prop where
 cp:PP wr b o D pl kd nm fm h tk lk vt t u vs' q.length (inP q)
 vls:Vls w0 wr v1 (L++List.replicate j zbm)
 sub:Subg g b o 20 w wr
 size:w0.heap.size≤wr.heap.size
theorem EndsJ.next {w0 w wr w3:World} {b o D pl:Nat} {kd nm fm:Nat} {h:Hd} {tk lk:Nat} {vt:Value} {t:List UInt8} {u:Option (Nat×Nat×Nat)} {v vs':Value} {q:List Bx} {L:List Ev} {j:Nat} {v1 v3:Value} {vs:Value} {ob:Obj}
  (I:EndsJ w0 w wr b o D pl kd nm fm h tk lk vt t u v vs' q L j v1 (Value.owner v++Value.owner vs))
  (hv1:∀k∈Value.owner v1,k∈Value.owner v∨w.heap.size≤k) (hb0:b<w0.heap.size) (hvt:∀k∈Value.owner vt,k<w0.heap.size) (hvs:∀k∈Value.owner vs',k<w0.heap.size)
  (hW:Win w3 20 1 v3 (L.length+j+1) ((L++List.replicate j zbm).map valE++[valE zbm])) (hG:(wr.alloc ob).grownBy w3 v1.ownBlock) (hO:v3.ownBlock=v1.ownBlock∨v3.ownBlock=some (wr.alloc ob).heap.size∧(wr.alloc ob).heap.size<w3.heap.size) :
  EndsJ w0 w w3 b o D pl kd nm fm h tk lk vt t u v vs' q L (j+1) v3 (Value.owner v++Value.owner vs)∧(∀k∈Value.owner v3,k∈Value.owner v∨w.heap.size≤k):=by
 have hz:(wr.alloc ob).heap.size=wr.heap.size+1:=by simp
 have hkeep:∀k,k<w0.heap.size→w3.heap[k]? = wr.heap[k]? := fun k hk=>by
  have hk2:k<wr.heap.size:=Nat.lt_of_lt_of_le hk I.size;refine(hG.block k (by omega) (fun e=> ?_)).trans (Below.heap_alloc wr ob k hk2);have:=I.vls.new k ((zad _ _).1 e.symm);omega
 have hB:Below w0.heap.size wr w3:=⟨hG.os,hG.tape,hG.output,by have:=hG.size;omega,hkeep⟩
 have hw:=I.sub.size;refine⟨⟨?_,?_,?_,by have:=hG.size;have:=I.size;omega⟩,fun k hk=> ?_⟩
 ·have hk:=hkeep b hb0
  exact⟨I.cp.a.keep hk,I.cp.it.keep hk,I.cp.hd.keep hk,I.cp.tx.keep hk,I.cp.ck.keep hk,⟨I.cp.op.ptr.keep hk,I.cp.op.win.keep fun k hx=>hkeep k (hvs k hx),I.cp.op.far⟩,I.cp.wt.keep fun k hx=>hkeep k (hvt k hx),I.cp.ft⟩
 ·rw[List.replicate_succ',← List.append_assoc]
  refine zlo (K:=[zbm]) (w:=wr.alloc ob) (n:=L.length+j) (m:=1) ((I.vls.go ((Below.refl _ _).alloc (Nat.le_refl _) ob))) (by simp) rfl (by have:=I.size;omega) ?_ hO;simpa using hW
 ·have h1:Subg (Value.owner v1) b o 20 wr w3 :=
   (zae ((Below.refl _ _).alloc (Nat.le_refl _) ob) I.cp.lt _ _ _).tr (zc6 hG (fun k hk=>(zad _ _).1 hk) (fun e=>by have:=I.vls.new b ((zad _ _).1 e);omega) (by have:=I.cp.lt;omega))
  refine I.sub.trans h1 (fun k hk=> ?_);exact(hv1 k hk).imp (fun h=>List.mem_append.2 (.inl h)) id
 ·rcases hO with e|⟨e,_⟩
  ·exact hv1 k ((zad _ _).1 (e▸(zad _ _).2 hk))
  ·have h2:=(zad _ _).2 hk
   rw[e] at h2;cases h2;exact .inr (by omega)
structure EndsQ (w0 w w':World) (b o D:Nat) (kd nm fm:Nat) (h:Hd) (tk lk:Nat) (vt:Value) (t:List UInt8) (u:Option (Nat×Nat×Nat)) (v vs:Value) (s:List Bx) (L:List Ev) (x:Value):Prop where
 cp:∃vs',PP w' b o D (plE (zap s)) kd nm fm h tk lk vt t u vs' (zap s).length (inP (zap s))∧Value.owner vs'=Value.owner vs
 vls:Vls w0 w' x (L++zes s)
 sub:Subg (Value.owner v++Value.owner vs) b o 20 w w'
theorem zl0 {w0 w:World} {b o D pl:Nat} {kd nm fm:Nat} {h:Hd} {tk lk:Nat} {vt:Value} {t:List UInt8} {u:Option (Nat×Nat×Nat)} {vs:Value} {s:List Bx} {v:Value} {L:List Ev} (c:PP w b o D pl kd nm fm h tk lk vt t u vs s.length (outP s)) (hV:Vls w0 w v L) (hL:L.length≤2) (hs:w0.heap.size≤w.heap.size) (hb0:b<w0.heap.size) (hvt:∀k∈Value.owner vt,k<w0.heap.size) (hvs:∀k∈Value.owner vs,k<w0.heap.size)
    (hk:OutP s) :
    Calls Tryz.prog 208 #[.pointer (some ⟨b,o,none⟩),v] w fun r w'=>∃x,r= .returned x∧EndsQ w0 w w' b o D kd nm fm h tk lk vt t u v vs s L x:=by
  have hE:=zoz c.op hk;have hnum:numC s≤16:=by
    have:∀s:List Bx,numC s≤s.length:=by
      intro s
      induction s with
      | nil=>simp[numC]
      | cons b r ih=>simp only[numC,List.length_cons];split <;>omega
    have:=this s;have:=hk.deep;omega
  have HE:=hid hE;have H:=hid (And.intro c (And.intro hV (And.intro hL (And.intro hs (And.intro hb0 (And.intro hvt hvs))))));obtain⟨N,hN⟩:∃N,numC s=N:=⟨_,rfl⟩
  have HNN:=hid hN;rw[hN] at HE hnum;obtain⟨n0,hn0⟩:∃n0,L.length=n0:=⟨_,rfl⟩
  have HN0:=hid hn0;have hn2:n0≤2:=by omega
  obtain⟨a,cp,hv⟩:=hV.form;rw[hn0] at hv;subst hv;clear hE hN c hV hL hs hb0 hvt hvs hk hn0;go_enter Tryz.func208,Tryz.ntmps208;(go_wp2_with fail);refine HE.out.mono ?_;rintro r w1 ⟨rfl,vs',hN1,ho1,hS1⟩;have hI:EndsJ w0 w w1 b o D pl kd nm fm h tk lk vt t u (.slice a n0 cp) vs' (zap s) L 0 (.slice a n0 cp) (Value.owner (.slice a n0 cp)++Value.owner vs):=by
    obtain⟨c,hV,hL,hs,hb0,hvt,hvs⟩:=H.out;have hne:∀x∈Value.owner (.slice a n0 cp),x≠b∧x∉Value.owner vs:=fun x hx=>by
      have h1:=hV.new x hx;exact⟨by omega,fun h2=>by have:=hvs x h2;omega⟩
    refine⟨c.setOp hS1 (fun x hx h2=>c.apart x h2 hx) hN1,?_,hS1.widen (fun x hx=>List.mem_append.2 (.inr hx)) (by omega) (by omega),Nat.le_trans hs hS1.size⟩;rw[List.replicate_zero,List.append_nil];exact⟨hV.win.keep fun k hk=>hS1.block k (hV.win.lt k hk) (hne k hk).1 (hne k hk).2,hV.new⟩
  have HI:=hid hI;have HO:=hid ho1;clear hN1 ho1 hS1 hI HE;go_wp2
  go_loopw [1,9] (fun l i wr=>∃(j:Nat) (a1:Option Addr) (c1:Nat),l= .slice a1 (n0+j) c1∧i= .int .i64 j∧j≤N∧Hid (EndsJ w0 w wr b o D pl kd nm fm h tk lk vt t u (.slice a n0 cp) vs' (zap s) L j (.slice a1 (n0+j) c1) (Value.owner (.slice a n0 cp)++Value.owner vs)∧(∀k∈Value.owner (.slice a1 (n0+j) c1),k∈Value.owner (.slice a n0 cp)∨w.heap.size≤k))) (fun _ i _=>N-(RowKit.intOf i).toNat)
  case atStart=>exact⟨0,a,cp,rfl,rfl,by omega,hid ⟨HI.out,fun k hk=> .inl hk⟩⟩
  case round =>
    obtain⟨j,a1,c1,rfl,rfl,hj,HR⟩:=hrel;clear HI;by_cases hlt:j<N
    · have hwin:Hid (∀ob,Win (wr.alloc ob) 20 1 (.slice a1 (n0+j) c1) (n0+j) ((L++List.replicate j zbm).map valE)):=hid (fun ob=>by
        have:=HR.out.1.vls.win.alloc ob;simpa [HN0.out] using this)
      go_wp2_with (at_builtin;refine zaj rfl _ _ _ rfl Tryz.underlying85 zed rfl rfl (hwin.out _) _ rfl 1 _ (zcl _ Tryz.underlying85 1 1 [valE zbm] 20 _ rfl (zhn [zbm]) (heap_alloc_new _ _)) ?e1 ?e2 ?_)
      case e1=>unfold maxLen;omega
      case e2=>omega
      intro v3 w3 hW3 hG3 hO3;have hX:=HR.out.1.next (vs:=vs) HR.out.2 H.out.2.2.2.2.1 H.out.2.2.2.2.2.1 (by rw[HO.out];exact H.out.2.2.2.2.2.2) (by rw[HN0.out];simpa using hW3.out) hG3.out (by simpa using hO3.out);obtain⟨a3,c3,rfl,_,_⟩:=Win.slice_form hW3.out;have H3:=hid hX;clear hW3 hG3 hO3 hX;go_wp2
      go_roundw
      case rel=>exact⟨j+1,a3,c3,by rw[Nat.add_assoc],rfl,hlt,hid (by have:=H3.out;rwa [Nat.add_assoc] at this)⟩
      case measure=>simp[RowKit.intOf];omega
    · obtain rfl:j=N:=by omega
      have hF:=HR.out.1.cp;obtain⟨⟨_,_,⟨c2,f2⟩⟩,_,_,c19,f19⟩:=hF.cells;have hlen:=HR.out.1.cp.op.win.slice_form;obtain⟨a5,c5,rfl,_,_⟩:=hlen;have HF:=hid hF;have hfin:Hid (∀x wq q,PP wq b o D (plE (zap s)) kd nm fm h tk lk vt t u (.slice a5 (zap s).length c5) (zap s).length (inP (zap s))→Sub b o 20 wr wq→x=(Value.slice a1 (n0+j) c1)→EndsQ w0 w (wq.drewN q) b o D kd nm fm h tk lk vt t u (.slice a n0 cp) vs s L x):=hid (by
        rintro x wq q hc hs rfl;refine⟨⟨_,hc.drewN q,HO.out⟩,?_,(HR.out.1.sub.tr (hs.subg _)).drewN q⟩;have:=HR.out.1.vls.sub hs H.out.2.2.2.2.1;unfold zes;rw[HNN.out];exact⟨this.win,this.new⟩)
      by_cases he:(zap s).length=0
      · have hp:plE (zap s)=3:=by unfold plE;rw[if_pos (by simpa using he)]
        rw[hp] at hfin;have HP:=hid (And.intro ((hF.setPl 0).setPl 3) ((zac (b:=b) (o:=o) (n:=20) wr (o+2) (.int .i64 0) (by omega)).setCell (o+2) (.int .i64 3) (by omega)));have hz:((zap s).length:Int)=0:=by omega
        have hz2:(((zap s).length:Int)==0)=true:=by rw[hz];rfl
        generalize (zap s).length=K at *
        clear HR hF HF hz he hp;go_wp2;go_ret;exact⟨_,rfl,hfin.out _ _ 0 HP.out.1 HP.out.2 rfl⟩
      · have hp:plE (zap s)=0:=by unfold plE;rw[if_neg (by simpa using he)]
        rw[hp] at hfin;have HP:=hid (And.intro (hF.setPl 0) (zac (b:=b) (o:=o) (n:=20) wr (o+2) (.int .i64 0) (by omega)));have hz2:(((zap s).length:Int)==0)=false:=by rw[beq_eq_false_iff_ne];omega
        generalize (zap s).length=K at *
        clear HR hF HF he hp;go_wp2;go_ret;exact⟨_,rfl,hfin.out _ _ 0 HP.out.1 HP.out.2 rfl⟩
end
section
open Go.RowKit
open Go.Lib
def kdK (k:Nat):Nat:=if k=0 then 1 else if k=1 then 3 else if k=2 then 7 else if k=3 then 8 else if k=4 then 9 else 10
def fmW (w:Nat):Nat:=if w=1 then 24 else if w=2 then 25 else if w=4 then 26 else 27
def StM (w:World) (b o D:Nat) (s:Pm) (vt vs:Value):Prop :=
 match s with
 | .c (.bad e)=>e≠0∧Room w b o 20∧w.cell? ⟨b,o+1,none⟩=some (.int .i64 D)
 | .c (.item s dn)=>∃kd nm fm h,PP w b o D (if dn=true then 3 else 0) kd nm fm h 0 0 vt [] st0 vs s.length (inP s)
 | .c (.text s m n t u)=>∃kd nm fm h,PP w b o D 2 kd nm fm h (tkT m) n vt t u vs s.length (inP s)
 | .num s k q n a=>∃nm,PP w b o D 1 (kdK k) nm (fmW q) (.mid 0 n a) 0 0 vt [] st0 vs s.length (inP s)
 | _=>False
structure GoM (w0 w w':World) (b o D:Nat) (vt vs:Value) (q:Pm×List Ev) (x:Value):Prop where
 vls:Vls w0 w' x q.2
 st:∃vt' vs',StM w' b o D q.1 vt' vs'∧∀k∈Value.owner vt'++Value.owner vs',k∈Value.owner vt++Value.owner vs∨w.heap.size≤k
 sub:Subg (Value.owner vt++Value.owner vs) b o 20 w w'
theorem GoM.from_ {w0 w w1 w':World} {b o D:Nat} {vt vs vt1:Value} {q:Pm×List Ev} {x:Value} (h:GoM w0 w1 w' b o D vt1 vs q x) (hS:Subg (Value.owner vt++Value.owner vs) b o 20 w w1) (ho:∀k∈Value.owner vt1,k∈Value.owner vt∨w.heap.size≤k):GoM w0 w w' b o D vt vs q x:=by
 have hg:∀k∈Value.owner vt1++Value.owner vs,k∈Value.owner vt++Value.owner vs∨w.heap.size≤k:=fun k hk=>by
  rcases List.mem_append.1 hk with hk|hk
  ·exact(ho k hk).imp (fun h=>List.mem_append.2 (.inl h)) id
  ·exact .inl (List.mem_append.2 (.inr hk))
 obtain⟨vt',vs',hst,ho'⟩:=h.st;exact⟨h.vls,⟨vt',vs',hst,fun k hk=>(ho' k hk).elim (hg k) (fun h2=> .inr (Nat.le_trans hS.size h2))⟩,hS.trans h.sub hg⟩
theorem GoM.up {w0 w w1 w':World} {b o D:Nat} {vt vs:Value} {q:Pm×List Ev} {x:Value} (h:GoM w0 w1 w' b o D vt vs q x) (hB:Below w.heap.size w w1) (hb:b<w.heap.size):GoM w0 w w' b o D vt vs q x :=
 h.from_ (zae hB hb _ _ _) (fun _ hk=> .inl hk)
theorem zlf {w0 w w1 w':World} {b o D kd nm fm:Nat} {h:Hd} {vt vs v vs1:Value} {s:List Bx} {L:List Ev} {x:Value} {vt1:Value} (hE:EndsQ w0 w1 w' b o D kd nm fm h 0 0 vt1 [] st0 v vs1 s L x) (hvt:Value.owner vt1=[]∨vt1=vt) (ho:Value.owner vs1=Value.owner vs)
  (hv:∀k∈Value.owner v,w.heap.size≤k) (hS:Subg (Value.owner vt++Value.owner vs) b o 20 w w1):GoM w0 w w' b o D vt vs (.c (atC s),L++zes s) x:=by
 obtain⟨vs',hc,hvs⟩:=hE.cp;refine⟨hE.vls,⟨vt1,vs',?_,fun k hk=> ?_⟩,hS.trans hE.sub (fun k hk=> ?_)⟩
 ·refine⟨kd,nm,fm,h,?_⟩
  simpa [plE] using hc
 ·rcases List.mem_append.1 hk with hk|hk
  ·rcases hvt with e|e
   ·rw[e] at hk;cases hk
   ·rw[e] at hk;exact .inl (List.mem_append.2 (.inl hk))
  ·rw[hvs,ho] at hk
   exact .inl (List.mem_append.2 (.inr hk))
 ·rcases List.mem_append.1 hk with hk|hk
  ·exact .inr (hv k hk)
  ·rw[ho] at hk
   exact .inl (List.mem_append.2 (.inr hk))
def txZP:List Value:=[.int .i64 0,.int .i64 0,.slice none 0 0,.int .i64 0,.int .u8 0,.int .u8 0,.bool false]
def goP (s:List Bx) (m:Bool) (t:List UInt8) (n:Nat) (u:Option (Nat×Nat×Nat)):Pm×List Ev:=if 0<n then(.c (.text s m n t u),[]) else za1 (putC s (zby m t))
theorem zaak (s:List Bx) (m:Bool) (t:List UInt8) (n:Nat) (u:Option (Nat×Nat×Nat)):zcw (goP s m t n u).1=0:=by
 unfold goP;split <;>rfl
theorem zrn {w0 w:World} {b o D pl kd nm fm:Nat} {h:Hd} {vt:Value} {t:List UInt8} {u:Option (Nat×Nat×Nat)} {vs:Value} {s:List Bx} {m:Bool} {lk:Nat} (c:PP w b o D pl kd nm fm h (tkT m) lk vt t u vs s.length (inP s)) (hl:Low w0 w b vs) (hk:OkP s) :
  Calls Tryz.prog 203 #[.pointer (some ⟨b,o,none⟩)] w fun r w'=>∃x,r= .returned x∧GoM w0 w w' b o D vt vs (goP s m t lk u) x:=by
 obtain⟨⟨_,_,⟨c2,f2⟩⟩,_,⟨_,⟨c13,_⟩,_⟩,_⟩:=c.cells;unfold goP;by_cases hp:0<lk
 ·rw[if_pos hp]
  have HG:Hid (GoM w0 w (w.setCell ⟨b,o+2,none⟩ (.int .i64 2)) b o D vt vs (.c (.text s m lk t u),[]) (.slice none 0 0)):=hid
   ⟨Vls.nil_ _ _,⟨vt,vs,⟨kd,nm,fm,h,c.setPl 2⟩,fun k hk=> .inl hk⟩,((zac w (o+2) _ (by omega)).subg _)⟩
  have zp:(0<lk)=True:=by simp;omega
  clear c hl hk hp;go_enter Tryz.func203,Tryz.ntmps203;go_wp2;go_ret;exact⟨_,rfl,HG.out⟩
 ·obtain rfl:lk=0:=by omega
  rw[if_neg hp];have HP:=hid (zacj c.tx c.wt);have HR:=hid c.tx7;have H:=hid (And.intro c (And.intro hl hk.inc));have hone:(valE (zby m t)).oneCell'=true:=zhn [zby m t] _ (by simp);have HV:Hid (∀W:World,w.heap.size≤W.heap.size→Vls w0 (W.alloc (.cells #[valE (zby m t)] 20)) (.slice (some ⟨W.heap.size,0,none⟩) 1 1) [zby m t]):=hid (fun W hW=>⟨zfv W _ _ _ rfl,fun k hk=>by
   simp only[Value.owner,List.mem_singleton] at hk;have:=H.out.2.1.size;omega⟩)
  clear c hl hk hp;obtain⟨T,V,hV⟩:∃T V,valE (zby m t)= .iface T V:=by cases m <;>exact⟨_,_,rfl⟩
  rw[hV] at hone HV HP;have HVV:=hid hV;clear hV;go_enter Tryz.func203,Tryz.ntmps203;(go_wp2_with fail);refine HP.out.mono ?_;rintro r w1 ⟨rfl,rfl⟩;clear HP
  go_wp2_with (refine zas rfl 152 _ _ rfl b (o+12) txZP rfl rfl HR.out (by kernel_rfl) (by kernel_rfl) ?_)
  intro w1 h1;have hc1:PP w1 b o D pl kd nm fm h 0 0 (.slice none 0 0) [] st0 vs s.length (inP s) :=
   H.out.1.setTx (h1.out.2.subg []) (by simp) (h1.out.1.left (us:=[.int .i64 0,.int .u8 0,.int .u8 0,.bool false])) (zeb (h1.out.1.right (vs:=[.int .i64 0,.int .i64 0,.slice none 0 0]))) (Win.nil_ _ _ _) (by simp[Value.owner])
  have HC1:=hid hc1;have HS1:=hid h1.out.2;clear h1 hc1 HR;have HC2:Hid (∀ob,PP (w1.alloc ob) b o D pl kd nm fm h 0 0 (.slice none 0 0) [] st0 vs (incB s).length (outP (incB s))):=hid (fun ob=>by
   rw[zbh,zl6];exact HC1.out.go ((Below.refl _ _).alloc (Nat.le_refl _) ob))
  have hs1:=HS1.out.step.size;have hsz:∀ob,w0.heap.size≤(w1.alloc ob).heap.size:=fun ob=>by have:=H.out.2.1.size;simp;omega
  have HSZ:=hid hsz;have HHV:=hid (HV.out w1 hs1);clear hs1 hsz HV HC1;(go_wp2_with fail);refine(zl0 (w0:=w0) (L:=[zby m t]) (HC2.out _) HHV.out (by simp) (HSZ.out _) H.out.2.1.b (by simp[Value.owner]) H.out.2.1.vs H.out.2.2).mono ?_;rintro r w' ⟨x,rfl,hR⟩;have HR:=hid hR;clear hR;go_wp2;go_ret;refine⟨x,rfl,zlf (vs1:=vs) HR.out (.inl rfl) rfl (fun k hk=> ?_) ?_⟩
  ·simp only[Value.owner,List.mem_singleton] at hk
   have:=HS1.out.step.size;omega
  ·exact(((HS1.out.widen (o':=o) (n':=20) (by omega) (by simp[txZP])).subg _)).tr (zae ((Below.refl _ _).alloc (Nat.le_refl _) _) (Nat.lt_of_lt_of_le H.out.1.lt HS1.out.step.size) _ _ _)
theorem zaho (s:List Bx) (m:Bool) (v:Nat):za1 (lenP s m v)=if 200<v then(.c (.bad 5),[]) else goP s m [] v st0:=by
 unfold lenP goP;by_cases h:200<v
 ·rw[if_pos h,if_pos h];rfl
 ·rw[if_neg h,if_neg h]
  by_cases h0:v=0
  ·rw[if_pos h0,if_neg (by omega)]
  ·rw[if_neg h0,if_pos (by omega)];rfl
def txBP (K v:Nat):List Value:=[.int .i64 (K:Int),.int .i64 (v:Int),.slice none 0 0,.int .i64 0,.int .u8 0,.int .u8 0,.bool false]
theorem zabo (K v:Nat):(txBP K v).toArray.all (·.oneCell')=true:=by simp[txBP,Value.oneCell']
theorem zga {w0 w:World} {b o D pl kd nm fm:Nat} {h:Hd} {tk lk:Nat} {vt:Value} {t:List UInt8} {u:Option (Nat×Nat×Nat)} {vs:Value} {s:List Bx} (c:PP w b o D pl kd nm fm h tk lk vt t u vs s.length (inP s)) (hl:Low w0 w b vs) (hk:OkP s)
  (m:Bool) (v fm':Nat) :
  Calls Tryz.prog 206 #[.pointer (some ⟨b,o,none⟩),.agg #[.int .i64 (tkT m:Nat),.int .u64 (v:Nat),.int .u8 (fm':Nat)]] w fun r w' =>
   ∃x,r= .returned (.tuple #[x,.int .i64 (zcw (za1 (lenP s m v)).1:Nat)])∧GoM w0 w w' b o D vt vs (za1 (lenP s m v)) x:=by
 have hB:Below w.heap.size w (w.alloc (.cells #[.int .i64 (tkT m:Nat),.int .u64 (v:Nat),.int .u8 (fm':Nat)] 150)):=zaa (Below.refl _ _) _;have H:=hid (And.intro (c.go hB) (And.intro (hl.up hB) (And.intro hk (And.intro c.lt hB))));rw[zaho];by_cases hv:200<v
 ·rw[if_pos hv]
  have HG:Hid (GoM w0 w (w.alloc (.cells #[.int .i64 (tkT m:Nat),.int .u64 (v:Nat),.int .u8 (fm':Nat)] 150)) b o D vt vs (.c (.bad 5),[]) (.slice none 0 0)):=hid
   ⟨Vls.nil_ _ _,⟨vt,vs,⟨by decide,H.out.1.room,H.out.1.cells.1.2.1.1⟩,fun k hk=> .inl hk⟩,zae hB c.lt _ _ _⟩
  have zv:(200<(v:Int))=True:=by simp;omega
  clear c hB hl hk hv H;go_enter Tryz.func206,Tryz.ntmps206;go_wp2;go_ret2;exact⟨_,rfl,HG.out⟩
 ·rw[if_neg hv,zaak]
  have zv:(200<(v:Int))=False:=by simp;omega
  have hwv:IntKind.i64.wrap (v:Int)=(v:Int):=by simp only[IntKind.wrap_i64];omega
  have HR:=hid H.out.1.tx7;clear c hB hl hk hv;go_enter Tryz.func206,Tryz.ntmps206
  go_wp2_with (refine zas rfl 152 _ _ rfl b (o+12) (txBP (tkT m) v) rfl rfl HR.out (by kernel_rfl) (zabo _ _) ?_)
  intro w1 h1;have hc1:PP w1 b o D pl kd nm fm h (tkT m) v (.slice none 0 0) [] st0 vs s.length (inP s) :=
   H.out.1.setTx (h1.out.2.subg []) (by simp) (h1.out.1.left (us:=[.int .i64 0,.int .u8 0,.int .u8 0,.bool false])) (zeb (h1.out.1.right (vs:=[.int .i64 (tkT m:Nat),.int .i64 (v:Nat),.slice none 0 0]))) (Win.nil_ _ _ _) (by simp[Value.owner])
  have hs1:Sub b o 20 (w.alloc (.cells #[.int .i64 (tkT m:Nat),.int .u64 (v:Nat),.int .u8 (fm':Nat)] 150)) w1:=h1.out.2.widen (by omega) (by simp[txBP]);have HE:=hid (zrn hc1 (H.out.2.1.of hs1.step.size rfl) H.out.2.2.1);have HS1:=hid hs1;clear h1 hc1 HR hs1;(go_wp2_with fail);refine HE.out.mono ?_;rintro r w' ⟨x,rfl,hR⟩;have HR:=hid hR;clear hR;go_wp2;go_ret2;exact⟨x,rfl,(HR.out.from_ (HS1.out.subg _) (fun k hk=>by simp[Value.owner] at hk)).up H.out.2.2.2.2 H.out.2.2.2.1⟩
end
section
open Go.RowKit
open Go.Lib
theorem zqe {w:World} {b o:Nat} {m:Bool} {lk:Nat} {vt:Value} {u:Option (Nat×Nat×Nat)} (hA:At w b o [.int .i64 (tkT m:Nat),.int .i64 lk,vt]) (hC:CAt w b (o+3) u) (y:UInt8) :
    Calls Tryz.prog 202 #[.pointer (some ⟨b,o,none⟩),.int .u8 (y.toNat:Int)] w fun r w'=>r= .returned (.bool (mayH m lk (zbq m u y)))∧CAt w' b (o+3) (zbq m u y)∧Sub b (o+3) 4 w w':=by
  have c0:=(hA 0 _ rfl).1;simp only[Nat.add_zero] at c0;cases m with
  | false =>
    simp only[tkT] at c0;have HC:=hid hC;have hE:mayH false lk (zbq false u y)=true:=rfl;rw[hE];clear hA hC hE;go_enter Tryz.func202,Tryz.ntmps202;go_wp2;go_ret;exact⟨rfl,HC.out,Sub.refl _ _ _ _⟩
  | true =>
    simp only[tkT] at c0;have hS:=zei hC y;have hn:zbq true u y=zb7 u y:=rfl;rw[hn];have HA:=hid hA;obtain⟨X,hX⟩:∃X,(y.toNat:Int)=X:=⟨_,rfl⟩
    rw[hX] at hS ⊢;generalize zb7 u y=u' at *
    have HS:=hid hS;clear hA hC hn hS;cases hu:u'.isSome with
    | false =>
      rw[hu] at HS;have hE:mayH true lk u'=false:=by simp[mayH,hu]
      rw[hE];clear hE hu;go_enter Tryz.func202,Tryz.ntmps202;(go_wp2_with fail);refine HS.out.mono ?_;rintro r w1 ⟨rfl,h1,h2⟩;have H1:=hid (And.intro h1 h2);clear h1 h2;go_wp2;go_ret;exact⟨rfl,H1.out⟩
    | true =>
      rw[hu] at HS;by_cases hp:0<lk
      · have hE:mayH true lk u'=true:=by simp[mayH,hu,hp]
        rw[hE];have zp:(0<lk)=True:=by simp[hp]
        clear hE hu hp;go_enter Tryz.func202,Tryz.ntmps202;(go_wp2_with fail);refine HS.out.mono ?_;rintro r w1 ⟨rfl,h1,h2⟩;have c1:=((HA.out.sub h2 (by simp)) 1 _ rfl).1;have H1:=hid (And.intro h1 h2);clear h1 h2;go_wp2;go_ret;exact⟨rfl,H1.out⟩
      · obtain rfl:lk=0:=by omega
        have hE:mayH true 0 u'=zch u':=by simp[mayH,hu]
        rw[hE];have HWW:=hid (fun(w1:World) (h:CAt w1 b (o+3) u')=>zlb h);generalize zch u'=U at *
        clear hE hu hp;go_enter Tryz.func202,Tryz.ntmps202;(go_wp2_with fail);refine HS.out.mono ?_;rintro r w1 ⟨rfl,h1,h2⟩;have c1:=((HA.out.sub h2 (by simp)) 1 _ rfl).1;have HW:=hid (HWW.out w1 h1);have H1:=hid (And.intro h1 h2);clear h1 h2;(go_wp2_with fail);refine HW.out.mono ?_;rintro r w2 ⟨rfl,rfl⟩;go_wp2;go_ret;exact⟨rfl,H1.out⟩
def bytP (s:List Bx) (m:Bool) (t:List UInt8) (n:Nat) (u:Option (Nat×Nat×Nat)) (y:UInt8):Pm×List Ev :=
 if mayH m n (zbq m u y)=true then goP s m (t++[y]) n (zbq m u y) else(.c (.bad 9),[])
theorem zuc {W w3:World} {b o D pl kd nm fm:Nat} {h:Hd} {tk lk:Nat} {vt v3:Value} {t:List UInt8} {u:Option (Nat×Nat×Nat)} {vs:Value} {n:Nat} {xs:List Value} {y:UInt8} {ob:Obj} (c:PP W b o D pl kd nm fm h tk lk vt t u vs n xs)
  (hW:Win w3 5 1 v3 (t.length+1) (zbe t++[.int .u8 (y.toNat:Int)])) (hG:(W.alloc ob).grownBy w3 vt.ownBlock) (hO:v3.ownBlock=vt.ownBlock∨v3.ownBlock=some (W.alloc ob).heap.size∧(W.alloc ob).heap.size<w3.heap.size) :
  (w3.cell? ⟨b,o+12+2,none⟩=some vt∧w3.frozen? ⟨b,o+12+2,none⟩=false)∧PP (w3.setCell ⟨b,o+12+2,none⟩ v3) b o D pl kd nm fm h tk lk v3 (t++[y]) u vs n xs∧(∀k∈Value.owner v3,k∈Value.owner vt∨W.heap.size≤k)∧Subg (Value.owner vt) b o 20 W (w3.setCell ⟨b,o+12+2,none⟩ v3):=by
 have hz:(W.alloc ob).heap.size=W.heap.size+1:=by simp
 have hnb:vt.ownBlock≠some b:=fun e=>c.ft ((zad _ _).1 e)
 have hb:=c.lt;have hblk:w3.heap[b]? = W.heap[b]? :=(hG.block b (by omega) (fun e=>hnb e.symm)).trans (Below.heap_alloc W ob b hb);have hown:∀k∈Value.owner v3,k∈Value.owner vt∨W.heap.size≤k:=by
  intro k hk;rcases hO with e|⟨e,_⟩
  ·exact .inl ((zad _ _).1 (e▸(zad _ _).2 hk))
  ·have h2:=(zad _ _).2 hk
   rw[e] at h2;cases h2;exact .inr (by omega)
 have hfar:b∉Value.owner v3:=fun hk=>(hown b hk).elim c.ft (fun h=>by omega)
 have hvs:∀k∈Value.owner vs,w3.heap[k]? = W.heap[k]? := fun k hk=>by
  have hlt:=c.op.win.lt k hk;exact(hG.block k (by omega) (fun e=>c.apart k hk ((zad _ _).1 e.symm))).trans (Below.heap_alloc W ob k hlt)
 have hA:=c.tx.keep hblk;have hS:Sub b (o+12) 7 w3 (w3.setCell ⟨b,o+12+2,none⟩ v3):=zac w3 _ _ (by omega);refine⟨hA 2 _ rfl,⟨(c.a.keep hblk).sub hS (by simp),(c.it.keep hblk).sub hS (by simp),(c.hd.keep hblk).sub hS (by omega),hA.set 2 (by simp) v3,(c.ck.keep hblk).sub (zac (b:=b) (o:=o+12+2) (n:=1) w3 _ _ (by omega)) (by omega),
  ⟨(c.op.ptr.keep hblk).sub hS (by simp),(c.op.win.keep hvs).setCell_far c.op.far _,c.op.far⟩,?_,hfar⟩,hown,?_⟩
 ·rw[List.length_append,zf9]
  exact hW.setCell_far hfar _
 ·exact((zae ((Below.refl _ _).alloc (Nat.le_refl _) ob) hb _ _ _).tr (zc6 hG (fun k hk=>(zad _ _).1 hk) hnb (by omega))).tr ((hS.widen (by omega) (by omega)).subg _)
theorem zjq {w0 w:World} {b o D pl kd nm fm:Nat} {h:Hd} {vt:Value} {t:List UInt8} {u:Option (Nat×Nat×Nat)} {vs:Value} {s:List Bx} {m:Bool} {n:Nat} (c:PP w b o D pl kd nm fm h (tkT m) (n+1) vt t u vs s.length (inP s)) (ht:t.length+(n+1)≤200) (hl:Low w0 w b vs) (hk:OkP s) (y:UInt8) :
    Calls Tryz.prog 199 #[.pointer (some ⟨b,o,none⟩),.int .u8 (y.toNat:Int)] w fun r w' =>
      ∃x,r= .returned (.tuple #[x,.int .i64 (zcw (bytP s m t n u y).1:Nat)])∧GoM w0 w w' b o D vt vs (bytP s m t n u y) x:=by
  obtain⟨_,_,⟨_,⟨c11,f11⟩,⟨c12,f12⟩⟩,_⟩:=c.cells;obtain⟨a,cp,hvt,_,_⟩:=c.wt.slice_form;subst hvt;have hw1:IntKind.i64.wrap (n:Int)=(n:Int):=by simp only[IntKind.wrap_i64];omega
  have hwn:wrap64 (n:Int)=(n:Int):=by unfold wrap64;omega
  have hS:Sub b (o+12) 7 w (w.setCell ⟨b,o+12+1,none⟩ (.int .i64 (n:Int))):=zac w _ _ (by omega);have hc1:PP (w.setCell ⟨b,o+12+1,none⟩ (.int .i64 (n:Int))) b o D pl kd nm fm h (tkT m) n (.slice a t.length cp) t u vs s.length (inP s) :=
    c.setTx (hS.subg []) (by simp) (c.tx.set 1 (by simp) _) (c.ck.sub (zac (b:=b) (o:=o+12+1) (n:=1) w _ _ (by omega)) (by omega)) (c.wt.subg (hS.subg []) c.ft (by simp)) c.ft
  have d12:=hc1.cells.2.2.1.2.2;have HC1:=hid (And.intro hc1 (And.intro hS c.lt));have H:=hid (And.intro hl (And.intro hk (And.intro c ht)));have HW1:=hid (fun ob=>hc1.wt.alloc ob);have hn1:t.length≤200:=by omega
  clear c hc1 hS hl hk d12;have HNW:Hid (∀ob,((w.setCell ⟨b,o+12+1,none⟩ (.int .i64 (n:Int))).alloc ob).heap[w.heap.size]? = some ob):=hid (fun ob=>by
    have:=heap_alloc_new (w.setCell ⟨b,o+12+1,none⟩ (.int .i64 (n:Int))) ob;simpa using this)
  go_enter Tryz.func199,Tryz.ntmps199
  go_wp2_with (at_builtin;refine zaj rfl _ _ _ rfl Tryz.underlying30 zahu rfl rfl (HW1.out _) _ rfl 1 _ (zcl _ Tryz.underlying30 1 1 [.int .u8 (y.toNat:Int)] 5 _ rfl (by simp[Value.oneCell']) (HNW.out _)) ?e1 ?e2 ?_)
  case e1=>unfold maxLen;omega
  case e2=>omega
  intro v3 w3 hW3 hG3 hO3;obtain⟨g,hc4,hown,hS4⟩:=zuc (vt:= .slice a t.length cp) HC1.out.1 hW3.out hG3.out (by simpa using hO3.out);obtain⟨g1,g2⟩:=g;obtain⟨a3,c3,rfl,_,_⟩:=Win.slice_form hW3.out;have H4:=hid (And.intro hc4 (And.intro hown hS4));have HMY:=hid (zqe hc4.tx hc4.ck y);clear hW3 hG3 hO3 hc4 hown hS4;(go_wp2_with fail);refine HMY.out.mono ?_;rintro r w5 ⟨rfl,hk5,hS5⟩;have hc5:PP w5 b o D pl kd nm fm h (tkT m) n (.slice a3 (t.length+1) c3) (t++[y]) (zbq m u y) vs s.length (inP s) :=
    H4.out.1.setTx ((hS5.widen (by omega) (by omega)).subg []) (by simp) (H4.out.1.tx.sub hS5 (by simp)) hk5 (H4.out.1.wt.subg (hS5.subg []) H4.out.1.ft (by simp)) H4.out.1.ft
  have hgo:GoM w0 w5 w5 b o D (.slice a3 (t.length+1) c3) vs (.c (.bad 9),[]) (.slice none 0 0):=⟨Vls.nil_ _ _,⟨_,vs,⟨by decide,hc5.room,hc5.cells.1.2.1.1⟩,fun k hk=> .inl hk⟩,Subg.refl _ _ _ _ _⟩
  have hS1:Subg (Value.owner (.slice a t.length cp)++Value.owner vs) b o 20 w w5:=by
    have e1:Subg (Value.owner (.slice a t.length cp)++Value.owner vs) b o 20 w (w.setCell ⟨b,o+12+1,none⟩ (.int .i64 (n:Int))):=(HC1.out.2.1.widen (by omega) (by omega)).subg _;have e2:=H4.out.2.2.widen (g':=Value.owner (.slice a t.length cp)++Value.owner vs) (fun x hx=>List.mem_append.2 (.inl hx)) (Nat.le_refl _) (Nat.le_refl _);exact(e1.tr e2).tr ((hS5.widen (by omega) (by omega)).subg _)
  have hown:∀k∈Value.owner (.slice a3 (t.length+1) c3),k∈Value.owner (.slice a t.length cp)∨w.heap.size≤k:=fun k hk=>(H4.out.2.1 k hk).imp id (fun h=>Nat.le_trans (by simp) h)
  have HLow:Low w0 w5 b vs:=H.out.1.of hS1.size rfl;have HF:=hid (fun x w' (h:GoM w0 w5 w' b o D (.slice a3 (t.length+1) c3) vs (bytP s m t n u y) x)=>(h.from_ hS1 hown:GoM w0 w w' b o D (.slice a t.length cp) vs (bytP s m t n u y) x));have HG:=hid hgo;have HC5:=hid (And.intro hc5 HLow);have hb:bytP s m t n u y=if mayH m n (zbq m u y)=true then goP s m (t++[y]) n (zbq m u y) else(.c (.bad 9),[]):=rfl
  clear hk5 hS5 hc5 hgo hS1 hown HLow HMY;have HBE:=hid hb;clear hb;cases hmh:mayH m n (zbq m u y) with
  | false =>
    have hb:bytP s m t n u y=(.c (.bad 9),[]):=by rw[HBE.out,hmh,if_neg (by decide)]
    have HB9:=hid hb;clear hb hmh;go_wp2;go_ret2;have hF:=HF.out (.slice none 0 0) w5;rw[HB9.out] at hF ⊢;exact⟨_,rfl,hF HG.out⟩
  | true =>
    have hb:bytP s m t n u y=goP s m (t++[y]) n (zbq m u y):=by rw[HBE.out,hmh,if_pos rfl]
    have HB9:=hid hb;have HGO:=hid (zrn (w0:=w0) HC5.out.1 HC5.out.2 H.out.2.1);clear hb hmh;(go_wp2_with fail);refine HGO.out.mono ?_;rintro r w' ⟨x,rfl,hR⟩;have HR:=hid hR;clear hR;go_wp2;go_ret2;have hF:=HF.out x w';rw[HB9.out] at hF ⊢;rw[zaak];exact⟨x,rfl,hF HR.out⟩
end
end Go.Proofs.YtpaciekgbhoncaaGreat
