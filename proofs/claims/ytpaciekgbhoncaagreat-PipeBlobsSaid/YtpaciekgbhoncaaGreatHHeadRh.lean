/-
  Parts: HeadRh.
-/
import Derived.Test.YtpaciekgbhoncaaGreatG0m
import Derived.Deep.RegionWith
open Go.Lib (hid)
namespace Go.Proofs.YtpaciekgbhoncaaGreat
section
open Go.RowKit
open Go.Lib
theorem zqj (v:Nat):bigB 1 v=[UInt8.ofNat v]:=by
 simp only[bigB,Nat.pow_zero,Nat.div_one];congr 1;apply UInt8.toNat_inj.1;simp
theorem zaka (v K:Nat) (hv:v<18446744073709551616) (h24:24≤v) (hK:K=0∧v<256∨K=1∧256≤v∧v<65536∨K=2∧65536≤v∧v<4294967296∨K=3∧4294967296≤v):sizH v=(2^K,24+K):=by
 rcases ztl v hv with ⟨h,e⟩|⟨h,e⟩|⟨h,e⟩|⟨h,e⟩|⟨h,e⟩ <;>rcases hK with hK|hK|hK|hK <;>first | omega|(obtain⟨rfl,_⟩:=hK;exact e)
theorem zae5 (v:Nat):∃K:Nat,K=0∧v<256∨K=1∧256≤v∧v<65536∨K=2∧65536≤v∧v<4294967296∨K=3∧4294967296≤v:=by
 by_cases h1:v<256
 ·exact⟨0,.inl ⟨rfl,h1⟩⟩
 ·by_cases h2:v<65536
  ·exact⟨1,by omega⟩
  ·by_cases h3:v<4294967296
   ·exact⟨2,by omega⟩
   ·exact⟨3,by omega⟩
theorem zo6 (l:List UInt8):(⟨l.toArray⟩:ByteArray).size=l.length:=rfl
end
end Go.Proofs.YtpaciekgbhoncaaGreat
