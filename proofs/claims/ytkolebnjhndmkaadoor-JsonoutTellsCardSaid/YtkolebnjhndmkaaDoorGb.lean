/-
  The shelf at this dump; CONTRACTS of decimal.Print, base.Put, escape.Write; of the document's own Base, Unbase.
-/
import Derived.Shelf.Strings.BuilderF
import Derived.Shelf.Strings.BuilderK
import Derived.Below
import Derived.Test.YtkolebnjhndmkaaDoorProg
import Derived.Shelf.Strings.Builder2
import Derived.Shelf.LaysM
import Derived.Shelf.Bits.Mul64
import Derived.Shelf.Spec.BitsCarry
import Derived.WalkKit
import Derived.WalkSpells
import Derived.BigCall
import Derived.BigGuard
import Derived.Test.YtkolebnjhndmkaaDoorGa
import Derived.Shelf.Small.Bits
import Derived.Shelf.Strconv.Itoa0
import Derived.Shelf.Strconv.Itoa1
import Derived.Shelf.Strconv.Itoa2
import Derived.Lib.ItoaMem
import Derived.Laws.RangeAny
import Derived.BigQuiet
import Derived.Lib.RuneBytes
import Derived.Deep.QuietTactic
import Derived.OwnWalk
/-
  THE SHELF AT THIS DUMP, IN PLAIN WORDS: strings.Builder (a new one, String): contracts that the kit's library proves once over any program; what is laid here is only the table of numbers.
-/
namespace Go.Proofs.YtkolebnjhndmkaaDoor
open Go.Shelf
open Go.RowKit
def lays169_ren : Go.Shelf.Ren := ⟨fun | 169 => 29 | n => n,
  fun | 0 => 0 | 3 => 3 | 5 => 5 | 9 => 9 | 37 => 70 | 70 => 73 | 72 => 75 | 127 => 95 | n => n, fun | n => n⟩
theorem lays169 : Go.Proofs.Lays.n169 Tryd.prog lays169_ren := {
  mixed := by kernel_rfl
  f169 := Tryd.func29.trans (congrArg some (by kernel_rfl))
  t0 := Tryd.underlying0
  a0 := Tryd.isAgg0
  z0 := Tryd.sizeOf0
  v0 := Tryd.zeroValue0
  t3 := Tryd.underlying3
  a3 := Tryd.isAgg3
  z3 := Tryd.sizeOf3
  v3 := Tryd.zeroValue3
  t9 := Tryd.underlying9
  a9 := Tryd.isAgg9
  z9 := Tryd.sizeOf9
  v9 := Tryd.zeroValue9
  t37 := Tryd.underlying70
  a37 := Tryd.isAgg70
  z37 := Tryd.sizeOf70
  v37 := Tryd.zeroValue70
  t70 := Tryd.underlying73
  a70 := Tryd.isAgg73
  z70 := Tryd.sizeOf73
  v70 := Tryd.zeroValue73
  t72 := Tryd.underlying75
  a72 := Tryd.isAgg75
  z72 := Tryd.sizeOf75
  v72 := Tryd.zeroValue75
  t127 := Tryd.underlying95
  a127 := Tryd.isAgg95
  z127 := Tryd.sizeOf95
  v127 := Tryd.zeroValue95 }
theorem builder_Extra169 : Builder.Extra Tryd.prog lays169_ren where
  sizeBuilder := by kernel_rfl
  liesBuilder := by kernel_rfl
  t5 := Tryd.underlying5
  a5 := Tryd.isAgg5
  z5 := Tryd.sizeOf5
  v5 := Tryd.zeroValue5
  infoByte := by kernel_rfl
  cellsByte := by kernel_rfl
  sizeByte := by kernel_rfl
  neB5 := by decide
/-- A Builder at block b (blocks from B on are its own) that holds bytes. -/
abbrev IsB (B b : Nat) (bs : List UInt8) (w : World) : Prop := Lib.IsBuilderF 75 5 B b (Lib.byteCells bs) w
/-- A new one. -/
theorem isB_new (B b : Nat) (w : World) (hB : B ≤ b) (h : w.heap[b]? = some (.cells #[.pointer none, .slice none 0 0] 75 (0, 0))) : IsB B b [] w :=
  .inl ⟨hB, .slice none 0 0, h, World.ownsRowF_nil _ _ _ _, by simp [Value.ownBlock]⟩
/-- String, by the shelf. -/
theorem sb_string (B b : Nat) (l : List UInt8) (w : World) (h : IsB B b l w) (hBw : B ≤ w.heap.size) :
    Calls Tryd.prog 29 #[.pointer (some ⟨b, 0, none⟩)] w fun e w' => e = .returned (.string ⟨l.toArray⟩) ∧ (IsB B b l w' ∧ Below B w w' ∧ Lib.OthersKept 5 (some b) w w') := Any.Builder_String_any_k lays169 builder_Extra169 B b l w h hBw
end Go.Proofs.YtkolebnjhndmkaaDoor
/-
  THE SHELF AT THIS DUMP, IN PLAIN WORDS: strings.Builder (Grow at a new one, WriteByte): contracts that the kit's library proves once over any program; what is laid here is only the table of numbers.
-/
namespace Go.Proofs.YtkolebnjhndmkaaDoor
open Go.Shelf
open Go.RowKit
def lays165_ren : Go.Shelf.Ren := ⟨fun | 165 => 63 | 240 => 47 | 241 => 68 | 276 => 56 | 277 => 74 | n => n,
  fun | 0 => 0 | 3 => 3 | 4 => 4 | 5 => 5 | 9 => 9 | 20 => 20 | 37 => 70 | 70 => 73 | 72 => 75 | 164 => 101 | n => n, fun | n => n⟩
theorem lays165 : Go.Proofs.Lays.n165 Tryd.prog lays165_ren := {
  mixed := by kernel_rfl
  f165 := Tryd.func63.trans (congrArg some (by kernel_rfl))
  f240 := Tryd.func47.trans (congrArg some (by kernel_rfl))
  f241 := Tryd.func68.trans (congrArg some (by kernel_rfl))
  f276 := Tryd.func56.trans (congrArg some (by kernel_rfl))
  f277 := Tryd.func74.trans (congrArg some (by kernel_rfl))
  t0 := Tryd.underlying0
  a0 := Tryd.isAgg0
  z0 := Tryd.sizeOf0
  v0 := Tryd.zeroValue0
  t3 := Tryd.underlying3
  a3 := Tryd.isAgg3
  z3 := Tryd.sizeOf3
  v3 := Tryd.zeroValue3
  t4 := Tryd.underlying4
  a4 := Tryd.isAgg4
  z4 := Tryd.sizeOf4
  v4 := Tryd.zeroValue4
  t9 := Tryd.underlying9
  a9 := Tryd.isAgg9
  z9 := Tryd.sizeOf9
  v9 := Tryd.zeroValue9
  t20 := Tryd.underlying20
  a20 := Tryd.isAgg20
  z20 := Tryd.sizeOf20
  v20 := Tryd.zeroValue20
  t37 := Tryd.underlying70
  a37 := Tryd.isAgg70
  z37 := Tryd.sizeOf70
  v37 := Tryd.zeroValue70
  t70 := Tryd.underlying73
  a70 := Tryd.isAgg73
  z70 := Tryd.sizeOf73
  v70 := Tryd.zeroValue73
  t72 := Tryd.underlying75
  a72 := Tryd.isAgg75
  z72 := Tryd.sizeOf75
  v72 := Tryd.zeroValue75
  t164 := Tryd.underlying101
  a164 := Tryd.isAgg101
  z164 := Tryd.sizeOf101
  v164 := Tryd.zeroValue101 }
theorem builder_Extra165 : Builder.Extra Tryd.prog lays165_ren where
  sizeBuilder := by kernel_rfl
  liesBuilder := by kernel_rfl
  t5 := Tryd.underlying5
  a5 := Tryd.isAgg5
  z5 := Tryd.sizeOf5
  v5 := Tryd.zeroValue5
  infoByte := by kernel_rfl
  cellsByte := by kernel_rfl
  sizeByte := by kernel_rfl
  neB5 := by decide
def lays167_ren : Go.Shelf.Ren := ⟨fun | 167 => 65 | 240 => 47 | 276 => 56 | n => n,
  fun | 0 => 0 | 4 => 4 | 5 => 5 | 9 => 9 | 20 => 20 | 37 => 70 | 70 => 73 | 72 => 75 | 75 => 78 | 80 => 76 | 164 => 101 | n => n, fun | n => n⟩
theorem lays167 : Go.Proofs.Lays.n167 Tryd.prog lays167_ren := {
  mixed := by kernel_rfl
  f167 := Tryd.func65.trans (congrArg some (by kernel_rfl))
  f240 := Tryd.func47.trans (congrArg some (by kernel_rfl))
  f276 := Tryd.func56.trans (congrArg some (by kernel_rfl))
  t0 := Tryd.underlying0
  a0 := Tryd.isAgg0
  z0 := Tryd.sizeOf0
  v0 := Tryd.zeroValue0
  t4 := Tryd.underlying4
  a4 := Tryd.isAgg4
  z4 := Tryd.sizeOf4
  v4 := Tryd.zeroValue4
  t5 := Tryd.underlying5
  a5 := Tryd.isAgg5
  z5 := Tryd.sizeOf5
  v5 := Tryd.zeroValue5
  t9 := Tryd.underlying9
  a9 := Tryd.isAgg9
  z9 := Tryd.sizeOf9
  v9 := Tryd.zeroValue9
  t20 := Tryd.underlying20
  a20 := Tryd.isAgg20
  z20 := Tryd.sizeOf20
  v20 := Tryd.zeroValue20
  t37 := Tryd.underlying70
  a37 := Tryd.isAgg70
  z37 := Tryd.sizeOf70
  v37 := Tryd.zeroValue70
  t70 := Tryd.underlying73
  a70 := Tryd.isAgg73
  z70 := Tryd.sizeOf73
  v70 := Tryd.zeroValue73
  t72 := Tryd.underlying75
  a72 := Tryd.isAgg75
  z72 := Tryd.sizeOf75
  v72 := Tryd.zeroValue75
  t75 := Tryd.underlying78
  a75 := Tryd.isAgg78
  z75 := Tryd.sizeOf78
  v75 := Tryd.zeroValue78
  t164 := Tryd.underlying101
  a164 := Tryd.isAgg101
  z164 := Tryd.sizeOf101
  v164 := Tryd.zeroValue101 }
theorem builder_Extra167 : Builder.Extra Tryd.prog lays167_ren where
  sizeBuilder := by kernel_rfl
  liesBuilder := by kernel_rfl
  t5 := Tryd.underlying5
  a5 := Tryd.isAgg5
  z5 := Tryd.sizeOf5
  v5 := Tryd.zeroValue5
  infoByte := by kernel_rfl
  cellsByte := by kernel_rfl
  sizeByte := by kernel_rfl
  neB5 := by decide
/-- Grow at a new one, by the shelf. -/
theorem sb_grow (B b n : Nat) (w : World) (hB : B ≤ b) (hbk : w.heap[b]? = some (.cells #[.pointer none, .slice none 0 0] 75 (0, 0))) (hBw : B ≤ w.heap.size) (hn : n ≤ 281474976710656) :
    Calls Tryd.prog 63 #[.pointer (some ⟨b, 0, none⟩), .int .i64 n] w fun e w' => e = .returned (.tuple #[]) ∧ (IsB B b [] w' ∧ Below B w w') := by
  refine (Any.Builder_Grow_fresh lays165 builder_Extra165 B b n w hB hbk hBw hn).mono ?_
  rintro e w' ⟨rfl, h1, h2⟩
  obtain ⟨a, v, h3, h4, h5⟩ := h1
  exact ⟨rfl, .inr ⟨a, v, h3, World.ownsRowF_of h4, h5⟩, h2⟩
/-- WriteByte, by the shelf. -/
theorem sb_byte (B b : Nat) (bs : List UInt8) (c : UInt8) (w : World) (h : IsB B b bs w) (hlen : bs.length + 1 ≤ 140737488355328) (hBw : B ≤ w.heap.size) :
    Calls Tryd.prog 65 #[.pointer (some ⟨b, 0, none⟩), .int .u8 c.toNat] w fun e w' => e = .returned .nilIface ∧ (IsB B b (bs ++ [c]) w' ∧ Below B w w' ∧ Lib.OthersKept 5 (some b) w w') := by
  refine (Any.Builder_WriteByte_k lays167 builder_Extra167 B b (Lib.byteCells bs) c.toNat w h (by rw [Lib.byteCells_length]; exact hlen) hBw).mono ?_
  rintro e w' ⟨rfl, h1, h2, h3⟩
  refine ⟨rfl, ?_, h2, h3⟩
  have : Lib.byteCells (bs ++ [c]) = Lib.byteCells bs ++ [.int .u8 c.toNat] := by
    rw [Lib.byteCells_append]
    rfl
  unfold IsB
  rw [this]
  exact .inr h1
end Go.Proofs.YtkolebnjhndmkaaDoor
/-
  THE SHELF AT THIS DUMP, IN PLAIN WORDS: strings.Builder (WriteString): contracts that the kit's library proves once over any program; what is laid here is only the table of numbers.
-/
namespace Go.Proofs.YtkolebnjhndmkaaDoor
open Go.Shelf
open Go.RowKit
def lays166_ren : Go.Shelf.Ren := ⟨fun | 166 => 30 | 240 => 47 | 276 => 56 | n => n,
  fun | 0 => 0 | 3 => 3 | 4 => 4 | 5 => 5 | 9 => 9 | 20 => 20 | 37 => 70 | 70 => 73 | 72 => 75 | 75 => 78 | 80 => 76 | 164 => 101 | n => n, fun | n => n⟩
theorem lays166 : Go.Proofs.Lays.n166 Tryd.prog lays166_ren := {
  mixed := by kernel_rfl
  f166 := Tryd.func30.trans (congrArg some (by kernel_rfl))
  f240 := Tryd.func47.trans (congrArg some (by kernel_rfl))
  f276 := Tryd.func56.trans (congrArg some (by kernel_rfl))
  t0 := Tryd.underlying0
  a0 := Tryd.isAgg0
  z0 := Tryd.sizeOf0
  v0 := Tryd.zeroValue0
  t3 := Tryd.underlying3
  a3 := Tryd.isAgg3
  z3 := Tryd.sizeOf3
  v3 := Tryd.zeroValue3
  t4 := Tryd.underlying4
  a4 := Tryd.isAgg4
  z4 := Tryd.sizeOf4
  v4 := Tryd.zeroValue4
  t9 := Tryd.underlying9
  a9 := Tryd.isAgg9
  z9 := Tryd.sizeOf9
  v9 := Tryd.zeroValue9
  t20 := Tryd.underlying20
  a20 := Tryd.isAgg20
  z20 := Tryd.sizeOf20
  v20 := Tryd.zeroValue20
  t37 := Tryd.underlying70
  a37 := Tryd.isAgg70
  z37 := Tryd.sizeOf70
  v37 := Tryd.zeroValue70
  t70 := Tryd.underlying73
  a70 := Tryd.isAgg73
  z70 := Tryd.sizeOf73
  v70 := Tryd.zeroValue73
  t72 := Tryd.underlying75
  a72 := Tryd.isAgg75
  z72 := Tryd.sizeOf75
  v72 := Tryd.zeroValue75
  t75 := Tryd.underlying78
  a75 := Tryd.isAgg78
  z75 := Tryd.sizeOf78
  v75 := Tryd.zeroValue78
  t164 := Tryd.underlying101
  a164 := Tryd.isAgg101
  z164 := Tryd.sizeOf101
  v164 := Tryd.zeroValue101 }
theorem builder_Extra166 : Builder.Extra Tryd.prog lays166_ren where
  sizeBuilder := by kernel_rfl
  liesBuilder := by kernel_rfl
  t5 := Tryd.underlying5
  a5 := Tryd.isAgg5
  z5 := Tryd.sizeOf5
  v5 := Tryd.zeroValue5
  infoByte := by kernel_rfl
  cellsByte := by kernel_rfl
  sizeByte := by kernel_rfl
  neB5 := by decide
/-- WriteString, by the shelf. -/
theorem sb_write (B b : Nat) (bs : List UInt8) (s : ByteArray) (w : World) (h : IsB B b bs w) (hlen : bs.length + s.size ≤ 140737488355328) (hBw : B ≤ w.heap.size) :
    Calls Tryd.prog 30 #[.pointer (some ⟨b, 0, none⟩), .string s] w fun e w' => e = .returned (.tuple #[.int .i64 s.size, .nilIface]) ∧ (IsB B b (bs ++ s.data.toList) w' ∧ Below B w w' ∧ Lib.OthersKept 5 (some b) w w') := by
  refine (Any.Builder_WriteString_k lays166 builder_Extra166 B b (Lib.byteCells bs) s w h (by rw [Lib.byteCells_length]; exact hlen) hBw).mono ?_
  rintro e w' ⟨rfl, h1, h2, h3⟩
  refine ⟨rfl, ?_, h2, h3⟩
  have : Lib.byteCells (bs ++ s.data.toList) = Lib.byteCells bs ++ Lib.strCells s := by
    rw [Lib.byteCells_append]
    rfl
  unfold IsB
  rw [this]
  exact .inr h1
end Go.Proofs.YtkolebnjhndmkaaDoor
/-
  THE SHELF AT THIS DUMP, IN PLAIN WORDS: math/bits.Mul64, Add64, Sub64.
-/
namespace Go.Proofs.YtkolebnjhndmkaaDoor
open Go.Shelf
def lays25_ren : Go.Shelf.Ren := ⟨fun | 25 => 60 | n => n, fun | 22 => 32 | n => n, fun | n => n⟩
theorem lays25 : Go.Proofs.Lays7.n25 Tryd.prog lays25_ren := {
  mixed := by kernel_rfl
  f25 := Tryd.func60.trans (congrArg some (by kernel_rfl))
  t22 := Tryd.underlying32
  a22 := Tryd.isAgg32
  z22 := Tryd.sizeOf32
  v22 := Tryd.zeroValue32
  i22 := by kernel_rfl }
theorem run_add64 (x y c : Nat) (hc : c ≤ 1) (w : World) : (callFunc 60 #[.int .u64 x, .int .u64 y, .int .u64 c]).run Tryd.prog w =
      .ok (.value (.tuple #[.int .u64 (((x + y + c) % 18446744073709551616 : Nat) : Int), .int .u64 (((x + y + c) / 18446744073709551616 : Nat) : Int)])) w := Any7.bits_Add64 lays25 x y c hc w
theorem below_dr {B : Nat} {w w' : World} (h : Go.RowKit.Below B w w') (q : Nat) : Go.RowKit.Below B w (w'.drewN q) := ⟨h.os, h.tape, h.output, h.size, h.block⟩
end Go.Proofs.YtkolebnjhndmkaaDoor
/-
  THE SHELF AT THIS DUMP, IN PLAIN WORDS: contracts of library functions that the kit proves once over any program; what is laid here is only the table of numbers.
-/
namespace Go.Proofs.YtkolebnjhndmkaaDoor
open Go.Shelf
def lays134_ren : Go.Shelf.Ren := ⟨fun | 134 => 67 | 129 => 73 | n => n, fun | 53 => 32 | 3 => 3 | 4 => 4 | 46 => 84 | 5 => 5 | 9 => 9 | n => n, fun | n => n⟩
theorem lays134 : Go.Proofs.Lays.n134 Tryd.prog lays134_ren := {
  mixed := by kernel_rfl
  f129 := Tryd.func73.trans (congrArg some (by kernel_rfl))
  f134 := Tryd.func67.trans (congrArg some (by kernel_rfl))
  t3 := Tryd.underlying3
  a3 := Tryd.isAgg3
  z3 := Tryd.sizeOf3
  v3 := Tryd.zeroValue3
  t4 := Tryd.underlying4
  a4 := Tryd.isAgg4
  z4 := Tryd.sizeOf4
  v4 := Tryd.zeroValue4
  t5 := Tryd.underlying5
  a5 := Tryd.isAgg5
  z5 := Tryd.sizeOf5
  v5 := Tryd.zeroValue5
  t9 := Tryd.underlying9
  a9 := Tryd.isAgg9
  z9 := Tryd.sizeOf9
  v9 := Tryd.zeroValue9
  t46 := Tryd.underlying84
  a46 := Tryd.isAgg84
  z46 := Tryd.sizeOf84
  v46 := Tryd.zeroValue84
  t53 := Tryd.underlying32
  a53 := Tryd.isAgg32
  z53 := Tryd.sizeOf32
  v53 := Tryd.zeroValue32 }
theorem bits_LeadingZeros64 (x : Int) (w : World) (h0 : 0 ≤ x) (h1 : x ≤ 18446744073709551615) :
    Calls Tryd.prog 67 #[.int .u64 x] w fun e w' => e = .returned (.int .i64 (64 - (Lib.bitLen x.toNat : Int))) ∧ w' = w := Any.bits_LeadingZeros64 lays134 x w h0 h1
def lays283_ren : Go.Shelf.Ren := ⟨fun | 283 => 69 | n => n, fun | 3 => 3 | 9 => 9 | 4 => 4 | n => n, fun | n => n⟩
theorem lays283 : Go.Proofs.Lays.n283 Tryd.prog lays283_ren := {
  mixed := by kernel_rfl
  f283 := Tryd.func69.trans (congrArg some (by kernel_rfl))
  t3 := Tryd.underlying3
  a3 := Tryd.isAgg3
  z3 := Tryd.sizeOf3
  v3 := Tryd.zeroValue3
  t4 := Tryd.underlying4
  a4 := Tryd.isAgg4
  z4 := Tryd.sizeOf4
  v4 := Tryd.zeroValue4
  t9 := Tryd.underlying9
  a9 := Tryd.isAgg9
  z9 := Tryd.sizeOf9
  v9 := Tryd.zeroValue9 }
open Go.Lib in
theorem internal_strconv_small (i : Nat) (h : i < 100) (w : World) :
    Calls Tryd.prog 69 #[.int .i64 i] w fun e w' => e = .returned (.string ⟨(Lib.decDigits i).toArray⟩) ∧ w' = w := Any.internal_strconv_small lays283 i h w
def laysM284_ren : Go.Shelf.Ren := ⟨fun | 284 => 70 | 129 => 73 | 317 => 75 | 318 => 76 | n => n, fun | 53 => 32 | 3 => 3 | 212 => 116 | 0 => 0 | 4 => 4 | 46 => 84 | 5 => 5 | 9 => 9 | n => n, fun | 17 => 2 | n => n⟩
theorem laysM284 : Go.Proofs.LaysM.n284 Tryd.prog laysM284_ren := {
  mixed := by kernel_rfl
  f129 := Tryd.func73.trans (congrArg some (by kernel_rfl))
  f284 := Tryd.func70.trans (congrArg some (by kernel_rfl))
  f317 := Tryd.func75.trans (congrArg some (by kernel_rfl))
  f318 := Tryd.func76.trans (congrArg some (by kernel_rfl))
  t0 := Tryd.underlying0
  a0 := Tryd.isAgg0
  z0 := Tryd.sizeOf0
  v0 := Tryd.zeroValue0
  t3 := Tryd.underlying3
  a3 := Tryd.isAgg3
  z3 := Tryd.sizeOf3
  v3 := Tryd.zeroValue3
  t4 := Tryd.underlying4
  a4 := Tryd.isAgg4
  z4 := Tryd.sizeOf4
  v4 := Tryd.zeroValue4
  t5 := Tryd.underlying5
  a5 := Tryd.isAgg5
  z5 := Tryd.sizeOf5
  v5 := Tryd.zeroValue5
  t9 := Tryd.underlying9
  a9 := Tryd.isAgg9
  z9 := Tryd.sizeOf9
  v9 := Tryd.zeroValue9
  t46 := Tryd.underlying84
  a46 := Tryd.isAgg84
  z46 := Tryd.sizeOf84
  v46 := Tryd.zeroValue84
  t53 := Tryd.underlying32
  a53 := Tryd.isAgg32
  z53 := Tryd.sizeOf32
  v53 := Tryd.zeroValue32
  t212 := Tryd.underlying116
  a212 := Tryd.isAgg116
  z212 := Tryd.sizeOf116
  v212 := Tryd.zeroValue116
  g17 := by kernel_rfl
  i0 := by kernel_rfl
  i3 := by kernel_rfl
  i4 := by kernel_rfl
  i5 := by kernel_rfl
  i9 := by kernel_rfl
  i46 := by kernel_rfl
  i53 := by kernel_rfl
  i212 := by kernel_rfl
  m17 := by kernel_rfl }
open Go.Lib in
theorem internal_strconv_numDigits (u : Nat) (h1 : 1 ≤ u) (h2 : u < 18446744073709551616) (w : World) (htab : Lib.TabIs Tryd.prog w "internal/strconv.uint64pow10" .u64 Lib.pow10Tab) :
    Calls Tryd.prog 70 #[.int .u64 u] w fun e w' => e = .returned (.int .i64 (Lib.nDigits u)) ∧ w' = w := Any.internal_strconv_numDigits laysM284 u h1 h2 w htab
def lays285_ren : Go.Shelf.Ren := ⟨fun | 285 => 71 | n => n, fun | 37 => 70 | 53 => 32 | 3 => 3 | 4 => 4 | 51 => 117 | 9 => 9 | 5 => 5 | 0 => 0 | n => n, fun | n => n⟩
theorem lays285 : Go.Proofs.Lays.n285 Tryd.prog lays285_ren := {
  mixed := by kernel_rfl
  f285 := Tryd.func71.trans (congrArg some (by kernel_rfl))
  t0 := Tryd.underlying0
  a0 := Tryd.isAgg0
  z0 := Tryd.sizeOf0
  v0 := Tryd.zeroValue0
  t3 := Tryd.underlying3
  a3 := Tryd.isAgg3
  z3 := Tryd.sizeOf3
  v3 := Tryd.zeroValue3
  t4 := Tryd.underlying4
  a4 := Tryd.isAgg4
  z4 := Tryd.sizeOf4
  v4 := Tryd.zeroValue4
  t5 := Tryd.underlying5
  a5 := Tryd.isAgg5
  z5 := Tryd.sizeOf5
  v5 := Tryd.zeroValue5
  t9 := Tryd.underlying9
  a9 := Tryd.isAgg9
  z9 := Tryd.sizeOf9
  v9 := Tryd.zeroValue9
  t37 := Tryd.underlying70
  a37 := Tryd.isAgg70
  z37 := Tryd.sizeOf70
  v37 := Tryd.zeroValue70
  t51 := Tryd.underlying117
  a51 := Tryd.isAgg117
  z51 := Tryd.sizeOf117
  v51 := Tryd.zeroValue117
  t53 := Tryd.underlying32
  a53 := Tryd.isAgg32
  z53 := Tryd.sizeOf32
  v53 := Tryd.zeroValue32 }
open Go.RowKit Go.Sort Go.Lib in
theorem internal_strconv_formatBase10 (blk off cap : Nat) (u : Nat) (d : Array UInt8) (w : World) (hH : Holds (fun (b : UInt8) => Value.int .u8 (b.toNat : Int)) w blk off d) (hu : u < 10 ^ d.size) (hu64 : u < 18446744073709551616) (hsz : d.size < 4611686018427387904) :
    Calls Tryd.prog 71 #[.slice (some ⟨blk, off, none⟩) d.size cap, .int .u64 u] w fun e w' =>
      e = .returned (.tuple #[]) ∧ ∃ (n v' : Nat) (dk : Array UInt8), w' = (putRow (fun (b : UInt8) => Value.int .u8 (b.toNat : Int)) w blk off dk).drewN n ∧ FmtInv d.size u 0 v' dk := Any.internal_strconv_formatBase10 lays285 blk off cap u d w hH hu hu64 hsz
end Go.Proofs.YtkolebnjhndmkaaDoor
/-
  CONTRACTS of strconv.FormatUint at base 10, by the shelf's contracts of what it calls: the number's digits.
-/
namespace Go.Proofs.YtkolebnjhndmkaaDoor
open Go.RowKit Go.Sort
open Go.Lib
/-- The table of powers of ten is as the program lays it. -/
def Tab (w : World) : Prop := Lib.TabIs Tryd.prog w "internal/strconv.uint64pow10" .u64 Lib.pow10Tab
theorem Tab.lt {w : World} (h : Tab w) : ∃ g, Tryd.prog.globalNamed "internal/strconv.uint64pow10" = some g ∧ g < w.heap.size := by
  unfold Tab Lib.TabIs World.var? at h
  cases hg : Tryd.prog.globalNamed "internal/strconv.uint64pow10" with
  | none => simp [hg] at h
  | some g =>
    refine ⟨g, rfl, ?_⟩
    simp only [hg, Option.bind_some] at h
    rcases Nat.lt_or_ge g w.heap.size with h' | h'
    · exact h'
    · rw [Array.getElem?_eq_none h'] at h; simp at h
theorem Tab.of {w w' : World} (h : Tab w) (hk : ∀ g, Tryd.prog.globalNamed "internal/strconv.uint64pow10" = some g → w'.heap[g]? = w.heap[g]?) : Tab w' := by
  obtain ⟨g, hg, _⟩ := h.lt
  have e := hk g hg
  unfold Tab Lib.TabIs World.var? at *
  simp only [hg, Option.bind_some] at h ⊢
  rw [e]
  exact h
theorem Tab.below {w w' : World} (h : Tab w) (hb : Below w.heap.size w w') : Tab w' := by
  obtain ⟨g, hg, hl⟩ := h.lt
  refine h.of fun g' hg' => ?_
  rw [hg] at hg'
  cases hg'
  exact hb.block g hl
theorem Tab.alloc {w : World} (h : Tab w) (o : Obj) : Tab (w.alloc o) := Lib.tabIs_alloc h o
theorem Tab.drewN {w : World} (h : Tab w) (q : Nat) : Tab (w.drewN q) := h
theorem Tab.drew {w : World} (h : Tab w) : Tab w.drew := h
theorem holds_zero0 (w : World) (T : TypeId) (nd : Nat) (hs : nd ≤ 24) : Holds (fun (b : UInt8) => Value.int .u8 (b.toNat : Int)) (w.alloc (.cells Lib.zeros24 T)) w.heap.size 0 (Array.replicate nd (0 : UInt8)) := fun j hj => by
  have hj' : j < nd := by simpa using hj
  refine ⟨?_, World.frozen?_alloc_new _ _ _ _⟩
  rw [World.cell?_alloc_new, Lib.zeros24_at _ (by omega), getElem!_pos _ j hj]
  simp
theorem below_grow (w : World) (os : Array Obj) (k : Nat) : Below w.heap.size w ((grow w os).drewN k) :=
  ⟨rfl, rfl, rfl, by simp [grow], fun i hi => by
    show (w.heap ++ os)[i]? = w.heap[i]?
    rw [Array.getElem?_append_left hi]⟩
theorem below_putRow (w : World) (o : Obj) (dk : Array UInt8) (k : Nat) : Below w.heap.size w ((putRow (fun (b : UInt8) => Value.int .u8 (b.toNat : Int)) (w.alloc o) w.heap.size 0 dk).drewN k) := by
  rw [alloc_eq_grow]
  obtain ⟨os', _, e⟩ := putRow_grow_new (fun (b : UInt8) => Value.int .u8 (b.toNat : Int)) w #[o] w.heap.size 0 dk (Nat.le_refl _)
  rw [e]
  exact below_grow w os' k
set_option maxHeartbeats 1000000 in
set_option maxRecDepth 100000 in
theorem fmtIn (u : Nat) (hu : u < 18446744073709551616) (w : World) (hT : Tab w) :
    Calls Tryd.prog 66 #[.int .u64 u, .int .i64 10] w fun e w' => e = .returned (.string ⟨(decDigits u).toArray⟩) ∧ Below w.heap.size w w' := by
  by_cases hs : (u : Int) < 100
  · have hwr : IntKind.i64.wrap (u : Int) = (u : Int) := by have := IntKind.wrap_i64 (u : Int); omega
    go_enter Tryd.func66, Tryd.ntmps66
    go_wp2_with (go_at_call 69; refine (internal_strconv_small u (by omega) _).mono ?_; rintro e w' ⟨rfl, rfl⟩)
    go_ret
    exact ⟨rfl, Below.refl _ _⟩
  · have hu1 : 1 ≤ u := by omega
    have hnd : nDigits u ≤ 20 := nDigits_le u (by omega)
    have hal : Tryd.prog.arrayLen 110 = 24 := by kernel_rfl
    have hsl : ∀ W, (Instr.sliceAt 110 (.pointer (some ⟨w.heap.size, 0, none⟩)) none (some (.int .i64 (nDigits u : Int))) none).run Tryd.prog W = .ok (.slice (some ⟨w.heap.size, 0, none⟩) (nDigits u) 24) W := fun W => by
      rw [run_sliceAt_array_h W 110 ⟨w.heap.size, 0, none⟩ Tryd.underlying110 .i64 (nDigits u : Int) (by omega) (by rw [hal]; omega)]
      go_simp
    have hH0 := holds_zero0 w 110 (nDigits u) (by omega)
    have hfmt := internal_strconv_formatBase10 w.heap.size 0 24 u (Array.replicate (nDigits u) 0) (w.alloc (.cells Lib.zeros24 110)) hH0 (by rw [Array.size_replicate]; exact lt_pow_nDigits u) hu (by rw [Array.size_replicate]; omega)
    rw [Array.size_replicate] at hfmt
    have HH0 := Lib.hid hH0
    clear hH0 hal
    go_enter Tryd.func66, Tryd.ntmps66
    go_wp2_with (first
      | (go_at_call 70; refine (internal_strconv_numDigits u hu1 hu _ (Lib.tabIs_alloc hT _)).mono ?_; rintro e w' ⟨rfl, rfl⟩))
    go_at_call 71
    refine hfmt.mono ?_
    rintro e w' ⟨rfl, k, v', dk, rfl, hF⟩
    have hcv : (convert 70 9 (.slice (some ⟨w.heap.size, 0, none⟩) (nDigits u) 24)).run Tryd.prog ((putRow (fun (b : UInt8) => Value.int .u8 (b.toNat : Int)) (w.alloc (.cells Lib.zeros24 110)) w.heap.size 0 dk).drewN k) = .ok (.string ⟨(decDigits u).toArray⟩) ((putRow (fun (b : UInt8) => Value.int .u8 (b.toNat : Int)) (w.alloc (.cells Lib.zeros24 110)) w.heap.size 0 dk).drewN k) := by
      have h := run_convert_bytes_back (P := Tryd.prog) ((putRow (fun (b : UInt8) => Value.int .u8 (b.toNat : Int)) (w.alloc (.cells Lib.zeros24 110)) w.heap.size 0 dk).drewN k) 70 9 5 ⟨w.heap.size, 0, none⟩ 24 (decDigits u) Tryd.underlying70 Tryd.underlying5 Tryd.underlying9 (fun j hj => by
        rw [Lib.row_is_numeral hF j hj, Lib.add_plain, World.cell?_drewN]
        exact cell?_putRow (fun (b : UInt8) => Value.int .u8 (b.toNat : Int)) _ w.heap.size 0 _ dk HH0.out (by rw [hF.size, Array.size_replicate]) j (by rw [hF.size]; rw [Lib.decDigits_length] at hj; exact hj))
      rw [Lib.decDigits_length] at h
      exact h
    have hB := Lib.hid (below_putRow w (.cells Lib.zeros24 110) dk k)
    go_wp2
    go_ret
    exact ⟨rfl, hB.out⟩
/-- strconv.FormatUint at base 10. -/
theorem fmt_any (u : Nat) (hu : u < 18446744073709551616) (w : World) (hT : Tab w) :
    Calls Tryd.prog 59 #[.int .u64 u, .int .i64 10] w fun e w' => e = .returned (.string ⟨(decDigits u).toArray⟩) ∧ Below w.heap.size w w' := by
  go_enter Tryd.func59, Tryd.ntmps59
  go_wp2_with (go_at_call 66; refine (fmtIn u hu _ hT).mono ?_; rintro e w' ⟨rfl, hB⟩)
  go_ret
  exact ⟨rfl, hB⟩
end Go.Proofs.YtkolebnjhndmkaaDoor
/-
  CONTRACT of math/bits.Div64 where decimal.Print calls it.
-/
namespace Go.Proofs.YtkolebnjhndmkaaDoor
open Go.RowKit
open Go.Lib
set_option maxHeartbeats 1000000 in
theorem div_small (u : Nat) (hu : u < 18446744073709551616) (w : World) :
    Calls Tryd.prog 61 #[.int .u64 0, .int .u64 u, .int .u64 10] w fun e w' => e = .returned (.tuple #[.int .u64 ((u / 10 : Nat) : Int), .int .u64 ((u % 10 : Nat) : Int)]) ∧ ∃ q, w' = w.drewN q := by
  go_enter Tryd.func61, Tryd.ntmps61
  go_wp2
  go_quiet (fail)
  go_wp2
  go_ret2
  exact ⟨by simp, _, rfl⟩
theorem lz10 (w : World) : Calls Tryd.prog 67 #[.int .u64 10] w fun e w' => e = .returned (.int .i64 60) ∧ w' = w := by
  have h := bits_LeadingZeros64 10 w (by omega) (by omega)
  rw [show (64 - (Lib.bitLen (10 : Int).toNat : Int)) = 60 by decide] at h
  exact h
set_option maxHeartbeats 1000000 in
set_option maxRecDepth 100000 in
theorem div_big (w : World) :
    Calls Tryd.prog 61 #[.int .u64 1, .int .u64 0, .int .u64 10] w fun e w' => e = .returned (.tuple #[.int .u64 1844674407370955161, .int .u64 6]) ∧ w' = w := by
  have b1 : bits .and .u64 11529215046068469760 4294967295 = 0 := by decide
  have b2 : bits .or .u64 1152921504606846976 0 = 1152921504606846976 := by decide
  have b3 : bits .and .u64 0 4294967295 = 0 := by decide
  go_enter Tryd.func61, Tryd.ntmps61
  go_wp2_with (go_at_call 67; refine (lz10 _).mono ?_; rintro e w' ⟨rfl, rfl⟩)
  refine wp_loop_once ?_
  go_wp2
  refine wp_loop_once ?_
  go_wp2
  go_ret2
  exact ⟨rfl, rfl⟩
end Go.Proofs.YtkolebnjhndmkaaDoor
/-
  CONTRACT of decimal.Print: a number's digits, a minus ahead of one below 0.
-/
namespace Go.Proofs.YtkolebnjhndmkaaDoor
open Go.RowKit
open Go.Lib
/-- What stands behind the minus. -/
def negD (t o : Nat) : List UInt8 := (if t = 0 then [] else decDigits t) ++ decDigits o
theorem negD_eq (u : Nat) : negD (u / 10) (u % 10) = decDigits u := by
  unfold negD
  rw [decDigits_one (i := u % 10) (by omega)]
  split
  · rename_i h
    rw [decDigits_one (i := u) (by omega), show u % 10 = u by omega]
    rfl
  · rw [← dec_big (by omega)]
set_option maxHeartbeats 1000000 in
theorem print_pos (u : Nat) (hu : u < 18446744073709551616) (w : World) (hT : Tab w) :
    Calls Tryd.prog 51 #[.agg #[.bool false, .int .u64 u]] w fun e w' => e = .returned (.string ⟨(decDigits u).toArray⟩) ∧ Below w.heap.size w w' := by
  have HT := Lib.hid (hT.alloc (.cells #[.bool false, .int .u64 u] 62))
  have HB := Lib.hid ((Below.refl w.heap.size w).alloc (Nat.le_refl _) (.cells #[.bool false, .int .u64 u] 62))
  go_enter Tryd.func51, Tryd.ntmps51
  go_wp2_with (go_at_call 59; refine (fmt_any u hu _ HT.out).mono ?_; rintro e w' ⟨rfl, hB⟩)
  go_ret
  exact ⟨rfl, HB.out.trans (hB.mono (by simp))⟩
set_option maxHeartbeats 1000000 in
theorem print_neg (u lo hi t o : Nat) (ht : t < 18446744073709551616) (ho : o < 10) (w : World) (hT : Tab w)
    (hA : ∀ W, (callFunc 60 #[.int .u64 u, .int .u64 1, .int .u64 0]).run Tryd.prog W = .ok (.value (.tuple #[.int .u64 lo, .int .u64 hi])) W)
    (hD : ∀ W, Calls Tryd.prog 61 #[.int .u64 hi, .int .u64 lo, .int .u64 10] W fun e w' => e = .returned (.tuple #[.int .u64 t, .int .u64 o]) ∧ ∃ q, w' = W.drewN q) :
    Calls Tryd.prog 51 #[.agg #[.bool true, .int .u64 u]] w fun e w' => e = .returned (.string ⟨(45 :: negD t o).toArray⟩) ∧ Below w.heap.size w w' := by
  have HT := Lib.hid (hT.alloc (.cells #[.bool true, .int .u64 u] 62))
  have HB := Lib.hid ((Below.refl w.heap.size w).alloc (Nat.le_refl _) (.cells #[.bool true, .int .u64 u] 62))
  have HA := Lib.hid hA
  clear hA
  have ld : ∀ n, n < 18446744073709551616 → (⟨(decDigits n).toArray⟩ : ByteArray).size ≤ 20 := fun n h => by
    rw [size_of, decDigits_length]
    exact nDigits_le n (by omega)
  obtain ⟨Y, hY⟩ : ∃ Y : ByteArray, Y = ⟨(decDigits o).toArray⟩ := ⟨_, rfl⟩
  have hYs : Y.size ≤ 20 := by rw [hY]; exact ld o (by omega)
  by_cases h0 : t = 0
  · have hn : negD t o = decDigits o := by unfold negD; rw [if_pos h0]; rfl
    rw [hn]
    subst h0
    have hz : (((0 : Nat) : Int) != 0) = false := rfl
    have hr : (⟨#[45]⟩ : ByteArray) ++ Y = ⟨(45 :: decDigits o).toArray⟩ := by rw [hY]; exact cat_of [45] _
    have HR := Lib.hid hr
    have HY := Lib.hid hY
    clear hr hY hn ld
    go_enter Tryd.func51, Tryd.ntmps51
    go_wp2_with (simp only [HA.out])
    refine (hD _).mono ?_
    rintro e w1 ⟨rfl, q, rfl⟩
    go_wp2_with fail
    refine (fmt_any o (by omega) _ (HT.out.drewN q)).mono ?_
    rintro e w2 ⟨rfl, hB⟩
    rw [← HY.out]
    have HB2 := Lib.hid ((below_dr HB.out q).trans ((hB.mono (by simp)) : Below w.heap.size _ w2))
    clear hB
    go_wp2
    go_ret
    exact ⟨congrArg (fun s => Ending.returned (Value.string s)) HR.out, HB2.out⟩
  · have hn : negD t o = decDigits t ++ decDigits o := by unfold negD; rw [if_neg h0]
    rw [hn]
    have hz : ((t : Int) != 0) = true := by simp; omega
    obtain ⟨X, hX⟩ : ∃ X : ByteArray, X = ⟨(decDigits t).toArray⟩ := ⟨_, rfl⟩
    have hXs : X.size ≤ 20 := by rw [hX]; exact ld t ht
    have hr : (⟨#[45]⟩ : ByteArray) ++ X ++ Y = ⟨(45 :: (decDigits t ++ decDigits o)).toArray⟩ := by
      rw [hX, hY, show (⟨#[45]⟩ : ByteArray) = ⟨[45].toArray⟩ from rfl, cat_of, cat_of]
      rfl
    have hs : ((⟨#[45]⟩ : ByteArray) ++ X).size ≤ 21 := by
      rw [ByteArray.size_append]
      show 1 + X.size ≤ 21
      omega
    obtain ⟨Z, hZ⟩ : ∃ Z : ByteArray, (⟨#[45]⟩ : ByteArray) ++ X = Z := ⟨_, rfl⟩
    rw [hZ] at hr hs
    have HR := Lib.hid hr
    have HX := Lib.hid hX
    have HY := Lib.hid hY
    have HZ := Lib.hid hZ
    clear hr hX hY hZ hn ld
    go_enter Tryd.func51, Tryd.ntmps51
    go_wp2_with (simp only [HA.out])
    refine (hD _).mono ?_
    rintro e w1 ⟨rfl, q, rfl⟩
    go_wp2_with fail
    refine (fmt_any t ht _ (HT.out.drewN q)).mono ?_
    rintro e w2 ⟨rfl, hB⟩
    rw [← HX.out]
    have HT2 := Lib.hid (Tab.below (w := ((w.alloc (.cells #[.bool true, .int .u64 u] 62)).drewN q)) (HT.out.drewN q) hB)
    have HB2 := Lib.hid ((below_dr HB.out q).trans ((hB.mono (by simp)) : Below w.heap.size _ w2))
    clear hB
    go_wp2_with fail
    refine (fmt_any o (by omega) _ HT2.out).mono ?_
    rintro e w3 ⟨rfl, hB⟩
    rw [← HY.out]
    have HB3 := Lib.hid (HB2.out.trans (hB.mono HB2.out.size))
    clear hB
    have hZ := HZ.out
    go_wp2
    go_ret
    exact ⟨congrArg (fun s => Ending.returned (Value.string s)) HR.out, HB3.out⟩
/-- PRINT. -/
theorem print_any (m : Bool) (u : Nat) (hu : u < 18446744073709551616) (w : World) (hT : Tab w) :
    Calls Tryd.prog 51 #[.agg #[.bool m, .int .u64 u]] w fun e w' => e = .returned (.string ⟨(printD (m, u)).toArray⟩) ∧ Below w.heap.size w w' := by
  cases m with
  | false => exact print_pos u hu w hT
  | true =>
    show Calls _ _ _ _ fun e w' => e = .returned (.string ⟨(45 :: decDigits (u + 1)).toArray⟩) ∧ _
    rw [← negD_eq]
    by_cases hm : u = 18446744073709551615
    · subst hm
      refine print_neg 18446744073709551615 0 1 ((18446744073709551615 + 1) / 10) ((18446744073709551615 + 1) % 10) (by decide) (by decide) w hT (fun W => run_add64 18446744073709551615 1 0 (by decide) W) fun W => ?_
      refine (div_big W).mono ?_
      rintro e w' ⟨rfl, rfl⟩
      exact ⟨rfl, 0, rfl⟩
    · refine print_neg u (u + 1) 0 ((u + 1) / 10) ((u + 1) % 10) (by omega) (by omega) w hT (fun W => ?_) fun W => div_small (u + 1) (by omega) W
      have h := run_add64 u 1 0 (by decide) W
      rw [show (u + 1 + 0) % 18446744073709551616 = u + 1 by omega, show (u + 1 + 0) / 18446744073709551616 = 0 by omega] at h
      exact h
end Go.Proofs.YtkolebnjhndmkaaDoor
namespace Go.Proofs.YtkolebnjhndmkaaDoor
open Go.RowKit
open Go.Lib
def lenS (n : Int) : Int := if n < 0 ∨ 1000000 < n then 0 else (4 * n + 2) / 3
theorem lenS_no (n : Int) (h : n < 0 ∨ 1000000 < n) : lenS n = 0 := by unfold lenS; rw [if_pos h]
theorem lenS_is (n : Int) (h0 : 0 ≤ n) (h1 : n ≤ 1000000) : lenS n = (n * 8 + 6 - 1) / 6 := by unfold lenS; rw [if_neg (by omega)]; omega
set_option maxHeartbeats 1000000 in
theorem len_any (n : Int) (w : World) :
    Calls Tryd.prog 64 #[.int .i64 n] w fun e w' => e = .returned (.int .i64 (lenS n)) ∧ w = w' := by
  have H1 := Lib.hid (lenS_no n)
  have H2 := Lib.hid (lenS_is n)
  generalize lenS n = z at *
  go_enter Tryd.func64, Tryd.ntmps64
  go_wp2
  all_goals go_ret
  all_goals first
    | exact ⟨by rw [H1.out (by omega)]; rfl, rfl⟩
    | exact ⟨by rw [H2.out (by omega) (by omega)]; rfl, rfl⟩
theorem valS_a (r : Nat) (h : 65 ≤ (r : Int)) (h1 : (r : Int) ≤ 90) : ((valS r).isSome = true) ∧ (((valS r).getD 0 : Nat) : Int) = (r : Int) - 65 := by
  have : valS r = some (r - 65) := by unfold valS; rw [if_pos (by omega)]
  rw [this]
  exact ⟨rfl, by show ((r - 65 : Nat) : Int) = _; omega⟩
theorem valS_b (r : Nat) (h : 97 ≤ (r : Int)) (h1 : (r : Int) ≤ 122) : ((valS r).isSome = true) ∧ (((valS r).getD 0 : Nat) : Int) = (r : Int) - 97 + 26 := by
  have : valS r = some (r - 71) := by unfold valS; rw [if_neg (by omega), if_pos (by omega)]
  rw [this]
  exact ⟨rfl, by show ((r - 71 : Nat) : Int) = _; omega⟩
theorem valS_c (r : Nat) (h : 48 ≤ (r : Int)) (h1 : (r : Int) ≤ 57) : ((valS r).isSome = true) ∧ (((valS r).getD 0 : Nat) : Int) = (r : Int) - 48 + 52 := by
  have : valS r = some (r + 4) := by unfold valS; rw [if_neg (by omega), if_neg (by omega), if_pos (by omega)]
  rw [this]
  exact ⟨rfl, by show ((r + 4 : Nat) : Int) = _; omega⟩
theorem valS_d (r : Nat) (h : ((r : Int) == 45) = true) : ((valS r).isSome = true) ∧ (((valS r).getD 0 : Nat) : Int) = 62 := by
  have h : r = 45 := by have := eq_of_beq h; omega
  rw [h]
  exact ⟨rfl, rfl⟩
theorem valS_e (r : Nat) (h : ((r : Int) == 95) = true) : ((valS r).isSome = true) ∧ (((valS r).getD 0 : Nat) : Int) = 63 := by
  have h : r = 95 := by have := eq_of_beq h; omega
  rw [h]
  exact ⟨rfl, rfl⟩
theorem valS_f (r : Nat) (h0 : (r : Int) < 65 ∨ 90 < (r : Int)) (h1 : (r : Int) < 97 ∨ 122 < (r : Int)) (h2 : (r : Int) < 48 ∨ 57 < (r : Int)) (h3 : ((r : Int) == 45) = false) (h4 : ((r : Int) == 95) = false) : ((valS r).isSome = false) ∧ (((valS r).getD 0 : Nat) : Int) = 0 := by
  have h3 := ne_of_beq_false h3
  have h4 := ne_of_beq_false h4
  have : valS r = none := by unfold valS; rw [if_neg (by omega), if_neg (by omega), if_neg (by omega), if_neg (by omega), if_neg (by omega)]
  rw [this]
  exact ⟨rfl, rfl⟩
theorem len_nat (n : Nat) (h : n ≤ 1000000) (w : World) :
    Calls Tryd.prog 64 #[.int .i64 (n : Int)] w fun e w' => e = .returned (.int .i64 (((4 * n + 2) / 3 : Nat) : Int)) ∧ w = w' := by
  have h := len_any (n : Int) w
  rw [show lenS (n : Int) = (((4 * n + 2) / 3 : Nat) : Int) by unfold lenS; rw [if_neg (by omega)]; omega] at h
  exact h
structure PutI (B : Nat) (w wr : World) (m : Nat) (k : Nat) (a : List UInt8) : Prop where
  bld : IsB B B a wr
  below : Below B w wr
  sz : B ≤ wr.heap.size
  len : 6 * a.length + m = 8 * k
structure PutR (l : List UInt8) (h m k : Nat) (a : List UInt8) : Prop where
  eq : runP (0, 0, []) (l.take k) = (h, m, a)
  lt : m < 6
  u : h < 18446744073709551616
theorem flush_len (h m : Nat) (a : List UInt8) : 6 * (flushP h m a).2.length + (flushP h m a).1 = 6 * a.length + m := by
  have key : ∀ (k m : Nat) (a : List UInt8), m ≤ k → 6 * (flushP h m a).2.length + (flushP h m a).1 = 6 * a.length + m := by
    intro k
    induction k with
    | zero => intro m a hm; rw [flush_lt _ _ _ (by omega)]
    | succ k ih =>
      intro m a hm
      by_cases h6 : m < 6
      · rw [flush_lt _ _ _ h6]
      · rw [flush_ge _ _ _ (by omega), ih _ _ (by omega)]
        simp
        omega
  exact key m m a (Nat.le_refl _)
theorem wrapB_u64 (n : Nat) : IntKind.u64.wrap (n : Int) = ((n % 18446744073709551616 : Nat) : Int) := by
  simp [IntKind.wrap, IntKind.bits, IntKind.signed]
theorem and_lowk (x k : Nat) (h : x < 18446744073709551616) (hk : k ≤ 63) : bits .and .u64 (x : Int) ((2 ^ k - 1 : Nat) : Int) = ((x % 2 ^ k : Nat) : Int) := by
  have hp : 2 ^ k ≤ 2 ^ 63 := Nat.pow_le_pow_right (by decide) hk
  have h1 : (BitVec.ofInt 64 (x : Int)).toNat = x := by
    rw [BitVec.ofInt_natCast, BitVec.toNat_ofNat]; exact Nat.mod_eq_of_lt (by omega)
  have h2 : (BitVec.ofInt 64 ((2 ^ k - 1 : Nat) : Int)).toNat = 2 ^ k - 1 := by
    rw [BitVec.ofInt_natCast, BitVec.toNat_ofNat]; exact Nat.mod_eq_of_lt (by omega)
  show IntKind.u64.wrap ((BitVec.ofInt 64 (x : Int) &&& BitVec.ofInt 64 ((2 ^ k - 1 : Nat) : Int)).toNat : Int) = _
  rw [BitVec.toNat_and, h1, h2, Nat.and_two_pow_sub_one_eq_mod, wrapB_u64, Nat.mod_eq_of_lt (a := x % 2 ^ k) (Nat.lt_of_le_of_lt (Nat.mod_le _ _) h)]
theorem and63 (x : Nat) (h : x < 18446744073709551616) : bits .and .u64 (x : Int) 63 = ((x % 64 : Nat) : Int) := and_lowk x 6 h (by decide)
theorem or_low (a c k : Nat) (ha : 2 ^ k * a + c < 18446744073709551616) (hc : c < 2 ^ k) : bits .or .u64 ((2 ^ k * a : Nat) : Int) (c : Int) = ((2 ^ k * a + c : Nat) : Int) := by
  have h1 : (BitVec.ofInt 64 ((2 ^ k * a : Nat) : Int)).toNat = 2 ^ k * a := by
    rw [BitVec.ofInt_natCast, BitVec.toNat_ofNat]; exact Nat.mod_eq_of_lt (by omega)
  have h2 : (BitVec.ofInt 64 (c : Int)).toNat = c := by
    rw [BitVec.ofInt_natCast, BitVec.toNat_ofNat]; exact Nat.mod_eq_of_lt (by omega)
  show IntKind.u64.wrap ((BitVec.ofInt 64 ((2 ^ k * a : Nat) : Int) ||| BitVec.ofInt 64 (c : Int)).toNat : Int) = _
  rw [BitVec.toNat_or, h1, h2, ← Nat.two_pow_add_eq_or_of_lt hc, wrapB_u64, Nat.mod_eq_of_lt ha]
theorem shl8 (h : Nat) (b : UInt8) : bits .or .u64 (IntKind.u64.wrap ((h : Int) * 256)) (IntKind.u64.wrap (b.toNat : Int)) = ((heldP h b : Nat) : Int) := by
  have hb := u8_lt b
  have e1 : IntKind.u64.wrap ((h : Int) * 256) = ((2 ^ 8 * (h % 72057594037927936) : Nat) : Int) := by
    rw [show (h : Int) * 256 = ((h * 256 : Nat) : Int) by omega, wrapB_u64]
    congr 1
    omega
  rw [e1, wrapB_u64, Nat.mod_eq_of_lt (a := b.toNat) (by omega), or_low _ _ 8 (by omega) (by omega)]
  unfold heldP
  congr 1
  omega
theorem heldP_lt (h : Nat) (b : UInt8) : heldP h b < 18446744073709551616 := by
  have hb := u8_lt b
  unfold heldP
  omega
theorem sign_at (d : Nat) (h : d < 64) (W : World) : (Instr.index 9 (.string ⟨#[65, 66, 67, 68, 69, 70, 71, 72, 73, 74, 75, 76, 77, 78, 79, 80, 81, 82, 83, 84, 85, 86, 87, 88, 89, 90, 97, 98, 99, 100, 101, 102, 103, 104, 105, 106, 107, 108, 109, 110, 111, 112, 113, 114, 115, 116, 117, 118, 119, 120, 121, 122, 48, 49, 50, 51, 52, 53, 54, 55, 56, 57, 45, 95]⟩) (.int .u64 (d : Int))).run Tryd.prog W = .ok (.int .u8 (((sgn d).toNat : Nat) : Int)) W := by
  have h2 := signs64_at ⟨d, h⟩
  obtain ⟨h3, h4⟩ := List.getElem?_eq_some_iff.1 h2
  show (Instr.index 9 (.string signs64) (.int .u64 (d : Int))).run Tryd.prog W = _
  rw [run_index_string W 9 signs64 .u64 (d : Int) Tryd.underlying9, dif_pos (by exact ⟨by omega, by show (d : Int) < 64; omega⟩)]
  rw [← h4]
  rfl
theorem and_sh (H m : Nat) (h : H < 18446744073709551616) : bits .and .u64 ((H : Int) / 2 ^ (m - 6)) 63 = ((H / 2 ^ (m - 6) % 64 : Nat) : Int) := by
  have hc : ((H : Int) / 2 ^ (m - 6)) = ((H / 2 ^ (m - 6) : Nat) : Int) := by simp
  rw [hc, and63 _ (Nat.lt_of_le_of_lt (Nat.div_le_self _ _) h)]
theorem and_end (h n : Nat) : bits .and .u64 (IntKind.u64.wrap ((h : Int) * 2 ^ (6 - n))) 63 = ((h * 2 ^ (6 - n) % 64 : Nat) : Int) := by
  have hc : ((h : Int) * 2 ^ (6 - n)) = ((h * 2 ^ (6 - n) : Nat) : Int) := by simp
  rw [hc, wrapB_u64, and63 _ (Nat.mod_lt _ (by decide))]
  congr 1
  exact Nat.mod_mod_of_dvd _ (by decide)
set_option maxRecDepth 100000 in
set_option maxHeartbeats 4000000 in
/-- PUT. -/
theorem bput_any (s : ByteArray) (w : World) (hs : s.size ≤ 1000000) :
    Calls Tryd.prog 54 #[.string s] w fun e w' => e = .returned (.string ⟨(putS s.data.toList).toArray⟩) ∧ Below w.heap.size w w' := by
  have hl : s.data.toList.length = s.size := size_list s
  obtain ⟨B, hB⟩ : ∃ B, B = w.heap.size := ⟨_, rfl⟩
  have hnew : (w.alloc (.cells #[.pointer none, .slice none 0 0] 75)).heap[w.heap.size]? = some (.cells #[.pointer none, .slice none 0 0] 75 (0, 0)) := by rw [World.alloc]; exact Array.getElem?_push_size
  have hbel : Below w.heap.size w (w.alloc (.cells #[.pointer none, .slice none 0 0] 75)) := (Below.refl _ w).alloc (Nat.le_refl _) _
  have HG := Lib.hid (sb_grow w.heap.size w.heap.size ((4 * s.size + 2) / 3) (w.alloc (.cells #[.pointer none, .slice none 0 0] 75)) (Nat.le_refl _) hnew (by simp) (by omega))
  have HB := Lib.hid hB
  have HE := Lib.hid hbel
  clear hnew hbel
  rw [← hB] at HG HE ⊢
  clear hB
  obtain ⟨Z, hZ⟩ : ∃ Z : ByteArray, Z = ⟨(putS s.data.toList).toArray⟩ := ⟨_, rfl⟩
  rw [← hZ]
  have HZ := Lib.hid hZ
  clear hZ
  go_enter Tryd.func54, Tryd.ntmps54
  go_wp2_with (go_at_call 64; refine (len_nat _ (by assumption) _).mono ?_; rintro e w1 ⟨rfl, rfl⟩)
  rw [← HB.out]
  refine HG.out.mono ?_
  rintro e w1 ⟨rfl, i1, b1⟩
  have HI : Hid (PutI B w w1 0 0 []) := Lib.hid { bld := i1, below := HE.out.trans b1, sz := by have := HB.out; have := b1.size; have h2 := HE.out.size; simp at this ⊢; omega, len := rfl }
  have HR : Hid (PutR s.data.toList 0 0 0 []) := Lib.hid { eq := rfl, lt := by decide, u := by decide }
  clear i1 b1 HG HE
  go_wp2_with fail
  go_loopw [4, 5, 13] (fun x y z wr => ∃ (k h n : Nat) (acc : List UInt8), x = .int .u64 h ∧ y = .int .i64 n ∧ z = .int .i64 k ∧ k ≤ s.size ∧ Hid (PutI B w wr n k acc) ∧ Hid (PutR s.data.toList h n k acc)) (fun _ _ z _ => s.size - (RowKit.intOf z).toNat)
  case atStart => exact ⟨0, 0, 0, [], rfl, rfl, rfl, Nat.zero_le _, HI, HR⟩
  case round =>
    clear HI HR
    obtain ⟨k, h, n, acc, rfl, rfl, rfl, hk, HI, HR⟩ := hrel
    have hn : n < 6 := HR.out.lt
    by_cases hp : k < s.size
    · have hsh := shl8 h (s[k]'hp)
      have hHl := heldP_lt h (s[k]'hp)
      have HP : Hid (runP (0, 0, []) (s.data.toList.take (k + 1)) = (heldP h (s[k]'hp), flushP (heldP h (s[k]'hp)) (n + 8) acc)) := Lib.hid (by
        rw [List.take_add_one, show s.data.toList[k]? = some (s[k]'hp) by rw [List.getElem?_eq_getElem (by omega)]; rfl, Option.toList_some, runP_snoc, HR.out.eq]
        rfl)
      generalize heldP h (s[k]'hp) = H at hsh hHl HP
      have HHl := Lib.hid hHl
      clear hHl
      go_wp2_with fail
      clear hsh
      go_loopw [5] (fun y wr => ∃ (m : Nat) (a : List UInt8), m ≤ n + 8 ∧ y = .int .i64 m ∧ Hid (PutI B w wr m (k + 1) a) ∧ Hid (flushP H m a = flushP H (n + 8) acc)) (fun y _ => (RowKit.intOf y).toNat)
      case atStart => exact ⟨n + 8, acc, Nat.le_refl _, by go_num, Lib.hid { bld := HI.out.bld, below := HI.out.below, sz := HI.out.sz, len := by have := HI.out.len; omega }, Lib.hid rfl⟩
      case round =>
        obtain ⟨m, a, hm, rfl, HJ, HF⟩ := hrel
        by_cases h6 : m < 6
        · go_wp2_with fail
          have HK : Hid (PutR s.data.toList H m (k + 1) a) := Lib.hid { eq := by rw [HP.out, ← HF.out, flush_lt _ _ _ h6], lt := h6, u := HHl.out }
          go_roundw
          case rel => exact ⟨k + 1, H, m, a, rfl, rfl, by go_num, by omega, HJ, HK⟩
          case measure =>
            simp only [RowKit.intOf]
            omega
        · have ha := and_sh H m HHl.out
          have hD : H / 2 ^ (m - 6) % 64 < 64 := Nat.mod_lt _ (by decide)
          have hi := sign_at _ hD
          have HF2 : Hid (flushP H (m - 6) (a ++ [sgn (H / 2 ^ (m - 6) % 64)]) = flushP H (n + 8) acc) := Lib.hid (by rw [← HF.out, flush_ge H m a (by omega)])
          generalize H / 2 ^ (m - 6) % 64 = D at ha hD hi HF2
          have hDi : (D : Int) < 64 := by omega
          go_wp2_with fail
          refine (sb_byte B B a (sgn D) wr HJ.out.bld (by have := HJ.out.len; omega) HJ.out.sz).mono ?_
          rintro e w3 ⟨rfl, i3, b3, _⟩
          have HN : Hid (PutI B w w3 (m - 6) (k + 1) (a ++ [sgn D])) := Lib.hid { bld := i3, below := HJ.out.below.trans b3, sz := by have := b3.size; have := HJ.out.sz; omega, len := by have := HJ.out.len; simp; omega }
          clear i3 b3
          go_wp2
          go_roundw
          case rel => exact ⟨m - 6, _, by omega, by go_num, HN, HF2⟩
          case measure =>
            simp only [RowKit.intOf]
            omega
    · obtain rfl : k = s.size := by omega
      have HEq : Hid (endP (h, n, acc) = putS s.data.toList) := Lib.hid (by
        have h1 := endP_run s.data.toList 0 []
        have h2 := HR.out.eq
        rw [List.take_of_length_le (by omega)] at h2
        rw [h2] at h1
        exact h1)
      by_cases h0 : 0 < n
      · have ha := and_end h n
        have hD : h * 2 ^ (6 - n) % 64 < 64 := Nat.mod_lt _ (by decide)
        have hi := sign_at _ hD
        have HEr : Hid (acc ++ [sgn (h * 2 ^ (6 - n) % 64)] = putS s.data.toList) := Lib.hid (by rw [← HEq.out]; show _ = if 0 < n then _ else _; rw [if_pos h0])
        generalize h * 2 ^ (6 - n) % 64 = D at ha hD hi HEr
        have hDi : (D : Int) < 64 := by omega
        clear HR HEq
        go_wp2_with fail
        refine (sb_byte B B acc (sgn D) wr HI.out.bld (by have := HI.out.len; omega) HI.out.sz).mono ?_
        rintro e w3 ⟨rfl, i3, b3, _⟩
        rw [HEr.out] at i3
        have hs3 := sb_string B B _ w3 i3 (by have := b3.size; have := HI.out.sz; omega)
        have hZ := HZ.out
        rw [← hZ] at hs3
        have HS := Lib.hid hs3
        have HB3 := Lib.hid (HI.out.below.trans b3)
        clear i3 b3 hs3 hZ
        go_wp2_with fail
        refine HS.out.mono ?_
        rintro e w4 ⟨rfl, _, b4, _⟩
        have HB4 := Lib.hid (HB3.out.trans b4)
        clear b4
        go_wp2
        go_ret
        exact ⟨rfl, HB4.out⟩
      · have HEr : Hid (acc = putS s.data.toList) := Lib.hid (by rw [← HEq.out]; show _ = if 0 < n then _ else _; rw [if_neg h0])
        obtain rfl : n = 0 := by omega
        have hi := HI.out.bld
        rw [HEr.out] at hi
        have hs3 := sb_string B B _ wr hi HI.out.sz
        have hZ := HZ.out
        rw [← hZ] at hs3
        have HS := Lib.hid hs3
        clear hi hs3 hZ HR HEq
        go_wp2_with fail
        refine HS.out.mono ?_
        rintro e w4 ⟨rfl, _, b4, _⟩
        have HB4 := Lib.hid (HI.out.below.trans b4)
        clear b4
        go_wp2
        go_ret
        exact ⟨rfl, HB4.out⟩
theorem runU_snoc (l : List UInt8) (c : UInt8) (d : Nat) (s : Nat × Nat × List UInt8) (h : runU (0, 0, []) l = some s) (hd : valS c.toNat = some d) : runU (0, 0, []) (l ++ [c]) = some (stepU s d) := by
  rw [runU_append, h]
  show runU s [c] = _
  rw [runU, hd]
  rfl
theorem or_six (x d : Nat) (hx : x < 64) (hd : d < 64) : bits .or .u64 ((x : Int) * 64) (d : Int) = ((x * 64 + d : Nat) : Int) := by
  have := or_low x d 6 (by omega) (by omega)
  rw [show 2 ^ 6 * x = x * 64 by omega] at this
  rw [← this]
  congr 1
end Go.Proofs.YtkolebnjhndmkaaDoor
/-
  CONTRACTS of the document's own Base and Unbase.
-/
namespace Go.Proofs.YtkolebnjhndmkaaDoor
open Go.RowKit
open Go.Lib
def vvB (t : List UInt8) : Nat → Nat
  | 0 => 0
  | k + 1 => vvB t k * 256 + (t.getD k 0).toNat
def sigs (v k : Nat) : List UInt8 := (List.range k).map fun j => sgn (v / 2 ^ (18 - 6 * j) % 64)
theorem vvB_lt (t : List UInt8) (k : Nat) : vvB t k < 256 ^ k := by
  induction k with
  | zero => exact Nat.one_pos
  | succ k ih =>
    have := u8_lt (t.getD k 0)
    show vvB t k * 256 + _ < 256 ^ (k + 1)
    rw [Nat.pow_succ]
    omega
theorem sigs_succ (v k : Nat) : sigs v (k + 1) = sigs v k ++ [sgn (v / 2 ^ (18 - 6 * k) % 64)] := by
  unfold sigs
  rw [List.range_succ, List.map_append]
  rfl
theorem sigs_put (t : List UInt8) (h1 : 1 ≤ t.length) (h2 : t.length ≤ 3) : sigs (vvB t 3) (t.length + 1) = putS t := by
  match t, h1, h2 with
  | [a], _, _ =>
    have ha := u8_lt a
    show [sgn ((((0 * 256 + a.toNat) * 256 + 0) * 256 + 0) / 2 ^ 18 % 64), sgn ((((0 * 256 + a.toNat) * 256 + 0) * 256 + 0) / 2 ^ 12 % 64)] = [_, _]
    congr 2
    · omega
    · congr 1
      omega
  | [a, b], _, _ =>
    have ha := u8_lt a
    have hb := u8_lt b
    show [sgn ((((0 * 256 + a.toNat) * 256 + b.toNat) * 256 + 0) / 2 ^ 18 % 64), sgn ((((0 * 256 + a.toNat) * 256 + b.toNat) * 256 + 0) / 2 ^ 12 % 64), sgn ((((0 * 256 + a.toNat) * 256 + b.toNat) * 256 + 0) / 2 ^ 6 % 64)] = _
    rw [putS, show (((0 * 256 + a.toNat) * 256 + b.toNat) * 256 + 0) / 2 ^ 18 % 64 = a.toNat / 4 by omega, show (((0 * 256 + a.toNat) * 256 + b.toNat) * 256 + 0) / 2 ^ 12 % 64 = a.toNat % 4 * 16 + b.toNat / 16 by omega, show (((0 * 256 + a.toNat) * 256 + b.toNat) * 256 + 0) / 2 ^ 6 % 64 = b.toNat % 16 * 4 by omega]
  | [a, b, c], _, _ =>
    have ha := u8_lt a
    have hb := u8_lt b
    have hc := u8_lt c
    show [sgn ((((0 * 256 + a.toNat) * 256 + b.toNat) * 256 + c.toNat) / 2 ^ 18 % 64), sgn ((((0 * 256 + a.toNat) * 256 + b.toNat) * 256 + c.toNat) / 2 ^ 12 % 64), sgn ((((0 * 256 + a.toNat) * 256 + b.toNat) * 256 + c.toNat) / 2 ^ 6 % 64), sgn ((((0 * 256 + a.toNat) * 256 + b.toNat) * 256 + c.toNat) / 2 ^ 0 % 64)] = _
    rw [putS, putS, show (((0 * 256 + a.toNat) * 256 + b.toNat) * 256 + c.toNat) / 2 ^ 18 % 64 = a.toNat / 4 by omega, show (((0 * 256 + a.toNat) * 256 + b.toNat) * 256 + c.toNat) / 2 ^ 12 % 64 = a.toNat % 4 * 16 + b.toNat / 16 by omega, show (((0 * 256 + a.toNat) * 256 + b.toNat) * 256 + c.toNat) / 2 ^ 6 % 64 = b.toNat % 16 * 4 + c.toNat / 64 by omega, show (((0 * 256 + a.toNat) * 256 + b.toNat) * 256 + c.toNat) / 2 ^ 0 % 64 = c.toNat % 64 by omega]
set_option maxRecDepth 100000 in
/-- One sign, as a text. -/
theorem sign_slice (d : Nat) (h : d < 64) (W : World) : (Instr.slice 9 (.string ⟨#[65, 66, 67, 68, 69, 70, 71, 72, 73, 74, 75, 76, 77, 78, 79, 80, 81, 82, 83, 84, 85, 86, 87, 88, 89, 90, 97, 98, 99, 100, 101, 102, 103, 104, 105, 106, 107, 108, 109, 110, 111, 112, 113, 114, 115, 116, 117, 118, 119, 120, 121, 122, 48, 49, 50, 51, 52, 53, 54, 55, 56, 57, 45, 95]⟩) (some (.int .i64 (d : Int))) (some (.int .i64 ((d : Int) + 1))) none).run Tryd.prog W = .ok (.string ⟨[sgn d].toArray⟩) W := by
  have h2 := signs64_at ⟨d, h⟩
  obtain ⟨h3, h4⟩ := List.getElem?_eq_some_iff.1 h2
  have := slice_str_lh signs64 d (d + 1) (by omega) (by show d + 1 ≤ 64; omega) W
  show (Instr.slice 9 (.string signs64) (some (.int .i64 (d : Int))) (some (.int .i64 ((d : Int) + 1))) none).run Tryd.prog W = _
  rw [show ((d + 1 : Nat) : Int) = (d : Int) + 1 by omega] at this
  rw [this]
  congr 2
  apply ByteArray.ext
  apply Array.toList_inj.1
  rw [show (signs64.extract d (d + 1)).data.toList = (signs64.data.toList.take (d + 1)).drop d from ext_list signs64 d (d + 1), List.take_add_one, h2, List.drop_append_of_le_length (by rw [List.length_take]; have : signs64.data.toList.length = 64 := rfl; omega), List.drop_eq_nil_of_le (by rw [List.length_take]; omega)]
  rfl
theorem and63i (x : Nat) (h : x < 9223372036854775808) : bits .and .i64 (x : Int) 63 = ((x % 64 : Nat) : Int) := by
  have h1 : (BitVec.ofInt 64 (x : Int)).toNat = x := by
    rw [BitVec.ofInt_natCast, BitVec.toNat_ofNat]; exact Nat.mod_eq_of_lt (by omega)
  have h2 : (BitVec.ofInt 64 (63 : Int)).toNat = 63 := by decide
  show IntKind.i64.wrap ((BitVec.ofInt 64 (x : Int) &&& BitVec.ofInt 64 (63 : Int)).toNat : Int) = _
  rw [BitVec.toNat_and, h1, h2, show 63 = 2 ^ 6 - 1 by decide, Nat.and_two_pow_sub_one_eq_mod, IntKind.wrap_i64]
  omega
theorem sh63 (V P : Nat) (h : V < 9223372036854775808) : bits .and .i64 ((V : Int) / (P : Int)) 63 = ((V / P % 64 : Nat) : Int) := by
  rw [show (V : Int) / (P : Int) = ((V / P : Nat) : Int) by simp]
  exact and63i _ (Nat.lt_of_le_of_lt (Nat.div_le_self _ _) h)
structure BaI (l : List UInt8) (i : Nat) (O : ByteArray) : Prop where
  three : i % 3 = 0
  out : O = ⟨(putS (l.take i)).toArray⟩
set_option maxRecDepth 100000 in
set_option maxHeartbeats 4000000 in
theorem rbase_any (s : ByteArray) (w : World) (hs : s.size ≤ 1000000) :
    Calls Tryd.prog 35 #[.string s] w fun e w' => e = .returned (.string ⟨(putS s.data.toList).toArray⟩) ∧ w = w' := by
  have hl : s.data.toList.length = s.size := size_list s
  obtain ⟨Z, hZ⟩ : ∃ Z : ByteArray, Z = ⟨(putS s.data.toList).toArray⟩ := ⟨_, rfl⟩
  rw [← hZ]
  have HZ := Lib.hid hZ
  clear hZ
  go_enter Tryd.func35, Tryd.ntmps35
  go_wp2_with fail
  go_loopw [3, 4] (fun o i wr => ∃ (k : Nat) (O : ByteArray), o = .string O ∧ i = .int .i64 k ∧ k ≤ s.size + 2 ∧ (O.size : Int) ≤ 2000000 ∧ Hid (BaI s.data.toList k O) ∧ w = wr) (fun _ i _ => s.size + 2 - (RowKit.intOf i).toNat)
  case atStart => exact ⟨0, _, rfl, rfl, by omega, by decide, Lib.hid ⟨rfl, rfl⟩, rfl⟩
  case round =>
    obtain ⟨i, O, rfl, rfl, hi, hO, HI, rfl⟩ := hrel
    by_cases hp : i < s.size
    · obtain ⟨t, ht⟩ : ∃ t, t = (s.data.toList.drop i).take 3 := ⟨_, rfl⟩
      obtain ⟨n, hn⟩ : ∃ n : Nat, n = t.length := ⟨_, rfl⟩
      have hn2 : n = min (s.size - i) 3 := by rw [hn, ht, List.length_take, List.length_drop, hl, Nat.min_comm]
      have hn1 : 1 ≤ n ∧ n ≤ 3 ∧ i + n ≤ s.size := by omega
      have hm : min ((s.size : Int) - i) 3 = (n : Int) := by omega
      have HT := Lib.hid (And.intro ht hn)
      clear ht hn2 hn
      go_wp2_with fail
      go_loopw [5, 7] (fun v k wr => ∃ j : Nat, j ≤ 3 ∧ k = .int .i64 j ∧ v = .int .i64 ((vvB t j : Nat) : Int) ∧ w = wr) (fun _ k _ => 3 - (RowKit.intOf k).toNat)
      case atStart => exact ⟨0, by omega, rfl, rfl, rfl⟩
      case round =>
        obtain ⟨j, hj, rfl, rfl, rfl⟩ := hrel
        by_cases h3 : j < 3
        · have hvl := vvB_lt t j
          have hv : ((vvB t j : Nat) : Int) < 65536 := by
            have : 256 ^ j ≤ 256 ^ 2 := Nat.pow_le_pow_right (by decide) (by omega)
            omega
          have hv0 : 0 ≤ ((vvB t j : Nat) : Int) := by omega
          by_cases hjn : j < n
          · have hq : i + j < s.size := by omega
            have HV : Hid (wrap64 (((vvB t j : Nat) : Int) * 256 + wrap64 (((s[i + j]'hq).toNat : Nat) : Int)) = ((vvB t (j + 1) : Nat) : Int)) := Lib.hid (by
              have hb := u8_lt (s[i + j]'hq)
              have : t.getD j 0 = s[i + j]'hq := by
                rw [List.getD_eq_getElem?_getD, HT.out.1, List.getElem?_take_of_lt h3, List.getElem?_drop, List.getElem?_eq_getElem (by omega)]
                rfl
              rw [IntWalk.wrap64_in (((s[i + j]'hq).toNat : Nat) : Int) ⟨by omega, by omega⟩, IntWalk.wrap64_in _ ⟨by omega, by omega⟩]
              show _ = ((vvB t j * 256 + (t.getD j 0).toNat : Nat) : Int)
              rw [this]
              omega)
            clear hvl
            generalize ((vvB t j : Nat) : Int) = V at *
            go_wp2_with fail
            refine ⟨⟨j + 1, by omega, by go_num, by rw [HV.out], by first | rfl | trivial⟩, ?_⟩
            simp only [RowKit.intOf]
            omega
          · have HV : Hid (((vvB t j : Nat) : Int) * 256 = ((vvB t (j + 1) : Nat) : Int)) := Lib.hid (by
              have : t.getD j 0 = 0 := by
                rw [List.getD_eq_getElem?_getD, List.getElem?_eq_none (by have := HT.out.2; omega)]
                rfl
              show _ = ((vvB t j * 256 + (t.getD j 0).toNat : Nat) : Int)
              rw [this]
              show _ = ((vvB t j * 256 + 0 : Nat) : Int)
              omega)
            clear hvl
            generalize ((vvB t j : Nat) : Int) = V at *
            go_wp2_with fail
            go_roundw
            case rel => exact ⟨j + 1, by omega, by go_num, by rw [HV.out], by first | rfl | trivial⟩
            case measure =>
              simp only [RowKit.intOf]
              omega
        · obtain rfl : j = 3 := by omega
          have HVV : Hid (vvB t 3 = vvB t 3) := Lib.hid rfl
          have hvl := vvB_lt t 3
          have hv : ((vvB t 3 : Nat) : Int) < 16777216 := by omega
          have HS := Lib.hid (sigs_put t (by have := HT.out.2; omega) (by have := HT.out.2; omega))
          generalize vvB t 3 = V at *
          clear hvl HVV hm
          go_wp2_with fail
          have HIO : ∀ D : ByteArray, Hid ((⟨(putS (s.data.toList.take i)).toArray⟩ : ByteArray) = D) → True := fun _ _ => trivial
          clear HIO
          go_loopw [3, 8] (fun o k wr => ∃ (j : Nat) (Y : ByteArray), j ≤ n + 1 ∧ k = .int .i64 j ∧ o = .string Y ∧ Hid ((Y.size : Int) ≤ 2000000 + j) ∧ Hid (Y = ⟨(putS (s.data.toList.take i) ++ sigs V j).toArray⟩) ∧ w = wr) (fun _ k _ => 5 - (RowKit.intOf k).toNat)
          case atStart => exact ⟨0, O, by omega, rfl, rfl, Lib.hid (by omega), Lib.hid (by rw [HI.out.out]; simp [sigs]), rfl⟩
          case round =>
            obtain ⟨j, Y, hj, rfl, rfl, HYS, HY, rfl⟩ := hrel
            have hY : (Y.size : Int) ≤ 3000000 := by
              have := HYS.out
              omega
            by_cases hjn : j ≤ n
            · have h4 : j = 0 ∨ j = 1 ∨ j = 2 ∨ j = 3 := by omega
              rcases h4 with rfl | rfl | rfl | rfl
              · have hD : V / 262144 % 64 < 64 := Nat.mod_lt _ (by decide)
                have hsl := sign_slice _ hD
                have hle : ((0 : Int) ≤ (n : Int)) = True := by
                  apply eq_true
                  show (0 : Int) ≤ n
                  omega
                have HJN := Lib.hid hjn
                clear hjn
                have HN : Hid (Y ++ ⟨[sgn (V / 262144 % 64)].toArray⟩ = ⟨(putS (s.data.toList.take i) ++ sigs V (0 + 1)).toArray⟩) := Lib.hid (by
                  rw [HY.out, cat_of, sigs_succ V 0, List.append_assoc])
                have ha : bits .and .i64 ((V : Int) / 262144) 63 = ((V / 262144 % 64 : Nat) : Int) := sh63 V 262144 (by omega)
                generalize V / 262144 % 64 = D at hD hsl HN ha
                have hzz : (⟨[sgn D].toArray⟩ : ByteArray).size = 1 := size_of _
                generalize (⟨[sgn D].toArray⟩ : ByteArray) = z at hsl HN hzz
                have hzs : (z.size : Int) ≤ 1 := by omega
                have hY' := HYS.out
                have hsum : (((Y ++ z).size : Nat) : Int) ≤ 2000000 + ((0 + 1 : Nat) : Int) := by
                  rw [ByteArray.size_append]
                  omega
                have HSUM := Lib.hid hsum
                clear hsum hzz hY'
                have hDi : (D : Int) < 64 := by omega
                go_wp2_with fail
                have hjn := HJN.out
                refine ⟨⟨0 + 1, _, by omega, by first | rfl | go_num, rfl, HSUM, HN, by first | rfl | trivial⟩, ?_⟩
                simp only [RowKit.intOf]
                omega
              · have hD : V / 4096 % 64 < 64 := Nat.mod_lt _ (by decide)
                have hsl := sign_slice _ hD
                have hle : ((1 : Int) ≤ (n : Int)) = True := by
                  apply eq_true
                  show (1 : Int) ≤ n
                  omega
                have HJN := Lib.hid hjn
                clear hjn
                have HN : Hid (Y ++ ⟨[sgn (V / 4096 % 64)].toArray⟩ = ⟨(putS (s.data.toList.take i) ++ sigs V (1 + 1)).toArray⟩) := Lib.hid (by
                  rw [HY.out, cat_of, sigs_succ V 1, List.append_assoc])
                have ha : bits .and .i64 ((V : Int) / 4096) 63 = ((V / 4096 % 64 : Nat) : Int) := sh63 V 4096 (by omega)
                generalize V / 4096 % 64 = D at hD hsl HN ha
                have hzz : (⟨[sgn D].toArray⟩ : ByteArray).size = 1 := size_of _
                generalize (⟨[sgn D].toArray⟩ : ByteArray) = z at hsl HN hzz
                have hzs : (z.size : Int) ≤ 1 := by omega
                have hY' := HYS.out
                have hsum : (((Y ++ z).size : Nat) : Int) ≤ 2000000 + ((1 + 1 : Nat) : Int) := by
                  rw [ByteArray.size_append]
                  omega
                have HSUM := Lib.hid hsum
                clear hsum hzz hY'
                have hDi : (D : Int) < 64 := by omega
                go_wp2_with fail
                have hjn := HJN.out
                refine ⟨⟨1 + 1, _, by omega, by first | rfl | go_num, rfl, HSUM, HN, by first | rfl | trivial⟩, ?_⟩
                simp only [RowKit.intOf]
                omega
              · have hD : V / 64 % 64 < 64 := Nat.mod_lt _ (by decide)
                have hsl := sign_slice _ hD
                have hle : ((2 : Int) ≤ (n : Int)) = True := by
                  apply eq_true
                  show (2 : Int) ≤ n
                  omega
                have HJN := Lib.hid hjn
                clear hjn
                have HN : Hid (Y ++ ⟨[sgn (V / 64 % 64)].toArray⟩ = ⟨(putS (s.data.toList.take i) ++ sigs V (2 + 1)).toArray⟩) := Lib.hid (by
                  rw [HY.out, cat_of, sigs_succ V 2, List.append_assoc])
                have ha : bits .and .i64 ((V : Int) / 64) 63 = ((V / 64 % 64 : Nat) : Int) := sh63 V 64 (by omega)
                generalize V / 64 % 64 = D at hD hsl HN ha
                have hzz : (⟨[sgn D].toArray⟩ : ByteArray).size = 1 := size_of _
                generalize (⟨[sgn D].toArray⟩ : ByteArray) = z at hsl HN hzz
                have hzs : (z.size : Int) ≤ 1 := by omega
                have hY' := HYS.out
                have hsum : (((Y ++ z).size : Nat) : Int) ≤ 2000000 + ((2 + 1 : Nat) : Int) := by
                  rw [ByteArray.size_append]
                  omega
                have HSUM := Lib.hid hsum
                clear hsum hzz hY'
                have hDi : (D : Int) < 64 := by omega
                go_wp2_with fail
                have hjn := HJN.out
                refine ⟨⟨2 + 1, _, by omega, by first | rfl | go_num, rfl, HSUM, HN, by first | rfl | trivial⟩, ?_⟩
                simp only [RowKit.intOf]
                omega
              · have hD : V / 1 % 64 < 64 := Nat.mod_lt _ (by decide)
                have hsl := sign_slice _ hD
                have hle : ((3 : Int) ≤ (n : Int)) = True := by
                  apply eq_true
                  show (3 : Int) ≤ n
                  omega
                have HJN := Lib.hid hjn
                clear hjn
                have HN : Hid (Y ++ ⟨[sgn (V / 1 % 64)].toArray⟩ = ⟨(putS (s.data.toList.take i) ++ sigs V (3 + 1)).toArray⟩) := Lib.hid (by
                  rw [HY.out, cat_of, sigs_succ V 3, List.append_assoc])
                have ha : bits .and .i64 (V : Int) 63 = ((V / 1 % 64 : Nat) : Int) := by
                  rw [Nat.div_one]
                  exact and63i _ (by omega)
                generalize V / 1 % 64 = D at hD hsl HN ha
                have hzz : (⟨[sgn D].toArray⟩ : ByteArray).size = 1 := size_of _
                generalize (⟨[sgn D].toArray⟩ : ByteArray) = z at hsl HN hzz
                have hzs : (z.size : Int) ≤ 1 := by omega
                have hY' := HYS.out
                have hsum : (((Y ++ z).size : Nat) : Int) ≤ 2000000 + ((3 + 1 : Nat) : Int) := by
                  rw [ByteArray.size_append]
                  omega
                have HSUM := Lib.hid hsum
                clear hsum hzz hY'
                have hDi : (D : Int) < 64 := by omega
                go_wp2_with fail
                have hjn := HJN.out
                refine ⟨⟨3 + 1, _, by omega, by first | rfl | go_num, rfl, HSUM, HN, by first | rfl | trivial⟩, ?_⟩
                simp only [RowKit.intOf]
                omega
            · obtain rfl : j = n + 1 := by omega
              have HF : Hid (BaI s.data.toList (i + 3) Y) := Lib.hid (by
                have h3 := HI.out.three
                refine ⟨by omega, ?_⟩
                have hS := HS.out
                rw [← HT.out.2] at hS
                rw [HY.out, hS, HT.out.1, ← putS_append _ _ (by rw [List.length_take, Nat.min_eq_left (by omega)]; exact h3), ← List.take_add])
              have hYs : (Y.size : Int) ≤ 2000000 := by
                have h1 : Y.size = (putS (s.data.toList.take (i + 3))).length := by
                  rw [HF.out.out]
                  exact size_of _
                rw [putS_length, List.length_take] at h1
                omega
              clear HY HS HI hj hjn HYS
              have hle : ((n : Int) + 1 ≤ (n : Int)) = False := by
                apply eq_false
                omega
              have HYs := Lib.hid hYs
              clear hYs
              go_wp2_with fail
              refine ⟨⟨i + 3, Y, rfl, by go_num, by omega, HYs.out, HF, by first | rfl | trivial⟩, ?_⟩
              simp only [RowKit.intOf]
              omega
    · obtain ⟨hi1, hi2⟩ : s.size ≤ i ∧ True := ⟨by omega, trivial⟩
      have hO2 : O = Z := by
        rw [HI.out.out, HZ.out, List.take_of_length_le (by omega)]
      subst hO2
      go_wp2
      go_ret
      exact ⟨rfl, rfl⟩
end Go.Proofs.YtkolebnjhndmkaaDoor
/-
  truchmanref1.Unbase: signs read one by one, and compared with their Base.
-/
namespace Go.Proofs.YtkolebnjhndmkaaDoor
open Go.RowKit
open Go.Lib
theorem bconv_new (W : World) (l : List UInt8) (cs : Array Value) (k : Nat) (hk : l.length = k) (hc : cs = (Lib.byteCells l).toArray) (x : ByteArray) (hx : x = ⟨l.toArray⟩) :
    (convert 70 9 (.slice (some ⟨W.heap.size, 0, none⟩) k k)).run Tryd.prog (W.alloc (.cells cs 5)) = .ok (.string x) (W.alloc (.cells cs 5)) := by
  subst hc hk hx
  have := conv_row (w := W.alloc (.cells (Lib.byteCells l).toArray 5)) (g := W.heap.size) (l := l) (by rw [World.alloc]; exact Array.getElem?_push_size) 0 l.length l.length (by omega)
  rw [this]
  simp
theorem conv_one (x : UInt8) (c : Int) (hc : c = ((x.toNat : Nat) : Int)) (z : ByteArray) (hz : z = ⟨[x].toArray⟩) : ∀ W : World, (convert 70 9 (.slice (some ⟨W.heap.size, 0, none⟩) 1 1)).run Tryd.prog (W.alloc (.cells #[.int .u8 c] 5)) = .ok (.string z) (W.alloc (.cells #[.int .u8 c] 5)) := by
  subst hc hz
  exact fun W => bconv_new W [x] _ 1 rfl rfl _ rfl
/-- The place of a byte among the first k signs. -/
def dOf (c : UInt8) : Nat → Int
  | 0 => -1
  | k + 1 => if sgn k = c then (k : Int) else dOf c k
theorem dOf_no (c : UInt8) (k : Nat) (h : ∀ j, j < k → sgn j ≠ c) : dOf c k = -1 := by
  induction k with
  | zero => rfl
  | succ k ih => rw [dOf, if_neg (h k (by omega))]; exact ih fun j hj => h j (by omega)
theorem dOf_is (d k : Nat) (h : d < k) (hk : k ≤ 64) : dOf (sgn d) k = d := by
  induction k with
  | zero => omega
  | succ k ih =>
    rw [dOf]
    by_cases hd : d = k
    · rw [if_pos (by rw [hd]), hd]
    · rw [if_neg ?_]
      · exact ih (by omega) (by omega)
      · intro he
        have h1 := val_sgn d (by omega)
        rw [← he, val_sgn k (by omega)] at h1
        injection h1 with h1
        omega
theorem dOf_none (c : UInt8) (h : valS c.toNat = none) : dOf c 64 = -1 := dOf_no c 64 fun j hj he => by
  rw [← he, val_sgn j hj] at h
  cases h
theorem dOf_some (c : UInt8) (d : Nat) (h : valS c.toNat = some d) : dOf c 64 = d := by
  rw [← sgn_of c d h]
  exact dOf_is d 64 (sgn_val _ _ h).1 (by decide)
theorem dOf_ge (c : UInt8) (k : Nat) : -1 ≤ dOf c k := by
  induction k with
  | zero => rw [dOf]; decide
  | succ k ih => rw [dOf]; split <;> omega
theorem dOf_lt (c : UInt8) (k : Nat) : dOf c k < k := by
  induction k with
  | zero => rw [dOf]; decide
  | succ k ih => rw [dOf]; split <;> omega
theorem sign_at64 (d : Nat) (h : d < 64) (W : World) : (Instr.index 9 (.string ⟨#[65, 66, 67, 68, 69, 70, 71, 72, 73, 74, 75, 76, 77, 78, 79, 80, 81, 82, 83, 84, 85, 86, 87, 88, 89, 90, 97, 98, 99, 100, 101, 102, 103, 104, 105, 106, 107, 108, 109, 110, 111, 112, 113, 114, 115, 116, 117, 118, 119, 120, 121, 122, 48, 49, 50, 51, 52, 53, 54, 55, 56, 57, 45, 95]⟩) (.int .i64 (d : Int))).run Tryd.prog W = .ok (.int .u8 (((sgn d).toNat : Nat) : Int)) W := by
  have h2 := signs64_at ⟨d, h⟩
  obtain ⟨h3, h4⟩ := List.getElem?_eq_some_iff.1 h2
  show (Instr.index 9 (.string signs64) (.int .i64 (d : Int))).run Tryd.prog W = _
  rw [run_index_string W 9 signs64 .i64 (d : Int) Tryd.underlying9, dif_pos (by exact ⟨by omega, by show (d : Int) < 64; omega⟩)]
  rw [← h4]
  rfl
theorem index_str (s : ByteArray) (k : Nat) (h : k < s.size) (W : World) : (Instr.index 9 (.string s) (.int .i64 (k : Int))).run Tryd.prog W = .ok (.int .u8 ((((s[k]'h).toNat : Nat)) : Int)) W := by
  rw [run_index_string W 9 s .i64 (k : Int) Tryd.underlying9, dif_pos (by exact ⟨by omega, by omega⟩)]
  rfl
theorem andk_i (x k : Nat) (h : x < 4096) (hk : k ≤ 12) : bits .and .i64 (x : Int) ((2 ^ k - 1 : Nat) : Int) = ((x % 2 ^ k : Nat) : Int) := by
  have hp : 2 ^ k ≤ 2 ^ 12 := Nat.pow_le_pow_right (by decide) hk
  have h1 : (BitVec.ofInt 64 (x : Int)).toNat = x := by
    rw [BitVec.ofInt_natCast, BitVec.toNat_ofNat]; exact Nat.mod_eq_of_lt (by omega)
  have h2 : (BitVec.ofInt 64 ((2 ^ k - 1 : Nat) : Int)).toNat = 2 ^ k - 1 := by
    rw [BitVec.ofInt_natCast, BitVec.toNat_ofNat]; exact Nat.mod_eq_of_lt (by omega)
  show IntKind.i64.wrap ((BitVec.ofInt 64 (x : Int) &&& BitVec.ofInt 64 ((2 ^ k - 1 : Nat) : Int)).toNat : Int) = _
  rw [BitVec.toNat_and, h1, h2, Nat.and_two_pow_sub_one_eq_mod, IntKind.wrap_i64]
  have := Nat.mod_le x (2 ^ k)
  omega
structure UnR (s : ByteArray) (x n pos : Nat) (a : List UInt8) : Prop where
  eq : runU (0, 0, []) (s.data.toList.take pos) = some (x, n, a)
  hn : n = 0 ∨ n = 2 ∨ n = 4 ∨ n = 6
  hx : x < 2 ^ n
  len : a.length ≤ pos
set_option maxRecDepth 100000 in
set_option maxHeartbeats 4000000 in
theorem unbase_any (s : ByteArray) (w : World) (hs : s.size ≤ 1000000) :
    Calls Tryd.prog 21 #[.string s] w fun e w' => e = .returned (.tuple #[.string ⟨((getS s.data.toList).getD []).toArray⟩, .bool (getS s.data.toList).isSome]) ∧ Below w.heap.size w w' := by
  have hl : s.data.toList.length = s.size := size_list s
  obtain ⟨Z, hZ⟩ : ∃ Z : ByteArray, Z = ⟨((getS s.data.toList).getD []).toArray⟩ := ⟨_, rfl⟩
  obtain ⟨Y, hY⟩ : ∃ Y : Bool, Y = (getS s.data.toList).isSome := ⟨_, rfl⟩
  rw [← hZ, ← hY]
  have HZ := Lib.hid (And.intro hZ hY)
  clear hZ hY
  have B0 : Hid (Below w.heap.size w w) := Lib.hid (Below.refl _ w)
  obtain ⟨B, hB⟩ : ∃ B, B = w.heap.size := ⟨_, rfl⟩
  rw [← hB] at B0 ⊢
  have HB := Lib.hid hB
  clear hB
  go_enter Tryd.func21, Tryd.ntmps21
  go_wp2_with fail
  go_loopw [4, 5, 6, 7] (fun x y o i wr => ∃ (pos h n : Nat) (a : List UInt8), x = .int .i64 h ∧ y = .int .i64 n ∧ o = .string ⟨a.toArray⟩ ∧ i = .int .i64 pos ∧ pos ≤ s.size ∧ Hid (UnR s h n pos a) ∧ Hid (Below B w wr)) (fun _ _ _ i _ => s.size - (RowKit.intOf i).toNat)
  case atStart => exact ⟨0, 0, 0, [], rfl, rfl, rfl, rfl, Nat.zero_le _, Lib.hid { eq := rfl, hn := .inl rfl, hx := by decide, len := Nat.le_refl _ }, B0⟩
  case round =>
    obtain ⟨pos, h, n, a, rfl, rfl, rfl, rfl, hpos, HR, HBl⟩ := hrel
    clear B0
    by_cases hp : pos < s.size
    · obtain ⟨c, hc⟩ : ∃ c : UInt8, c = s[pos]'hp := ⟨_, rfl⟩
      have hix : ∀ W : World, (Instr.index 9 (.string s) (.int .i64 (pos : Int))).run Tryd.prog W = .ok (.int .u8 ((c.toNat : Nat) : Int)) W := by
        rw [hc]
        exact index_str s pos hp
      have HC := Lib.hid hc
      clear hc
      have HIX := Lib.hid hix
      clear hix
      go_wp2_with fail
      go_loopw [8, 9] (fun d k wq => ∃ j : Nat, d = .int .i64 (dOf c j) ∧ k = .int .i64 j ∧ j ≤ 64 ∧ Hid (Below B w wq)) (fun _ k _ => 64 - (RowKit.intOf k).toNat)
      case atStart => exact ⟨0, rfl, rfl, by omega, HBl⟩
      case round =>
        obtain ⟨j, rfl, rfl, hj, HBq⟩ := hrel
        by_cases h64 : j < 64
        · have hsg := sign_at64 j h64
          have hix := HIX.out
          have HD : Hid (dOf c (j + 1) = if sgn j = c then (j : Int) else dOf c j) := Lib.hid rfl
          generalize dOf c j = D at *
          by_cases he : sgn j = c
          · have heq : ((((sgn j).toNat : Nat) : Int) == ((c.toNat : Nat) : Int)) = true := by rw [he]; exact beq_self_eq_true _
            rw [if_pos he] at HD
            clear he
            have h64i : (j : Int) < 64 := by omega
            go_wp2_with fail
            go_quiet (fail)
            have HBr : Hid (Below B w (wr.drewN nq)) := Lib.hid (below_drewN HBq.out nq)
            generalize wr.drewN nq = wz at HBr ⊢
            go_wp2_with fail
            go_roundw
            case rel => exact ⟨j + 1, by rw [HD.out], by go_num, by omega, HBr⟩
            case measure =>
              simp only [RowKit.intOf]
              omega
          · have heq : ((((sgn j).toNat : Nat) : Int) == ((c.toNat : Nat) : Int)) = false := by
              apply beq_false_of_ne
              intro h1
              exact he (UInt8.toNat_inj.1 (by omega))
            rw [if_neg he] at HD
            clear he
            have h64i : (j : Int) < 64 := by omega
            go_wp2_with fail
            go_quiet (fail)
            have HBr : Hid (Below B w (wr.drewN nq)) := Lib.hid (below_drewN HBq.out nq)
            generalize wr.drewN nq = wz at HBr ⊢
            go_wp2_with fail
            go_roundw
            case rel => exact ⟨j + 1, by rw [HD.out], by go_num, by omega, HBr⟩
            case measure =>
              simp only [RowKit.intOf]
              omega
        · obtain rfl : j = 64 := by omega
          cases hv : valS c.toNat with
          | none =>
            rw [dOf_none c hv]
            have HN : Hid (getS s.data.toList = none) := Lib.hid (getS_other _ c (by rw [HC.out]; exact List.getElem_mem _) hv)
            have hY : Y = false := by rw [HZ.out.2, HN.out]; rfl
            have hZ : Z = ⟨#[]⟩ := by rw [HZ.out.1, HN.out]; rfl
            subst hY hZ
            go_wp2_with fail
            go_ret2
            exact ⟨rfl, HBq.out⟩
          | some d =>
            rw [dOf_some c d hv]
            have hd : d < 64 := (sgn_val _ _ hv).1
            have HS : Hid (runU (0, 0, []) (s.data.toList.take (pos + 1)) = some (stepU (h, n, a) d)) := Lib.hid (by
              rw [List.take_add_one, show s.data.toList[pos]? = some c by rw [List.getElem?_eq_getElem (by omega), HC.out]; rfl, Option.toList_some]
              exact runU_snoc _ _ d _ HR.out.eq hv)
            have hlen := HR.out.len
            have hn := HR.out.hn
            have hx := HR.out.hx
            clear hv HC HBl HIX
            rcases hn with rfl | rfl | rfl | rfl
            · have hx : h < 1 := hx
              have HS2 : Hid (UnR s (h * 64 + d) 6 (pos + 1) a) := Lib.hid { eq := HS.out, hn := .inr (.inr (.inr rfl)), hx := by show h * 64 + d < 64; omega, len := by omega }
              clear HS HR
              have HL := Lib.hid hlen
              clear hlen
              go_wp2_with fail
              refine ⟨⟨pos + 1, h * 64 + d, 6, a, by go_num, by go_num, rfl, by go_num, hp, HS2, HBq⟩, ?_⟩
              simp only [RowKit.intOf]
              omega
            · have hx : h < 4 := hx
              have hS := HS.out
              rw [step2] at hS
              generalize hX : h * 64 + d = X at hS
              have hXl : X < 256 := by omega
              have hXi : (h : Int) * 64 + (d : Int) = (X : Int) := by omega
              have hc : (UInt8.ofNat (X)).toNat = X := u8_nat _ (by omega)
              have hci : (X : Int) = (((UInt8.ofNat (X)).toNat : Nat) : Int) := by rw [hc]
              have ha : bits .and .i64 (X : Int) 0 = ((0 : Nat) : Int) := by
                have := andk_i X 0 (by omega) (by decide)
                simpa [Nat.mod_one] using this
              have HCO := Lib.hid (conv_one (UInt8.ofNat (X)) _ hci _ rfl)
              generalize UInt8.ofNat (X) = b at hS HCO
              have HS2 : Hid (UnR s (0) 0 (pos + 1) (a ++ [b])) := Lib.hid { eq := hS, hn := .inl rfl, hx := by show 0 < 1; omega, len := by rw [List.length_append]; simp; omega }
              have HAB : Hid ((⟨a.toArray⟩ : ByteArray) ++ ⟨[b].toArray⟩ = ⟨(a ++ [b]).toArray⟩) := Lib.hid (cat_of _ _)
              have hab : ((⟨a.toArray⟩ : ByteArray).size : Int) ≤ 1000000 := by rw [size_of]; omega
              have hbs : ((⟨[b].toArray⟩ : ByteArray).size : Int) = 1 := by rw [size_of]; rfl
              generalize (⟨[b].toArray⟩ : ByteArray) = bz at HCO HAB hbs
              have HL := Lib.hid hlen
              have hcc := HCO.out
              clear HS HR hS hlen hc hci
              have HX : Hid (h * 64 + d = X) := Lib.hid hX
              go_wp2_with fail
              refine ⟨⟨pos + 1, 0, 0, a ++ [b], by go_num, by go_num, by rw [HAB.out], by go_num, hp, HS2, Lib.hid (HBq.out.alloc (by have := HB.out; have := HBq.out.size; omega) _)⟩, ?_⟩
              simp only [RowKit.intOf]
              omega
            · have hx : h < 16 := hx
              have hS := HS.out
              rw [step4] at hS
              generalize hX : h * 64 + d = X at hS
              have hXl : X < 1024 := by omega
              have hXi : (h : Int) * 64 + (d : Int) = (X : Int) := by omega
              have hc : (UInt8.ofNat (X / 4)).toNat = X / 4 := u8_nat _ (by omega)
              have hci : (X : Int) / 4 = (((UInt8.ofNat (X / 4)).toNat : Nat) : Int) := by rw [hc]; simp
              have ha : bits .and .i64 (X : Int) 3 = ((X % 4 : Nat) : Int) := by
                have := andk_i X 2 (by omega) (by decide)
                simpa using this
              have HCO := Lib.hid (conv_one (UInt8.ofNat (X / 4)) _ hci _ rfl)
              generalize UInt8.ofNat (X / 4) = b at hS HCO
              have HS2 : Hid (UnR s (X % 4) 2 (pos + 1) (a ++ [b])) := Lib.hid { eq := hS, hn := .inr (.inl rfl), hx := by show X % 4 < 4; omega, len := by rw [List.length_append]; simp; omega }
              have HAB : Hid ((⟨a.toArray⟩ : ByteArray) ++ ⟨[b].toArray⟩ = ⟨(a ++ [b]).toArray⟩) := Lib.hid (cat_of _ _)
              have hab : ((⟨a.toArray⟩ : ByteArray).size : Int) ≤ 1000000 := by rw [size_of]; omega
              have hbs : ((⟨[b].toArray⟩ : ByteArray).size : Int) = 1 := by rw [size_of]; rfl
              generalize (⟨[b].toArray⟩ : ByteArray) = bz at HCO HAB hbs
              have HL := Lib.hid hlen
              have hcc := HCO.out
              clear HS HR hS hlen hc hci
              have HX : Hid (h * 64 + d = X) := Lib.hid hX
              go_wp2_with fail
              refine ⟨⟨pos + 1, X % 4, 2, a ++ [b], by go_num, by go_num, by rw [HAB.out], by go_num, hp, HS2, Lib.hid (HBq.out.alloc (by have := HB.out; have := HBq.out.size; omega) _)⟩, ?_⟩
              simp only [RowKit.intOf]
              omega
            · have hx : h < 64 := hx
              have hS := HS.out
              rw [step6] at hS
              generalize hX : h * 64 + d = X at hS
              have hXl : X < 4096 := by omega
              have hXi : (h : Int) * 64 + (d : Int) = (X : Int) := by omega
              have hc : (UInt8.ofNat (X / 16)).toNat = X / 16 := u8_nat _ (by omega)
              have hci : (X : Int) / 16 = (((UInt8.ofNat (X / 16)).toNat : Nat) : Int) := by rw [hc]; simp
              have ha : bits .and .i64 (X : Int) 15 = ((X % 16 : Nat) : Int) := by
                have := andk_i X 4 (by omega) (by decide)
                simpa using this
              have HCO := Lib.hid (conv_one (UInt8.ofNat (X / 16)) _ hci _ rfl)
              generalize UInt8.ofNat (X / 16) = b at hS HCO
              have HS2 : Hid (UnR s (X % 16) 4 (pos + 1) (a ++ [b])) := Lib.hid { eq := hS, hn := .inr (.inr (.inl rfl)), hx := by show X % 16 < 16; omega, len := by rw [List.length_append]; simp; omega }
              have HAB : Hid ((⟨a.toArray⟩ : ByteArray) ++ ⟨[b].toArray⟩ = ⟨(a ++ [b]).toArray⟩) := Lib.hid (cat_of _ _)
              have hab : ((⟨a.toArray⟩ : ByteArray).size : Int) ≤ 1000000 := by rw [size_of]; omega
              have hbs : ((⟨[b].toArray⟩ : ByteArray).size : Int) = 1 := by rw [size_of]; rfl
              generalize (⟨[b].toArray⟩ : ByteArray) = bz at HCO HAB hbs
              have HL := Lib.hid hlen
              have hcc := HCO.out
              clear HS HR hS hlen hc hci
              have HX : Hid (h * 64 + d = X) := Lib.hid hX
              go_wp2_with fail
              refine ⟨⟨pos + 1, X % 16, 4, a ++ [b], by go_num, by go_num, by rw [HAB.out], by go_num, hp, HS2, Lib.hid (HBq.out.alloc (by have := HB.out; have := HBq.out.size; omega) _)⟩, ?_⟩
              simp only [RowKit.intOf]
              omega
    · have he : ((pos : Int) < (s.size : Int)) = False := by
        apply eq_false
        omega
      obtain rfl : pos = s.size := by omega
      have hru := HR.out.eq
      rw [List.take_of_length_le (by omega)] at hru
      have HG : Hid ((Z = (if putS a = s.data.toList then (⟨a.toArray⟩ : ByteArray) else ⟨#[]⟩)) ∧ Y = decide (putS a = s.data.toList)) := Lib.hid (by
        have hg : getS s.data.toList = if putS a = s.data.toList then some a else none := by
          unfold getS
          rw [hru]
        rw [HZ.out.1, HZ.out.2, hg]
        by_cases hq : putS a = s.data.toList
        · rw [if_pos hq, if_pos hq]; exact ⟨rfl, (decide_eq_true hq).symm⟩
        · rw [if_neg hq, if_neg hq]; exact ⟨rfl, (decide_eq_false hq).symm⟩)
      have hr : Calls Tryd.prog 35 #[.string ⟨a.toArray⟩] wr fun e w' => e = .returned (.string ⟨(putS a).toArray⟩) ∧ wr = w' := rbase_any ⟨a.toArray⟩ wr (by rw [size_of]; have := HR.out.len; omega)
      have HRB := Lib.hid hr
      have HP : Hid ((putS a = s.data.toList) ↔ (⟨(putS a).toArray⟩ : ByteArray) = s) := Lib.hid ⟨fun h => by rw [h, list_bytes], fun h => by rw [← h]⟩
      clear hr hru HR
      generalize (⟨(putS a).toArray⟩ : ByteArray) = PA at HRB HP
      by_cases hq : putS a = s.data.toList
      · have hps := HP.out.1 hq
        have ht : (PA.toList == s.toList) = true := by rw [hps]; simp
        have h1 := HG.out.1
        have h2 := HG.out.2
        rw [if_pos hq] at h1
        rw [decide_eq_true hq] at h2
        clear hps hq
        generalize (⟨a.toArray⟩ : ByteArray) = AA at *
        subst h1 h2
        go_wp2_with fail
        refine HRB.out.mono ?_
        rintro e w2 ⟨rfl, rfl⟩
        go_wp2_with fail
        go_ret2
        exact ⟨rfl, HBl.out⟩
      · have ht : (PA.toList == s.toList) = false := by
          apply beq_false_of_ne
          intro h
          apply hq
          apply HP.out.2
          simp only [ByteArray.toList_eq] at h
          exact ByteArray.ext (Array.toList_inj.1 h)
        have h1 := HG.out.1
        have h2 := HG.out.2
        rw [if_neg hq] at h1
        rw [decide_eq_false hq] at h2
        clear hq
        subst h1 h2
        go_wp2_with fail
        refine HRB.out.mono ?_
        rintro e w2 ⟨rfl, rfl⟩
        go_wp2_with fail
        go_ret2
        exact ⟨rfl, HBl.out⟩
end Go.Proofs.YtkolebnjhndmkaaDoor
/-
  CONTRACT of escape.escapeOf: what is written in a rune's place.
-/
namespace Go.Proofs.YtkolebnjhndmkaaDoor
open Go.RowKit
open Go.Lib
/-- What is written in a rune's place; nothing: it stays. -/
def escO (r : Nat) : List UInt8 :=
  if r = 34 then [92, 34] else if r = 92 then [92, 92] else if r = 8 then [92, 98] else if r = 12 then [92, 102] else if r = 10 then [92, 110] else if r = 13 then [92, 114] else if r = 9 then [92, 116]
  else if r < 32 then [92, 117, 48, 48, hexD (r / 16), hexD (r % 16)] else []
theorem escO_byte (b : UInt8) : escB b = if escO b.toNat = [] then [b] else escO b.toNat := by
  unfold escB escO
  by_cases h1 : b.toNat = 34
  · have : b = 34 := UInt8.toNat_inj.1 h1
    subst this
    rfl
  by_cases h2 : b.toNat = 92
  · have : b = 92 := UInt8.toNat_inj.1 h2
    subst this
    rfl
  rw [if_neg (by omega), if_neg h1, if_neg h2]
  repeat' split
  all_goals first | rfl | simp_all
theorem escO_high {r : Nat} (h : 128 ≤ r) : escO r = [] := by
  unfold escO
  rw [if_neg (by omega), if_neg (by omega), if_neg (by omega), if_neg (by omega), if_neg (by omega), if_neg (by omega), if_neg (by omega), if_neg (by omega)]
def hexS : ByteArray := ⟨#[48, 49, 50, 51, 52, 53, 54, 55, 56, 57, 97, 98, 99, 100, 101, 102]⟩
theorem hexS_at : ∀ n : Fin 16, hexS.extract n.val (n.val + 1) = ⟨#[hexD n.val]⟩ := by decide +kernel
theorem slice_hex (n : Nat) (h : n < 16) (W : World) : (Instr.slice 9 (.string hexS) (some (.int .i32 (n : Int))) (some (.int .i32 ((n : Int) + 1))) none).run Tryd.prog W = .ok (.string ⟨#[hexD n]⟩) W := by
  rw [run_slice_string W 9 hexS .i32 .i32 _ _ Tryd.underlying9 (by omega) (by omega) (by show ((n : Int) + 1) ≤ 16; omega)]
  have := hexS_at ⟨n, h⟩
  simp only [] at this
  rw [← this]
  congr 3
theorem and15 (r : Nat) (h : r < 2147483648) : bits .and .i32 (r : Int) 15 = ((r % 16 : Nat) : Int) := by
  have h1 : (BitVec.ofInt 32 (r : Int)).toNat = r := by
    rw [BitVec.ofInt_natCast, BitVec.toNat_ofNat]; exact Nat.mod_eq_of_lt (by omega)
  have h2 : (BitVec.ofInt 32 (15 : Int)).toNat = 15 := by decide
  show IntKind.i32.wrap ((BitVec.ofInt 32 (r : Int) &&& BitVec.ofInt 32 (15 : Int)).toNat : Int) = _
  rw [BitVec.toNat_and, h1, h2, show 15 = 2 ^ 4 - 1 by decide, Nat.and_two_pow_sub_one_eq_mod, IntKind.wrap_i32]
  omega
set_option maxRecDepth 100000 in
set_option maxHeartbeats 1600000 in
theorem escOf_ctl (r : Nat) (hr : r < 32) (h1 : r ≠ 8) (h2 : r ≠ 9) (h3 : r ≠ 10) (h4 : r ≠ 12) (h5 : r ≠ 13) (w : World) :
    Calls Tryd.prog 62 #[.int .i32 r] w fun e w' => e = .returned (.string ⟨#[92, 117, 48, 48, hexD (r / 16), hexD (r % 16)]⟩) ∧ ∃ q, w' = w.drewN q := by
  have z1 : ((r : Int) == 34) = false := by rw [beq_eq_false_iff_ne]; omega
  have z2 : ((r : Int) == 92) = false := by rw [beq_eq_false_iff_ne]; omega
  have z3 : ((r : Int) == 8) = false := by rw [beq_eq_false_iff_ne]; omega
  have z4 : ((r : Int) == 12) = false := by rw [beq_eq_false_iff_ne]; omega
  have z5 : ((r : Int) == 10) = false := by rw [beq_eq_false_iff_ne]; omega
  have z6 : ((r : Int) == 13) = false := by rw [beq_eq_false_iff_ne]; omega
  have z7 : ((r : Int) == 9) = false := by rw [beq_eq_false_iff_ne]; omega
  have z8 : ((r : Int) < 32) = True := by simp only [eq_iff_iff, iff_true]; omega
  have hS1 := slice_hex (r / 16) (by omega)
  have hS2 := slice_hex (r % 16) (by omega)
  have hb := and15 r (by omega)
  have hw1 : IntKind.i32.wrap ((r : Int) / 16 + 1) = (r : Int) / 16 + 1 := wrap32 _ (by omega) (by omega)
  have hw2 : IntKind.i32.wrap (((r % 16 : Nat) : Int) + 1) = ((r % 16 : Nat) : Int) + 1 := wrap32 _ (by omega) (by omega)
  rw [show ((r / 16 : Nat) : Int) = (r : Int) / 16 by omega] at hS1
  obtain ⟨m, hm⟩ : ∃ m : Int, ((r % 16 : Nat) : Int) = m := ⟨_, rfl⟩
  rw [hm] at hS2 hb hw2
  have hX : (⟨#[92, 117, 48, 48, hexD (r / 16), hexD (r % 16)]⟩ : ByteArray) = (⟨#[92, 117, 48, 48]⟩ ++ ⟨#[hexD (r / 16)]⟩) ++ ⟨#[hexD (r % 16)]⟩ := rfl
  rw [hX]
  obtain ⟨X1, hx1⟩ : ∃ X1 : ByteArray, (⟨#[hexD (r / 16)]⟩ : ByteArray) = X1 := ⟨_, rfl⟩
  obtain ⟨X2, hx2⟩ : ∃ X2 : ByteArray, (⟨#[hexD (r % 16)]⟩ : ByteArray) = X2 := ⟨_, rfl⟩
  have s1 : X1.size = 1 := by rw [← hx1]; rfl
  have s2 : X2.size = 1 := by rw [← hx2]; rfl
  rw [hx1] at hS1
  rw [hx2] at hS2
  rw [hx1, hx2]
  unfold hexS at hS1 hS2
  clear hx1 hx2 hX hm h1 h2 h3 h4 h5 hr
  go_enter Tryd.func62, Tryd.ntmps62
  go_wp2_with fail
  go_quiet (fail)
  go_wp2
  go_ret
  exact ⟨rfl, nq, rfl⟩
set_option maxRecDepth 100000 in
set_option maxHeartbeats 1600000 in
theorem escOf_any (r : Nat) (w : World) :
    Calls Tryd.prog 62 #[.int .i32 r] w fun e w' => e = .returned (.string ⟨(escO r).toArray⟩) ∧ ∃ q, w' = w.drewN q := by
  by_cases c0 : r = 34
  · subst c0
    go_enter Tryd.func62, Tryd.ntmps62
    go_wp2
    go_ret
    exact ⟨rfl, 0, rfl⟩
  by_cases c1 : r = 92
  · subst c1
    go_enter Tryd.func62, Tryd.ntmps62
    go_wp2
    go_ret
    exact ⟨rfl, 0, rfl⟩
  by_cases c2 : r = 8
  · subst c2
    go_enter Tryd.func62, Tryd.ntmps62
    go_wp2
    go_ret
    exact ⟨rfl, 0, rfl⟩
  by_cases c3 : r = 12
  · subst c3
    go_enter Tryd.func62, Tryd.ntmps62
    go_wp2
    go_ret
    exact ⟨rfl, 0, rfl⟩
  by_cases c4 : r = 10
  · subst c4
    go_enter Tryd.func62, Tryd.ntmps62
    go_wp2
    go_ret
    exact ⟨rfl, 0, rfl⟩
  by_cases c5 : r = 13
  · subst c5
    go_enter Tryd.func62, Tryd.ntmps62
    go_wp2
    go_ret
    exact ⟨rfl, 0, rfl⟩
  by_cases c6 : r = 9
  · subst c6
    go_enter Tryd.func62, Tryd.ntmps62
    go_wp2
    go_ret
    exact ⟨rfl, 0, rfl⟩
  by_cases c8 : r < 32
  · have he : escO r = [92, 117, 48, 48, hexD (r / 16), hexD (r % 16)] := by
      unfold escO
      rw [if_neg c0, if_neg c1, if_neg c2, if_neg c3, if_neg c4, if_neg c5, if_neg c6, if_pos c8]
    rw [he]
    exact escOf_ctl r c8 c2 c6 c4 c3 c5 w
  have he : escO r = [] := by
    unfold escO
    rw [if_neg c0, if_neg c1, if_neg c2, if_neg c3, if_neg c4, if_neg c5, if_neg c6, if_neg c8]
  rw [he]
  have z1 : ((r : Int) == 34) = false := by rw [beq_eq_false_iff_ne]; omega
  have z2 : ((r : Int) == 92) = false := by rw [beq_eq_false_iff_ne]; omega
  have z3 : ((r : Int) == 8) = false := by rw [beq_eq_false_iff_ne]; omega
  have z4 : ((r : Int) == 12) = false := by rw [beq_eq_false_iff_ne]; omega
  have z5 : ((r : Int) == 10) = false := by rw [beq_eq_false_iff_ne]; omega
  have z6 : ((r : Int) == 13) = false := by rw [beq_eq_false_iff_ne]; omega
  have z7 : ((r : Int) == 9) = false := by rw [beq_eq_false_iff_ne]; omega
  have z8 : ((r : Int) < 32) = False := by simp only [eq_iff_iff, iff_false]; omega
  clear c0 c1 c2 c3 c4 c5 c6 c8 he
  go_enter Tryd.func62, Tryd.ntmps62
  go_wp2
  go_ret
  exact ⟨rfl, 0, rfl⟩
theorem head_take {l : List UInt8} {n : Nat} {a : UInt8} {rest : List UInt8} (h : a :: rest = l.take n) : l.getD 0 0 = a := by
  match l, n, h with
  | [], n, h => simp at h
  | x :: t, 0, h => simp at h
  | x :: t, n + 1, h =>
    rw [List.take_succ_cons] at h
    injection h with h1 _
    exact h1.symm
/-- The bytes of a rune that is none of ASCII are none, either. -/
theorem hi_bytes (l : List UInt8) (hne : l ≠ []) (h0 : 128 ≤ (l.getD 0 0).toNat) : ∀ b ∈ l.take (decodeL l).2, 128 ≤ b.toNat := by
  by_cases hg : (decodeL l).1 = 65533 ∧ (decodeL l).2 = 1
  · rw [hg.2]
    match l, hne with
    | a :: t, _ =>
      intro b hb
      simp only [List.take_succ_cons, List.take_zero, List.mem_singleton] at hb
      subst hb
      exact h0
  · obtain ⟨hr, he, hl⟩ := enc_dec l hne hg
    rw [← he]
    obtain ⟨a, rest, hf, h⟩ := enc_form hr
    rw [hf] at he ⊢
    have ha : l.getD 0 0 = a := head_take he
    rw [ha] at h0
    rcases h with ⟨hr0, hn, hlt⟩ | ⟨hge, lo, hi, h1, h2, h3, h4, h5, h6, h7⟩
    · omega
    · intro b hb
      clear he hf ha
      rcases List.mem_cons.1 hb with e | hb
      · rw [e]; exact h0
      · exact (h7 b hb).1
theorem escW_high (l : List UInt8) (h : ∀ b ∈ l, 128 ≤ b.toNat) : escW l = l := by
  induction l with
  | nil => rfl
  | cons b t ih =>
    rw [escW_cons, esc_high (h b (by simp)), ih (fun c hc => h c (by simp [hc]))]
    rfl
end Go.Proofs.YtkolebnjhndmkaaDoor
/-
  CONTRACT of escape.Write: the inside of a text's string, by a range over it and a Builder.
-/
namespace Go.Proofs.YtkolebnjhndmkaaDoor
open Go.RowKit
open Go.Lib
structure WrS (s : ByteArray) (B : Nat) (w0 wr : World) (kb bb pos at_ : Nat) (acc : List UInt8) : Prop where
  bld : IsB B bb acc wr
  it : wr.heap[kb]? = some (.stringIter s pos)
  below : Below B w0 wr
  hle : at_ ≤ pos
  hsz : at_ ≤ s.size
  eq : acc ++ (s.data.toList.take pos).drop at_ = escW (s.data.toList.take pos)
  hB : B ≤ bb
  hkb : bb < kb
theorem WrS.len {s : ByteArray} {B : Nat} {w0 wr : World} {kb bb pos at_ : Nat} {acc : List UInt8} (h : WrS s B w0 wr kb bb pos at_ acc) : acc.length ≤ 6 * s.size := by
  have h1 := congrArg List.length h.eq
  have h2 := escW_len (s.data.toList.take pos)
  rw [List.length_append] at h1
  have h3 : (s.data.toList.take pos).length ≤ s.size := by
    rw [List.length_take, size_list]
    omega
  omega
theorem WrS.sz {s : ByteArray} {B : Nat} {w0 wr : World} {kb bb pos at_ : Nat} {acc : List UInt8} (h : WrS s B w0 wr kb bb pos at_ acc) : B ≤ wr.heap.size := by
  have := (Array.getElem?_eq_some_iff.1 h.it).1
  have := h.hB
  have := h.hkb
  omega
theorem take_add' (l : List UInt8) (p n : Nat) : l.take (p + n) = l.take p ++ (l.drop p).take n := by rw [List.take_add]
theorem getD_at (s : ByteArray) (pos : Nat) (h : pos < s.size) : (s.data.toList.drop pos).getD 0 0 = s[pos]'h := by
  have hl : s.data.toList.length = s.size := size_list s
  rw [List.getD_eq_getElem?_getD, List.getElem?_drop, Nat.add_zero, List.getElem?_eq_getElem (by omega)]
  rfl
theorem drop_ne (s : ByteArray) (pos : Nat) (h : pos < s.size) : s.data.toList.drop pos ≠ [] := by
  intro e
  have := congrArg List.length e
  rw [List.length_drop, size_list] at this
  simp at this
  omega
theorem drop_head (s : ByteArray) (pos : Nat) (h : pos < s.size) : (s.data.toList.drop pos).take 1 = [s[pos]'h] := by
  have h1 := getD_at s pos h
  have h2 := drop_ne s pos h
  match hh : s.data.toList.drop pos, h2 with
  | x :: t, _ =>
    rw [hh] at h1
    simp only [List.getD_cons_zero] at h1
    rw [h1]
    rfl
/-- What is read of a rune that stays, or not. -/
theorem dec_keep (s : ByteArray) (pos : Nat) (h : pos < s.size) (he : escO (Utf8.decode s pos).1 = []) : escW ((s.data.toList.drop pos).take (Utf8.decode s pos).2) = (s.data.toList.drop pos).take (Utf8.decode s pos).2 := by
  by_cases ha : (s[pos]'h).toNat < 128
  · rw [decode_ascii s pos h ha] at he ⊢
    simp only [] at he ⊢
    rw [drop_head s pos h, escW_cons, escO_byte, if_pos he]
    rfl
  · refine escW_high _ ?_
    have := hi_bytes (s.data.toList.drop pos) (drop_ne s pos h) (by rw [getD_at s pos h]; omega)
    rw [decodeL_drop s pos] at this
    exact this
theorem dec_esc (s : ByteArray) (pos : Nat) (h : pos < s.size) (he : escO (Utf8.decode s pos).1 ≠ []) : Utf8.decode s pos = ((s[pos]'h).toNat, 1) ∧ escB (s[pos]'h) = escO (Utf8.decode s pos).1 := by
  by_cases ha : (s[pos]'h).toNat < 128
  · have := decode_ascii s pos h ha
    rw [this] at he ⊢
    simp only [] at he ⊢
    exact ⟨trivial, by rw [escO_byte, if_neg he]⟩
  · have := decode_high s pos h (by omega)
    exact absurd (escO_high this.1) he
theorem wid_pos (s : ByteArray) (pos : Nat) (h : pos < s.size) : 1 ≤ (Utf8.decode s pos).2 := by
  by_cases ha : (s[pos]'h).toNat < 128
  · rw [decode_ascii s pos h ha]
    exact Nat.le_refl _
  · exact (decode_high s pos h (by omega)).2
theorem ext_l (s : ByteArray) (a k : Nat) : (s.extract a k).data.toList = (s.data.toList.take k).drop a := ext_list s a k
theorem drop_app (a b : List UInt8) (k : Nat) (h : k ≤ a.length) : (a ++ b).drop k = a.drop k ++ b := by
  rw [List.drop_append_of_le_length h]
theorem str_ne {z : ByteArray} {l : List UInt8} (hz : z = ⟨l.toArray⟩) (hl : l ≠ []) : z.toList.isEmpty = false ∧ (z.toList = []) = False := by
  have : z.toList = l := by rw [hz, ByteArray.toList_eq]
  rw [this]
  exact ⟨by cases l with | nil => exact absurd rfl hl | cons => rfl, by simp [hl]⟩
set_option maxRecDepth 100000 in
set_option maxHeartbeats 4000000 in
/-- WRITE. -/
theorem write_any (s : ByteArray) (w : World) (hs : s.size ≤ 1000000) :
    Calls Tryd.prog 53 #[.string s] w fun e w' => e = .returned (.string ⟨(escW s.data.toList).toArray⟩) ∧ Below w.heap.size w w' := by
  have hl : s.data.toList.length = s.size := size_list s
  obtain ⟨B, hB⟩ : ∃ B, B = w.heap.size := ⟨_, rfl⟩
  have H0 : Hid (WrS s w.heap.size w ((w.alloc (.cells #[.pointer none, .slice none 0 0] 75)).iter s 0) (w.heap.size + 1) w.heap.size 0 0 []) := Lib.hid {
    bld := (Lib.IsBuilderF.of (Lib.fresh_isBuilder 75 5 w)).alloc _
    it := by
      have := World.iter_heap (w.alloc (.cells #[.pointer none, .slice none 0 0] 75)) s 0
      simpa using this
    below := ((Below.refl _ w).alloc (Nat.le_refl _) _).alloc (by simp) _
    hle := Nat.le_refl _
    hsz := Nat.zero_le _
    eq := by simp [escW]
    hB := Nat.le_refl _
    hkb := by omega }
  have HB := Lib.hid hB
  rw [← hB]
  rw [← hB] at H0
  clear hB
  obtain ⟨Z, hZ⟩ : ∃ Z : ByteArray, Z = ⟨(escW s.data.toList).toArray⟩ := ⟨_, rfl⟩
  rw [← hZ]
  have HZ := Lib.hid hZ
  clear hZ
  go_enter Tryd.func53, Tryd.ntmps53
  go_wp2_with fail
  rw [← HB.out]
  generalize (w.alloc (.cells #[.pointer none, .slice none 0 0] 75)).iter s 0 = W at H0 ⊢
  generalize hkb : B + 1 = kb at H0 ⊢
  clear hkb HB
  go_loopw [4] (fun a wr => ∃ (pos at_ : Nat) (acc : List UInt8), a = .int .i64 at_ ∧ Hid (WrS s B w wr kb B pos at_ acc)) (fun _ wr => s.size - wr.iterPos kb)
  case atStart => exact ⟨0, 0, [], rfl, H0⟩
  case round =>
    obtain ⟨pos, at_, acc, rfl, HC⟩ := hrel
    clear H0
    have hit := HC.out.it
    have hipos : wr.iterPos kb = pos := by simp only [World.iterPos, hit]
    by_cases hp : pos < s.size
    · have hnx : ∀ ty, (Instr.next (.pointer (some ⟨kb, 0, none⟩)) true ty).run Tryd.prog wr = _ := fun ty => Lib.run_next_any_at wr kb s pos ty hit hp
      have F1 := wid_pos s pos hp
      have F2 := dec_keep s pos hp
      have F3 : escO (Utf8.decode s pos).1 ≠ [] → (Utf8.decode s pos).2 = 1 ∧ escW (s.data.toList.take (pos + 1)) = escW (s.data.toList.take pos) ++ escO (Utf8.decode s pos).1 := by
        intro h
        obtain ⟨h1, h2⟩ := dec_esc s pos hp h
        refine ⟨by rw [h1], ?_⟩
        rw [take_add', drop_head s pos hp, escW_append, ← h2]
        simp [escW]
      have hE := escOf_any (Utf8.decode s pos).1
      generalize (Utf8.decode s pos).1 = r at *
      generalize (Utf8.decode s pos).2 = n at *
      have hit2 := Lib.iterAt_heap wr kb s pos (pos + n) hit
      have h1 : WrS s B w (wr.iterAt kb s (pos + n)) kb B pos at_ acc → False ∨ True := fun _ => .inr trivial
      have hI2 : IsB B B acc (wr.iterAt kb s (pos + n)) := HC.out.bld.iterAt hit (pos + n)
      have hb2 : Below B w (wr.iterAt kb s (pos + n)) := Lib.below_iterAt HC.out.below (Nat.le_of_lt HC.out.hkb) s (pos + n)
      have hsz2 : B ≤ (wr.iterAt kb s (pos + n)).heap.size := by rw [Lib.iterAt_size]; exact HC.out.sz
      have H2 := Lib.hid (And.intro hit2 (And.intro hI2 (And.intro hb2 hsz2)))
      have HE := Lib.hid hE
      have hat : at_ ≤ (s.data.toList.take pos).length := by
        have := HC.out.hle
        have := HC.out.hsz
        rw [List.length_take, hl]
        omega
      clear h1 hit2 hI2 hb2 hsz2 hE
      generalize wr.iterAt kb s (pos + n) = W1 at H2 hnx ⊢
      by_cases h0 : escO r = []
      · have F := F2 h0
        have HN : ∀ q, Hid (WrS s B w (W1.drewN q) kb B (pos + n) at_ acc) := fun q => Lib.hid {
          bld := H2.out.2.1
          it := H2.out.1
          below := below_drewN H2.out.2.2.1 q
          hle := by have := HC.out.hle; omega
          hsz := HC.out.hsz
          eq := by rw [take_add', drop_app _ _ _ hat, escW_append, F, ← HC.out.eq, List.append_assoc]
          hB := HC.out.hB
          hkb := HC.out.hkb }
        rw [h0] at HE
        clear F F2 F3 h0 hat
        go_wp2_with fail
        refine (HE.out _).mono ?_
        rintro e w2 ⟨rfl, q, rfl⟩
        have HM := HN q
        go_wp2
        go_roundw
        case rel => exact ⟨pos + n, at_, acc, rfl, HM⟩
        case measure =>
          have := HM.out.it
          simp only [World.iterPos, this, hit]
          omega
      · obtain ⟨rfl, F⟩ := F3 h0
        obtain ⟨z, hz⟩ : ∃ z : ByteArray, z = ⟨(escO r).toArray⟩ := ⟨_, rfl⟩
        have hzl : z.data.toList = escO r := by rw [hz]
        obtain ⟨hz1, hz2⟩ := str_ne hz h0
        rw [← hz] at HE
        have hls := escW_len (s.data.toList.take pos)
        have hts : (s.data.toList.take pos).length ≤ s.size := by rw [List.length_take, hl]; omega
        have hel : (escO r).length ≤ 6 := by
          unfold escO
          repeat' split
          all_goals simp
        have hS := slice_str_lh s at_ pos HC.out.hle (Nat.le_of_lt hp)
        obtain ⟨y, hy⟩ : ∃ y, s.extract at_ pos = y := ⟨_, rfl⟩
        rw [hy] at hS
        have hyl : y.data.toList = (s.data.toList.take pos).drop at_ := by rw [← hy]; exact ext_l s at_ pos
        have heq := HC.out.eq
        rw [← hyl] at heq
        have hyz : y.size ≤ s.size := by
          rw [← size_list y, hyl, List.length_drop]
          omega
        have hzz : z.size ≤ 6 := by rw [← size_list z, hzl]; exact hel
        have HL := Lib.hid (And.intro heq (And.intro hzl (And.intro F (And.intro hls (And.intro hts (And.intro hyz hzz))))))
        have hyz' : (y.size : Int) ≤ 2000000 := by omega
        have hzz' : (z.size : Int) ≤ 6 := by omega
        clear heq hzl F hls hts hel hy hyl hz F2 F3 h0 hat hyz hzz
        go_wp2_with fail
        refine (HE.out _).mono ?_
        rintro e w2 ⟨rfl, q, rfl⟩
        have H3 : Hid ((W1.drewN q).heap[kb]? = some (.stringIter s (pos + 1)) ∧ IsB B B acc (W1.drewN q) ∧ Below B w (W1.drewN q) ∧ B ≤ (W1.drewN q).heap.size) := Lib.hid ⟨H2.out.1, H2.out.2.1, below_drewN H2.out.2.2.1 q, H2.out.2.2.2⟩
        generalize W1.drewN q = W2 at H3 ⊢
        clear H2 HE
        go_wp2_with fail
        refine (sb_write B B acc y W2 H3.out.2.1 (by have := HC.out.len; have := HL.out; omega) H3.out.2.2.2).mono ?_
        rintro e w3 ⟨rfl, i3, b3, k3⟩
        have hk3 := k3.iter H3.out.1 (by have := HC.out.hkb; omega)
        rw [HL.out.1] at i3
        have H4 : Hid (w3.heap[kb]? = some (.stringIter s (pos + 1)) ∧ IsB B B (escW (s.data.toList.take pos)) w3 ∧ Below B w w3 ∧ B ≤ w3.heap.size) := Lib.hid ⟨hk3, i3, H3.out.2.2.1.trans b3, Nat.le_trans H3.out.2.2.2 (by
          have := (Array.getElem?_eq_some_iff.1 H3.out.1).1
          have := (Array.getElem?_eq_some_iff.1 hk3).1
          have := HC.out.hkb
          have := b3.size
          omega)⟩
        clear hk3 i3 b3 k3 H3
        go_wp2_with fail
        refine (sb_write B B _ z w3 H4.out.2.1 (by have := HL.out; omega) H4.out.2.2.2).mono ?_
        rintro e w4 ⟨rfl, i4, b4, k4⟩
        have hk4 := k4.iter H4.out.1 (by have := HC.out.hkb; omega)
        rw [HL.out.2.1, ← HL.out.2.2.1] at i4
        have HM : Hid (WrS s B w w4 kb B (pos + 1) (pos + 1) (escW (s.data.toList.take (pos + 1)))) := Lib.hid {
          bld := i4
          it := hk4
          below := H4.out.2.2.1.trans b4
          hle := Nat.le_refl _
          hsz := by omega
          eq := by rw [List.drop_of_length_le (by rw [List.length_take]; omega), List.append_nil]
          hB := HC.out.hB
          hkb := HC.out.hkb }
        clear hk4 i4 b4 k4 H4
        go_wp2
        go_roundw
        case rel => exact ⟨pos + 1, pos + 1, _, by go_num, HM⟩
        case measure =>
          have := HM.out.it
          simp only [World.iterPos, this, hit]
          omega
    · have hnx : ∀ ty, (Instr.next (.pointer (some ⟨kb, 0, none⟩)) true ty).run Tryd.prog wr = _ := fun ty => Lib.run_next_end_at wr kb s pos ty hit hp
      have hS := slice_str_lo s at_ HC.out.hsz
      obtain ⟨y, hy⟩ : ∃ y, s.extract at_ s.size = y := ⟨_, rfl⟩
      rw [hy] at hS
      have hyl : y.data.toList = (s.data.toList.take s.size).drop at_ := by rw [← hy]; exact ext_l s at_ s.size
      have heq := HC.out.eq
      rw [List.take_of_length_le (by omega)] at heq
      rw [List.take_of_length_le (by omega)] at hyl
      rw [← hyl] at heq
      have hyz : y.size ≤ s.size := by rw [← size_list y, hyl, List.length_drop]; omega
      have HL := Lib.hid heq
      clear heq hyl hy
      go_wp2_with fail
      refine (sb_write B B acc y wr HC.out.bld (by have := HC.out.len; omega) HC.out.sz).mono ?_
      rintro e w3 ⟨rfl, i3, b3, k3⟩
      have hk3 := k3.iter hit (by have := HC.out.hkb; omega)
      rw [HL.out] at i3
      have hZ := HZ.out
      have hs3 : B ≤ w3.heap.size := by
        have := (Array.getElem?_eq_some_iff.1 hk3).1
        have := HC.out.hkb
        omega
      have hS3 := sb_string B B _ w3 i3 hs3
      rw [← hZ] at hS3
      have H3 := Lib.hid hS3
      have H4 := Lib.hid (HC.out.below.trans b3)
      clear hk3 i3 b3 k3 hZ hS3
      go_wp2_with fail
      refine H3.out.mono ?_
      rintro e w4 ⟨rfl, _, b4, _⟩
      have H5 := Lib.hid (H4.out.trans b4)
      clear b4
      go_wp2
      go_ret
      exact ⟨rfl, H5.out⟩
end Go.Proofs.YtkolebnjhndmkaaDoor
