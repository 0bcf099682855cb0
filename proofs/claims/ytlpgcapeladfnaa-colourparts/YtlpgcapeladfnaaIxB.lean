/- What strings.IndexByte answers: the shelf's contract, laid at this program. No condition. -/
import Derived.Shelf.Small.Strs
import Derived.Lib.IndexBytes
import Derived.Test.YtlpgcapeladfnaaProg
namespace Go.Proofs.Ytlpgcapeladfnaa
open Go.Shelf Go.RowKit
set_option maxRecDepth 100000

def ibren : Go.Shelf.Ren := ⟨fun | 137 => 17 | 217 => 23 | 266 => 24 | n => n, fun | 3 => 3 | 5 => 5 | 9 => 9 | n => n, fun  | n => n⟩
theorem lays137 : Go.Proofs.Lays.n137 Try.prog ibren := {
  mixed := by kernel_rfl
  f137 := Try.func17.trans (congrArg some (by kernel_rfl))
  f217 := Try.func23.trans (congrArg some (by kernel_rfl))
  f266 := Try.func24.trans (congrArg some (by kernel_rfl))
  t3 := Try.underlying3
  a3 := Try.isAgg3
  z3 := Try.sizeOf3
  v3 := Try.zeroValue3
  t5 := Try.underlying5
  a5 := Try.isAgg5
  z5 := Try.sizeOf5
  v5 := Try.zeroValue5
  t9 := Try.underlying9
  a9 := Try.isAgg9
  z9 := Try.sizeOf9
  v9 := Try.zeroValue9 }
theorem indexByte_is (s : ByteArray) (c : UInt8) (w : World) :
    Calls Try.prog 17 #[.string s, .int .u8 (c.toNat : Int)] w fun e w' => e = .returned (.int .i64 (Lib.indexByte s.data.toList c)) ∧ w' = w := by
  have := Any.strings_IndexByte lays137 s (c.toNat : Int) w
  rw [show ((c.toNat : Int)).toNat.toUInt8 = c by simp] at this
  exact this

end Go.Proofs.Ytlpgcapeladfnaa
