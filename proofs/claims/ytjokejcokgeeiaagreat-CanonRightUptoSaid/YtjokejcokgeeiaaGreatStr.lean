/- Texts as Go holds them: their bytes, their pieces. No condition but those in each statement. -/
import Derived.Test.YtjokejcokgeeiaaGreatChecked
import Derived.WalkKit
import Derived.WalkSpells
import Derived.Lib.Hide
import Derived.Lib.SmallJoins
import Derived.Lib.AppendIntMem
import Derived.Deep.DeepFit
import Derived.IntWalk
import Derived.KernelRfl
namespace Go.Proofs.YtjokejcokgeeiaaGreat
open Go.RowKit Go.Lib
set_option linter.unusedVariables false

def str (l : List UInt8) : ByteArray := ⟨l.toArray⟩
theorem str_size (l : List UInt8) : (str l).size = l.length := rfl

/-! ### A text's bytes, its pieces -/
theorem idx_run (l : List UInt8) (k : Nat) (hk : k < l.length) (w : World) : (Instr.index 9 (.string (str l)) (.int .i64 k)).run Tryz.prog w = .ok (.int .u8 ((l[k]).toNat : Int)) w := by
  rw [run_index_string w _ _ _ _ (by kernel_rfl), dif_pos (by rw [str_size]; omega)]
  rfl
end Go.Proofs.YtjokejcokgeeiaaGreat
