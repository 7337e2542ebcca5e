/- Texts as Go holds them: their bytes, their pieces. No condition but those in each statement. -/
import Derived.Test.YtomidcbpnaajeaaGreatChecked
import Derived.WalkKit
import Derived.WalkSpells
import Derived.Lib.Hide
import Derived.Lib.SmallJoins
import Derived.Lib.AppendIntMem
import Derived.Deep.DeepFit
import Derived.IntWalk
import Derived.KernelRfl
namespace Go.Proofs.YtomidcbpnaajeaaGreat
open Go.RowKit Go.Lib
set_option linter.unusedVariables false

def str (l : List UInt8) : ByteArray := ⟨l.toArray⟩
theorem ret_str {a b : ByteArray} (h : a = b) : Ending.returned (.string a) = .returned (.string b) := by rw [h]
theorem str_size (l : List UInt8) : (str l).size = l.length := rfl
theorem str_append (x y : List UInt8) : str x ++ str y = str (x ++ y) := ByteArray.mk_append_mk x y

theorem str_beq (a b : List UInt8) : ((str a).toList == (str b).toList) = (a == b) := by rw [str, str, ByteArray.toList_mk, ByteArray.toList_mk]

/-! ### A text's bytes, its pieces -/
theorem idx_run (l : List UInt8) (k : Nat) (hk : k < l.length) (w : World) : (Instr.index 9 (.string (str l)) (.int .i64 k)).run Tryz.prog w = .ok (.int .u8 ((l[k]).toNat : Int)) w := by
  rw [run_index_string w _ _ _ _ (by kernel_rfl), dif_pos (by rw [str_size]; omega)]
  rfl
theorem idx_zero (c : UInt8) (r : List UInt8) (w : World) : (Instr.index 9 (.string (str (c :: r))) (.int .i64 0)).run Tryz.prog w = .ok (.int .u8 (c.toNat : Int)) w := idx_run (c :: r) 0 (by simp) w
theorem from_run (l : List UInt8) (k : Nat) (hk : k ≤ l.length) (w : World) : (Instr.slice 9 (.string (str l)) (some (.int .i64 k)) none none).run Tryz.prog w = .ok (.string (str (l.drop k))) w := by
  rw [run_slice_string_from_if w _ _ _ _ (by kernel_rfl), if_pos (by rw [str_size]; omega)]
  rw [Int.toNat_natCast, str_size]
  unfold str
  rw [ByteArray.extract_mk, List.take_of_length_le (by rw [List.length_drop]; omega)]
theorem to_run (l : List UInt8) (k : Nat) (hk : k ≤ l.length) (w : World) : (Instr.slice 9 (.string (str l)) none (some (.int .i64 k)) none).run Tryz.prog w = .ok (.string (str (l.take k))) w := by
  rw [run_slice_string_to_if w _ _ _ _ (by kernel_rfl), if_pos (by rw [str_size]; omega)]
  rw [Int.toNat_natCast]
  unfold str
  rw [ByteArray.extract_mk, List.drop_zero, Nat.sub_zero]
end Go.Proofs.YtomidcbpnaajeaaGreat
