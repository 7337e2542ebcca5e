/- What the program's Writes and the document's give: the places of the commands that write a key (layer 7, batch). Conditions: the list lies in memory as its cells say, is not longer than 100000; numbers' words of 64 bits; texts of a length that Go reads. -/
import Derived.Test.YtdnabghhjlhjoaaBatD
import Derived.Maps.AppendAt
import Derived.WalkSmall
import Derived.Sort.EncStr
namespace Go.Proofs.Ytdnabghhjlhjoaa.Bat
open Go.RowKit Cmd
set_option linter.unusedVariables false

/-! ### Rows of the call's own, of one cell an element -/
def encI (x : Int) : Value := .int .i64 x
theorem rowI {w : World} {base : Nat} {e : TypeId} {v : Value} {zs : List Int} (h : w.ownsRow base e 1 v zs.length (zs.map encI)) : layI.Row w v zs := own_row (L := layI) (enc := encI) (fun _ _ => rfl) (fun _ _ _ _ h => h) h
theorem rowS {w : World} {base : Nat} {e : TypeId} {v : Value} {zs : List (List UInt8)} (h : w.ownsRow base e 1 v zs.length (zs.map encStr)) : layS.Row w v zs := own_row (L := layS) (enc := encStr) (fun _ _ => rfl) (fun _ _ _ _ h => h) h
abbrev OwnI (w : World) (base : Nat) (v : Value) (zs : List Int) : Prop := w.ownsRow base 3 1 v zs.length (zs.map encI)
abbrev OwnS (w : World) (base : Nat) (v : Value) (zs : List (List UInt8)) : Prop := w.ownsRow base 9 1 v zs.length (zs.map encStr)
theorem OwnI.snoc {w : World} {base : Nat} {v : Value} {zs : List Int} {x : Int} (h : w.ownsRow base 3 1 v (zs.length + 1) (zs.map encI ++ [.int .i64 x])) : OwnI w base v (zs ++ [x]) := by
  unfold OwnI; rw [List.length_append, List.map_append]; exact h
theorem OwnS.snoc {w : World} {base : Nat} {v : Value} {zs : List (List UInt8)} {x : List UInt8} (h : w.ownsRow base 9 1 v (zs.length + 1) (zs.map encStr ++ [.string (str x)])) : OwnS w base v (zs ++ [x]) := by
  unfold OwnS; rw [List.length_append, List.map_append]; exact h
theorem info_int : (Try.prog.info? 3).map (fun i => (i.zero, i.size, i.bytes)) = some (some (.int .i64 0), 1, 8) := by kernel_rfl
theorem info_str : (Try.prog.info? 9).map (fun i => (i.zero, i.size, i.bytes)) = some (some (.string ⟨#[]⟩), 1, 16) := by kernel_rfl

/-! ### The places of those that write a key -/
def plc (zs : List Cmdn) (s : List UInt8) (k : Nat) : List Int := ((List.range k).filter fun j => decide ((layC.at zs j).2.1 = s) && wrt (layC.at zs j)).map fun j => ((j : Nat) : Int)
theorem plc_zero (zs : List Cmdn) (s : List UInt8) : plc zs s 0 = [] := rfl
theorem plc_yes {zs : List Cmdn} {s : List UInt8} {k : Nat} (h : (decide ((layC.at zs k).2.1 = s) && wrt (layC.at zs k)) = true) : plc zs s (k + 1) = plc zs s k ++ [(k : Int)] := by
  unfold plc; rw [List.range_succ, List.filter_append, List.map_append]; simp only [List.filter_cons, h, if_true, List.filter_nil, List.map_cons, List.map_nil]
theorem plc_no {zs : List Cmdn} {s : List UInt8} {k : Nat} (h : (decide ((layC.at zs k).2.1 = s) && wrt (layC.at zs k)) = false) : plc zs s (k + 1) = plc zs s k := by
  unfold plc; rw [List.range_succ, List.filter_append, List.map_append]; simp only [List.filter_cons, h, Bool.false_eq_true, if_false, List.filter_nil, List.map_nil, List.append_nil]
theorem plc_len (zs : List Cmdn) (s : List UInt8) (k : Nat) : (plc zs s k).length ≤ k := by
  unfold plc; rw [List.length_map]; exact Nat.le_trans (List.length_filter_le _ _) (by rw [List.length_range]; exact Nat.le_refl _)
def places (zs : List Cmdn) (s : List UInt8) : List Int := plc zs s zs.length


end Go.Proofs.Ytdnabghhjlhjoaa.Bat
