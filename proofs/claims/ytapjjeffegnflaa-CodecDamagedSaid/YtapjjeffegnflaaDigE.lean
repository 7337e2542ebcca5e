/- What the statements' functions of layer 10 (digest) want: append of a row at a step of a drawn region; sums of texts. Conditions: those in each statement. -/
import Derived.Test.YtapjjeffegnflaaDigD
import Derived.Test.YtapjjeffegnflaaWirG
import Derived.Deep.RegionHeld3
import Derived.Maps.AppendAt
namespace Go.Proofs.Ytapjjeffegnflaa.Dig
open Go.RowKit Cmd Bat Wir
set_option linter.unusedVariables false

set_option maxRecDepth 100000 in
theorem add_run (a b : List UInt8) (h : a.length + b.length ≤ 1000000) (w : World) : (Op.stringOp .add (str a) (str b)).run Try.prog w = .ok (.string (str (a ++ b))) w := by
  rw [run_string_add_sum w _ _ (by rw [str_size, str_size]; omega), str_append]
/-- append of a row to a row of the call's own, at a step of a drawn region. -/
theorem step_rows {ops : Array Oper} {o : Oper} {a : Act} {w : World} {K : Act → World → Prop} {Q : Exit → Act → World → Prop} {E : Prop}
    (hw : Region.wanted o (yielded ops a.tmps) = true) (s x : Operand) (ho : o.op = .call { callee := .builtin .append, args := #[s, x], argTypes := #[29, 29] })
    (base : Nat) (v : Value) (zs : List UInt8) (hs : a.eval s = v) (hv : OwnB w base v zs) (hb : base ≤ w.heap.size) (u : Value) (ys : List UInt8) (hx : a.eval x = u) (hu : layB.Row w u ys) (hl : zs.length + ys.length ≤ 1000000)
    (hK : ∀ v' w', Hid (OwnB w' base v' (zs ++ ys)) → Hid (Below base w w') → K (a.put o.dst v') w') : if Region.wanted o (yielded ops a.tmps) = true then Oper.wp Try.prog o a w K Q else E := by
  obtain ⟨i0, hi, hz0, hz1, hz2⟩ := info_parts info_byte
  rw [if_pos hw]
  have hu' := hu
  obtain ⟨p, cap, rfl, h1, h2, h3⟩ := hu
  unfold Oper.wp
  cases p with
  | none =>
    have hy : ys = [] := Classical.byContradiction fun hy => by obtain ⟨_, _, e, _⟩ := h3 hy; cases e
    subst hy
    have hr := run_void w o.type base v zs cap hv
    simp [execOp, ho, resolve, invoke, builtin, hs, hx, hr, Result.andThen]
    exact hK v w (Lib.hid (by rw [List.append_nil]; exact hv)) (Lib.hid (Below.refl _ _))
  | some ad =>
    obtain ⟨v', w', hr, r1, r2, -, -⟩ := run_append_own_at (P := Try.prog) (w := w) base 29 o.type 5 i0 _ 1 1 Try.underlying29 hi hz0 hz1 hz2 rfl (by decide) v zs.length (zs.map encB) hv ad ys.length cap (ys.map encB) (by simp) (row_olds hu' ad rfl) (fun u hu => by obtain ⟨y, _, rfl⟩ := List.mem_map.1 hu; rfl) (by unfold maxLen; omega) (by omega) hb
    simp [execOp, ho, resolve, invoke, builtin, hs, hx, hr, Result.andThen]
    refine hK v' w' (Lib.hid ?_) (Lib.hid (below_grown (Below.refl _ _) (Nat.le_refl _) hv hb r2))
    unfold OwnB; rw [List.length_append, List.map_append]; exact r1
end Go.Proofs.Ytapjjeffegnflaa.Dig
