/- What PutText, GetText and the document's Text give (layer 9, wire). Conditions: the bytes lie in memory as their cells say; they, and the text, are not more than 100000. -/
import Derived.Test.YtacgmhnalbbgbaaWirE
import Derived.Lib.AppendStr
namespace Go.Proofs.Ytacgmhnalbbgbaa.Wir
open Go.RowKit Cmd Bat
set_option linter.unusedVariables false

/-! ### What is appended: a text, a row -/
theorem str_cells (s : List UInt8) : Lib.strCells (str s) = s.map encB := rfl
theorem wp_text {ops : Array Oper} {rest : List Oper} {o : Oper} {a : Act} {Q : Exit → Act → World → Prop} {w : World} (hgd : o.guard = none) (sl x : Operand)
    (ho : o.op = .call { callee := .builtin .append, args := #[sl, x], argTypes := #[88, 9] }) (base : Nat) (v : Value) (zs : List UInt8) (hs : a.eval sl = v) (hv : OwnB w base v zs) (hb : base ≤ w.heap.size)
    (s : List UInt8) (hx : a.eval x = .string (str s)) (hl : zs.length + s.length ≤ 1000000)
    (hK : ∀ v' w', Hid (OwnB w' base v' (zs ++ s)) → Hid (Below base w w') → wpList Try.prog ops Q rest (a.put o.dst v') w') : wpList Try.prog ops Q (o :: rest) a w := by
  obtain ⟨i0, hi, hz0, hz1, hz2⟩ := info_parts info_byte
  refine Lib.wpList_append_own_string w hgd sl x 88 9 ho base 5 i0 Try.underlying88 Try.underlying9 hi hz0 hz1 hz2 v zs.length (zs.map encB) hs hv (str s) hx (by rw [str_size]; unfold maxLen; omega) (by rw [str_size]; omega) hb fun v' w' h1 h2 h3 => ?_
  refine hK v' w' (Lib.hid ?_) (Lib.hid (below_grown (Below.refl _ _) (Nat.le_refl _) hv hb h2))
  rw [str_size, str_cells] at h1
  unfold OwnB; rw [List.length_append, List.map_append]; exact h1
set_option maxRecDepth 100000 in
theorem run_void (w : World) (ty : TypeId) (base : Nat) (v : Value) (zs : List UInt8) (c : Nat) (hv : OwnB w base v zs) : (Builtin.append_ #[88, 88] ty #[v, .slice none 0 c]).run Try.prog w = .ok v w := by
  obtain ⟨i0, hi, hz0, hz1, hz2⟩ := info_parts info_byte
  rcases hv.2 with ⟨rfl, h0⟩ | ⟨g, cap, cur, rfl, hbg, hg, hnc, hcm, hcs, htake⟩
  · simp [Builtin.append_, run_underlying (P := Try.prog) Try.underlying88, sizeOf, typeInfo, hi, Builtin.lenOf, Builtin.firstCells]
  · simp [Builtin.append_, run_underlying (P := Try.prog) Try.underlying88, sizeOf, typeInfo, hi, Builtin.lenOf, Builtin.firstCells, storeCells, hnc]
theorem wp_rowsg {ops : Array Oper} {rest : List Oper} {o : Oper} {a : Act} {Q : Exit → Act → World → Prop} {w : World} (hgd : o.guard = none) (s x : Operand)
    (ho : o.op = .call { callee := .builtin .append, args := #[s, x], argTypes := #[88, 88] }) (base : Nat) (v : Value) (zs : List UInt8) (hs : a.eval s = v) (hv : OwnB w base v zs) (hb : base ≤ w.heap.size)
    (u : Value) (ys : List UInt8) (hx : a.eval x = u) (hu : layB.Row w u ys) (hl : zs.length + ys.length ≤ 1000000)
    (hK : ∀ v' w', Hid (OwnB w' base v' (zs ++ ys)) → Hid (Below base w w') → Hid (w.grownBy w' v.ownBlock) → wpList Try.prog ops Q rest (a.put o.dst v') w') : wpList Try.prog ops Q (o :: rest) a w := by
  obtain ⟨i0, hi, hz0, hz1, hz2⟩ := info_parts info_byte
  have hu' := hu
  obtain ⟨p, cap, rfl, h1, h2, h3⟩ := hu
  cases p with
  | none =>
    have hy : ys = [] := Classical.byContradiction fun hy => by obtain ⟨_, _, e, _⟩ := h3 hy; cases e
    subst hy
    refine wpList_plain hgd fun K hK' => ?_
    have hr := run_void w o.type base v zs cap hv
    unfold Oper.wp execOp
    simp only [ho, resolve, invoke, builtin, Sem.run_bind, Sem.run_pure, Result.andThen_ok, List.map_toArray, List.map_cons, List.map_nil, hs, hx]
    rw [List.length_nil, hr]
    exact hK' _ _ (hK v w (Lib.hid (by rw [List.append_nil]; exact hv)) (Lib.hid (Below.refl _ _)) (Lib.hid ⟨rfl, rfl, rfl, Nat.le_refl _, fun _ _ _ => rfl⟩))
  | some ad =>
    refine wpList_append_own w hgd s x 88 ho base 5 i0 _ 1 1 Try.underlying88 hi hz0 hz1 hz2 rfl (by decide) v zs.length (zs.map encB) hs hv ad ys.length cap (ys.map encB) hx (by simp) (row_olds hu' ad rfl) (fun u hu => by obtain ⟨y, _, rfl⟩ := List.mem_map.1 hu; rfl) (by unfold maxLen; omega) (by omega) hb fun v' w' h1 h2 h3 => ?_
    refine hK v' w' (Lib.hid ?_) (Lib.hid (below_grown (Below.refl _ _) (Nat.le_refl _) hv hb h2)) (Lib.hid h2)
    unfold OwnB; rw [List.length_append, List.map_append]; exact h1
theorem wp_rows {ops : Array Oper} {rest : List Oper} {o : Oper} {a : Act} {Q : Exit → Act → World → Prop} {w : World} (hgd : o.guard = none) (s x : Operand)
    (ho : o.op = .call { callee := .builtin .append, args := #[s, x], argTypes := #[88, 88] }) (base : Nat) (v : Value) (zs : List UInt8) (hs : a.eval s = v) (hv : OwnB w base v zs) (hb : base ≤ w.heap.size)
    (u : Value) (ys : List UInt8) (hx : a.eval x = u) (hu : layB.Row w u ys) (hl : zs.length + ys.length ≤ 1000000)
    (hK : ∀ v' w', Hid (OwnB w' base v' (zs ++ ys)) → Hid (Below base w w') → wpList Try.prog ops Q rest (a.put o.dst v') w') : wpList Try.prog ops Q (o :: rest) a w :=
  wp_rowsg hgd s x ho base v zs hs hv hb u ys hx hu hl fun v' w' h1 h2 _ => hK v' w' h1 h2

/-! ### PutText, the document's Text -/
theorem txt_len (s : List UInt8) (h : s.length ≤ 100000) : (txt s).length ≤ 100010 := by
  have := enc_len (n := s.length) (by omega)
  unfold txt; rw [List.length_append]; omega
end Go.Proofs.Ytacgmhnalbbgbaa.Wir
