/- The vault behind items: what the calls of layer 14 (fold) stand on. Conditions: those in each statement. -/
import Derived.Test.YtdnabghhjlhjoaaFolB
import Derived.Test.YtdnabghhjlhjoaaVapA
namespace Go.Proofs.Ytdnabghhjlhjoaa.Fol
open Go.RowKit F64 Cmd Bat Cel Wid Vau Go.Maps Go.WideElems Go.ChangeMaps Go.Sort
set_option linter.unusedVariables false
set_option linter.unusedSimpArgs false

/-! ### A row of the call's own grows by a row -/
theorem grow_row {α : Type} {D : Wd α} {t e : TypeId} {z : Value} {bytes : Nat} (T : Wt D t e z bytes) (w : World) (ty : TypeId) (base : Nat) (v : Value) (zs : List α) (hv : D.Own e w base v zs) (hb : base ≤ w.heap.size) (u : Value) (ys : List α) (hu : D.L.Row w u ys) (hl : zs.length + ys.length ≤ 1000000) :
    ∃ v' w', (Builtin.append_ #[t, t] ty #[v, u]).run Try.prog w = .ok v' w' ∧ D.Own e w' base v' (zs ++ ys) ∧ w.grownBy w' v.ownBlock ∧ (v'.ownBlock = v.ownBlock ∨ v'.ownBlock = some w.heap.size) := by
  obtain ⟨i0, hi, hz0, hz1, hz2⟩ := info_parts T.inf
  have hu' := hu
  obtain ⟨p, cap, rfl, h1, h2, h3⟩ := hu
  cases p with
  | none =>
    have hy : ys = [] := Classical.byContradiction fun hy => by obtain ⟨_, _, e, _⟩ := h3 hy; cases e
    subst hy
    exact ⟨v, w, run_void T w ty base v zs cap hv, by rw [List.append_nil]; exact hv, ⟨rfl, rfl, rfl, Nat.le_refl _, fun _ _ _ => rfl⟩, .inl rfl⟩
  | some ad =>
    have hby : (zs.length + ys.length) * bytes ≤ 1000000 * 100 := Nat.mul_le_mul hl T.few
    obtain ⟨v', w', hr, r1, r2, -, r3⟩ := run_append_own_at (P := Try.prog) (w := w) base t ty e i0 _ D.c bytes T.und hi hz0 hz1 hz2 T.zc D.cpos v zs.length (D.flat zs) hv ad ys.length cap (D.flat ys) (D.flat_len ys) (Wd.olds hu' ad rfl) (D.flat_one ys) (by unfold maxLen; omega) (by omega) hb
    refine ⟨v', w', hr, ?_, r2, r3⟩
    unfold Wd.Own; rw [List.length_append, D.flat_app]; exact r1
theorem row_wp {α : Type} {D : Wd α} {t e : TypeId} {z : Value} {bytes : Nat} (T : Wt D t e z bytes) {ops : Array Oper} {rest : List Oper} {o : Oper} {a : Act} {Q : Exit → Act → World → Prop} {w : World} (hgd : o.guard = none) (s x : Operand)
    (ho : o.op = .call { callee := .builtin .append, args := #[s, x], argTypes := #[t, t] }) (base : Nat) (v : Value) (zs : List α) (hs : a.eval s = v) (hv : D.Own e w base v zs) (hb : base ≤ w.heap.size)
    (u : Value) (ys : List α) (hx : a.eval x = u) (hu : D.L.Row w u ys) (hl : zs.length + ys.length ≤ 1000000)
    (hK : ∀ v' w', Hid (D.Own e w' base v' (zs ++ ys)) → Hid (w.grownBy w' v.ownBlock) → Hid (v'.ownBlock = v.ownBlock ∨ v'.ownBlock = some w.heap.size) → wpList Try.prog ops Q rest (a.put o.dst v') w') : wpList Try.prog ops Q (o :: rest) a w := by
  obtain ⟨v', w', hr, r1, r2, r3⟩ := grow_row T w o.type base v zs hv hb u ys hu hl
  refine wpList_plain hgd fun K hK' => ?_
  unfold Oper.wp execOp
  simp only [ho, resolve, invoke, builtin, Sem.run_bind, Sem.run_pure, Result.andThen_ok, List.map_toArray, List.map_cons, List.map_nil, hs, hx]
  rw [hr]
  exact hK' _ _ (hK v' w' (Lib.hid r1) (Lib.hid r2) (Lib.hid r3))

/-! ### A vault behind items -/
theorem stC_okOf {xs : List Itm} {id : Int × Int} {cs : List Cmdn} : stC (cellOf (okOf xs)) cs = cellOf (okOf (xs ++ [(id, cs)])) := by
  unfold stC
  by_cases he : bErr cs = 0
  · rw [if_pos he, okOf_snoc_ok (x := (id, cs)) he]; exact kC_cellOf (okOf xs) (id, cs)
  · rw [if_neg he, okOf_snoc_no (x := (id, cs)) he]
theorem stL_okOf {xs : List Itm} {id : Int × Int} {cs : List Cmdn} : stL (logOf (okOf xs)) id cs = logOf (okOf (xs ++ [(id, cs)])) := by
  unfold stL
  by_cases he : bErr cs = 0
  · rw [if_pos he, okOf_snoc_ok (x := (id, cs)) he]; exact kL_logOf (okOf xs) (id, cs)
  · rw [if_neg he, okOf_snoc_no (x := (id, cs)) he]
theorem stR_okOf {xs : List Itm} {id : Int × Int} {cs : List Cmdn} : resOf (okOf (xs ++ [(id, cs)])) = resOf (okOf xs) ++ stR (cellOf (okOf xs)) id cs := by
  unfold stR
  by_cases he : bErr cs = 0
  · rw [if_pos he, okOf_snoc_ok (x := (id, cs)) he, resOf_snoc, resB_eq]
  · rw [if_neg he, okOf_snoc_no (x := (id, cs)) he, List.append_nil]
theorem resOf_okOf_len (xs : List Itm) : (resOf (okOf xs)).length ≤ xs.length * 8 := by
  unfold resOf
  rw [resT_len _ _ (Nat.le_refl _), List.take_length]
  exact okOf_cmds xs
/-- A vault to which i items, those of xs, were applied. -/
structure Fv (base : Nat) (w2 : World) (g i : Nat) (F : Nat → Prop) (xs : List Itm) (cnt : Int) (W : World) : Prop where
  vp : VP W base F g (cellOf (okOf xs)) (logOf (okOf xs)) (16 * i) cnt
  ll : ∀ s, (logOf (okOf xs) s).length ≤ 8 * i
  c0 : 0 ≤ cnt
  c1 : cnt ≤ i
  below : Below base w2 W
  size : base ≤ W.heap.size
section
variable {base : Nat} {w2 W W' : World} {g i : Nat} {F G R : Nat → Prop} {xs : List Itm} {cnt c' : Int}
theorem Fv.on (h : Fv base w2 g i F xs cnt W) (hb : Below W.heap.size W W') : Fv base w2 g i F xs cnt W' := ⟨h.vp.on hb, h.ll, h.c0, h.c1, h.below.trans (hb.mono h.size), Nat.le_trans h.size hb.size⟩
theorem Fv.far (h : Fv base w2 g i F xs cnt W) (ho : Only R W W') (hR : ∀ j, F j → ¬ R j) (hRb : ∀ j, R j → base ≤ j) : Fv base w2 g i F xs cnt W' := ⟨h.vp.far ho hR, h.ll, h.c0, h.c1, h.below.trans (ho.low h.size hRb), Nat.le_trans h.size ho.below.size⟩
theorem Fv.next {id : Int × Int} {cs : List Cmdn} (h : Fv base w2 g i F xs cnt W) (hv : VP W' base G g (stC (cellOf (okOf xs)) cs) (stL (logOf (okOf xs)) id cs) (16 * i + 16) c') (ho : Only F W W') (hc : c' = if bErr cs = 0 then cnt + 1 else cnt) : Fv base w2 g (i + 1) G (xs ++ [(id, cs)]) c' W' := by
  have h0 := h.c0
  have h1 := h.c1
  refine ⟨?_, fun s => ?_, ?_, ?_, h.below.trans (ho.low h.size (fun k hk => (h.vp.foot k hk).1)), Nat.le_trans h.size ho.below.size⟩
  · rw [← stC_okOf, ← stL_okOf]; exact hv.mono (by omega)
  · rw [← stL_okOf]; have := stL_len (id := id) (cs := cs) h.ll s; omega
  · rw [hc]; split <;> omega
  · rw [hc]; split <;> omega
theorem Fv.call (h : Fv base w2 g i F xs cnt W) (a b : Int) (v : Value) (cs : List Cmdn) (hrow : ∀ X, Below base w2 X → layC.Row X v cs) (hw : ∀ x ∈ cs, wfC x) (hi : i ≤ 1000) : Calls Try.prog 31 #[.pointer (some ⟨g, 0, none⟩), .agg #[.int .i64 a, .int .i64 b], v] W (GivesAp base F g (cellOf (okOf xs)) (logOf (okOf xs)) (16 * i) cnt (a, b) cs W) :=
  vap_any h.vp h.size a b v cs (fun X ho => hrow X (h.below.trans (ho.low h.size (fun k hk => (h.vp.foot k hk).1)))) hw (by omega) (fun s => by have := h.ll s; omega) h.c0 (by have := h.c1; omega)
end
end Go.Proofs.Ytdnabghhjlhjoaa.Fol
