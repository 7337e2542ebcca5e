/- Rows of the call's own, of elements of several cells, whatever they are: what they read as; append of a row to one, in a walk and at a drawn region's step. Conditions: the rows are not longer than a million; those in each statement. -/
import Derived.Test.YtomidcbpnaajeaaGreatLay
import Derived.Maps.AppendAt
import Derived.Laws.Slices
namespace Go.Proofs.YtomidcbpnaajeaaGreat.Wid
open Go.RowKit Cmd Bat
set_option linter.unusedVariables false

/-- Elements of c cells. -/
structure Wd (α : Type) where
  L : Lay α
  enc : α → List Value
  c : Nat
  cpos : 0 < c
  pos : ∀ o j, L.pos o j = o + j * c
  len : ∀ x, (enc x).length = c
  one : ∀ x u, u ∈ enc x → u.oneCell' = true
  lies : ∀ {w : World} {b o : Nat} {x : α}, (∀ i u, (enc x)[i]? = some u → w.cell? ⟨b, o + i, none⟩ = some u) → L.lies w b o x
  cells : ∀ {w : World} {b o : Nat} {x : α}, L.lies w b o x → ∀ i u, (enc x)[i]? = some u → w.cell? ⟨b, o + i, none⟩ = some u
section
variable {α : Type} (D : Wd α)
def Wd.flat (zs : List α) : List Value := zs.flatMap D.enc
theorem Wd.flat_app (a b : List α) : D.flat (a ++ b) = D.flat a ++ D.flat b := by unfold Wd.flat; rw [List.flatMap_append]
theorem Wd.flat_len : ∀ zs : List α, (D.flat zs).length = zs.length * D.c
  | [] => by simp [Wd.flat]
  | x :: zs => by
    have := Wd.flat_len zs
    show (D.enc x ++ D.flat zs).length = _
    rw [List.length_append, D.len, this, List.length_cons, Nat.succ_mul, Nat.add_comm]
theorem Wd.flat_at : ∀ (zs : List α) (j i : Nat) (hj : j < zs.length), i < D.c → (D.flat zs)[j * D.c + i]? = (D.enc zs[j])[i]?
  | x :: zs, 0, i, _, hi => by
    show (D.enc x ++ D.flat zs)[_]? = _
    rw [Nat.zero_mul, Nat.zero_add, List.getElem?_append_left (by rw [D.len]; exact hi)]; rfl
  | x :: zs, j + 1, i, hj, hi => by
    show (D.enc x ++ D.flat zs)[_]? = _
    rw [List.getElem?_append_right (by rw [D.len, Nat.succ_mul]; omega)]
    have e : (j + 1) * D.c + i - (D.enc x).length = j * D.c + i := by rw [D.len, Nat.succ_mul]; omega
    rw [e]
    exact Wd.flat_at zs j i (by simpa using hj) hi
theorem Wd.flat_one (zs : List α) : ∀ u ∈ D.flat zs, u.oneCell' = true := by
  intro u hu
  obtain ⟨x, _, hx⟩ := List.mem_flatMap.1 hu
  exact D.one x u hx
/-- A row of the call's own. -/
def Wd.Own (e : TypeId) (w : World) (base : Nat) (v : Value) (zs : List α) : Prop := w.ownsRow base e D.c v zs.length (D.flat zs)
variable {D}
theorem Wd.Own.row {e : TypeId} {w : World} {base : Nat} {v : Value} {zs : List α} (h : D.Own e w base v zs) : D.L.Row w v zs := by
  unfold Wd.Own at h
  have hc := fun g hg => World.ownsRow.cells h (g := g) hg
  have hlt := World.ownsRow.lt h
  rcases h.2 with ⟨rfl, h0⟩ | ⟨g, cap, cur, rfl, hb, hg, hn, hm, -, -⟩
  · have e : zs = [] := List.eq_nil_of_length_eq_zero h0
    subst e
    exact ⟨none, 0, rfl, Nat.le_refl _, by omega, fun h => absurd rfl h⟩
  · refine ⟨some ⟨g, 0, none⟩, cap, rfl, hn, by unfold maxLen at hm; omega, fun _ => ⟨g, 0, rfl, (hlt g rfl).2, fun j hj => ?_⟩⟩
    rw [D.L.at_get hj, D.pos, Nat.zero_add]
    refine D.lies fun i u hu => ?_
    have hi : i < D.c := by rw [← D.len zs[j]]; exact (List.getElem?_eq_some_iff.1 hu).1
    have := hc g rfl (j * D.c + i) u (by rw [D.flat_at zs j i hj hi]; exact hu)
    rw [Bat.add_lit] at this; exact this
theorem Wd.Own.below {e : TypeId} {w w' : World} {base : Nat} {v : Value} {zs : List α} (h : D.Own e w base v zs) (hb : Below w.heap.size w w') : D.Own e w' base v zs := own_below h hb
theorem Wd.Own.lower {e : TypeId} {w : World} {base base' : Nat} {v : Value} {zs : List α} (h : D.Own e w base v zs) (hb : base' ≤ base) : D.Own e w base' v zs := own_mono h hb
theorem Wd.Own.void (e : TypeId) (w : World) (base : Nat) : D.Own e w base (.slice none 0 0) [] := World.ownsRow_nil w base e D.c
/-- A row without an element, just made. -/
theorem Wd.Own.made (e : TypeId) (w : World) {base : Nat} (hb : base ≤ w.heap.size) : D.Own e (w.alloc (.cells #[] e)) base (.slice (some ⟨w.heap.size, 0, none⟩) 0 0) [] :=
  World.ownsRow_made w #[] 0 hb (by decide) (by simp)
/-- Where the row lies in memory. -/
theorem Wd.olds {w : World} {p : Option Addr} {n cap : Nat} {zs : List α} (h : D.L.Row w (.slice p n cap) zs) : ∀ b, p = some b → ∀ j u, (D.flat zs)[j]? = some u → w.cell? (b.add j) = some u := by
  intro b hp j u hj
  obtain ⟨p', cap', e, h1, h2, h3⟩ := h
  have hj' : j < zs.length * D.c := by rw [← D.flat_len]; exact (List.getElem?_eq_some_iff.1 hj).1
  have hz : zs ≠ [] := by rintro rfl; simp at hj'
  obtain ⟨B, off, rfl, hi⟩ := h3 hz
  injection e with e1 e2 e3
  rw [hp] at e1
  injection e1 with e1
  subst e1
  have hq : j / D.c < zs.length := (Nat.div_lt_iff_lt_mul D.cpos).2 hj'
  have hm : j % D.c < D.c := Nat.mod_lt _ D.cpos
  have hd : j / D.c * D.c + j % D.c = j := by rw [Nat.mul_comm]; exact Nat.div_add_mod j D.c
  have hl := hi.cell (j / D.c) hq
  rw [D.L.at_get hq, D.pos] at hl
  have hf := D.flat_at zs (j / D.c) (j % D.c) hq hm
  rw [hd, hj] at hf
  have := D.cells hl (j % D.c) u hf.symm
  rw [Nat.add_assoc, hd] at this
  rw [Addr.add_lit]; exact this
/-- One element in a block that is just made. -/
theorem Wd.lone (e : TypeId) (w : World) (x : α) (cs : Array Value) (hcs : cs.toList = D.enc x) : D.L.Row (w.alloc (.cells cs e)) (.slice (some ⟨w.heap.size, 0, none⟩) 1 1) [x] := by
  refine ⟨_, 1, rfl, Nat.le_refl _, by omega, fun _ => ⟨w.heap.size, 0, rfl, by simp, fun j hj => ?_⟩⟩
  obtain rfl : j = 0 := by simpa using hj
  rw [D.L.at_get hj, D.pos, Nat.zero_mul]
  refine D.lies fun i u hu => ?_
  have hx : (D.enc x)[i]? = some u := hu
  have hb := heap_alloc_new w (.cells cs e)
  have hi : cs[i]? = some u := by rw [← hx, ← hcs, Array.getElem?_toList]
  unfold World.cell?
  rw [hb, Nat.zero_add]
  exact hi
end

/-- The element's type in the program. -/
structure Wt {α : Type} (D : Wd α) (t e : TypeId) (z : Value) (bytes : Nat) : Prop where
  und : Tryz.prog.underlying t = some (.slice e)
  el : Tryz.prog.elem t = e
  inf : (Tryz.prog.info? e).map (fun i => (i.zero, i.size, i.bytes)) = some (some z, D.c, bytes)
  zc : z.cells.size = D.c
  few : bytes ≤ 1000
section
variable {α : Type} {D : Wd α} {t e : TypeId} {z : Value} {bytes : Nat}
/-! ### The first ones of a row -/
def cutw (p : Option Addr) (cap : Nat) : Option Addr := if cap = 0 then p else p.map (·.add 0)
theorem size_wide (T : Wt D t e z bytes) (w : World) : (sizeOf (Tryz.prog.elem t)).run Tryz.prog w = .ok D.c w := by
  obtain ⟨i0, hi, hz0, hz1, hz2⟩ := info_parts T.inf
  rw [T.el]
  simp [sizeOf, typeInfo, hi, hz1]
theorem cut_wide (T : Wt D t e z bytes) (p : Option Addr) (n cap h : Nat) (hh : h ≤ cap) (w : World) :
    (Instr.slice t (.slice p n cap) none (some (.int .i64 h)) none).run Tryz.prog w = .ok (.slice (cutw p cap) h cap) w := by
  rw [run_slice_h w _ _ _ _ (by rw [T.und, T.el]) _ _ (by omega) (by omega), size_wide T]
  show Result.ok (sliced p 0 (Int.toNat h) cap D.c) w = _
  simp [sliced, cutw]
theorem row_first {L : Lay α} {w : World} {p : Option Addr} {n cap : Nat} {zs : List α} (h : L.Row w (.slice p n cap) zs) (k : Nat) (hk : k ≤ zs.length) : L.Row w (.slice (cutw p cap) k cap) (zs.take k) := by
  obtain ⟨p', cap', e, g1, g2, g3⟩ := h
  injection e with e1 e2 e3
  subst e1; subst e3
  have hl : (zs.take k).length = k := by rw [List.length_take]; omega
  refine ⟨_, cap, by rw [hl], by rw [hl]; omega, g2, fun hz => ?_⟩
  obtain ⟨B, off, rfl, hi⟩ := g3 (by rintro rfl; simp at hz)
  refine ⟨B, off, ?_, hi.lt, fun j hj => ?_⟩
  · unfold cutw; split
    · rfl
    · simp [Addr.add_lit]
  · rw [hl] at hj
    have e : L.at (zs.take k) j = L.at zs j := by rw [L.at_get (by omega), L.at_get (by omega)]; simp
    rw [e]; exact hi.cell j (by omega)
theorem run_void (T : Wt D t e z bytes) (w : World) (ty : TypeId) (base : Nat) (v : Value) (zs : List α) (c : Nat) (hv : D.Own e w base v zs) : (Builtin.append_ #[t, t] ty #[v, .slice none 0 c]).run Tryz.prog w = .ok v w := by
  obtain ⟨i0, hi, hz0, hz1, hz2⟩ := info_parts T.inf
  rcases hv.2 with ⟨rfl, h0⟩ | ⟨g, cap, cur, rfl, hbg, hg, hnc, hcm, hcs, htake⟩
  · simp [Builtin.append_, run_underlying (P := Tryz.prog) T.und, sizeOf, typeInfo, hi, Builtin.lenOf, Builtin.firstCells]
  · simp [Builtin.append_, run_underlying (P := Tryz.prog) T.und, sizeOf, typeInfo, hi, Builtin.lenOf, Builtin.firstCells, storeCells, hnc]
/-- append of a row: the row of both, in memory of the call's own. -/
theorem run_wideB (T : Wt D t e z bytes) (w : World) (ty : TypeId) (base : Nat) (v : Value) (zs : List α) (hv : D.Own e w base v zs) (hb : base ≤ w.heap.size) (u : Value) (ys : List α) (hu : D.L.Row w u ys) (hl : zs.length + ys.length ≤ 100000000000) :
    ∃ v' w', (Builtin.append_ #[t, t] ty #[v, u]).run Tryz.prog w = .ok v' w' ∧ D.Own e w' base v' (zs ++ ys) ∧ Below base w w' ∧ w.grownBy w' v.ownBlock := by
  obtain ⟨i0, hi, hz0, hz1, hz2⟩ := info_parts T.inf
  have hu' := hu
  obtain ⟨p, cap, rfl, h1, h2, h3⟩ := hu
  cases p with
  | none =>
    have hy : ys = [] := Classical.byContradiction fun hy => by obtain ⟨_, _, e, _⟩ := h3 hy; cases e
    subst hy
    exact ⟨v, w, run_void T w ty base v zs cap hv, by rw [List.append_nil]; exact hv, Below.refl _ _, ⟨rfl, rfl, rfl, Nat.le_refl _, fun _ _ _ => rfl⟩⟩
  | some ad =>
    have hby : (zs.length + ys.length) * bytes ≤ 100000000000 * 1000 := Nat.mul_le_mul hl T.few
    obtain ⟨v', w', hr, r1, r2, -⟩ := run_append_own (P := Tryz.prog) (w := w) base t ty e i0 _ D.c bytes T.und hi hz0 hz1 hz2 T.zc D.cpos v zs.length (D.flat zs) hv ad ys.length cap (D.flat ys) (D.flat_len ys) (Wd.olds hu' ad rfl) (D.flat_one ys) (by unfold maxLen; omega) (by omega) hb
    refine ⟨v', w', hr, ?_, below_grown (Below.refl _ _) (Nat.le_refl _) hv hb r2, r2⟩
    unfold Wd.Own; rw [List.length_append, D.flat_app]; exact r1
theorem run_wide (T : Wt D t e z bytes) (w : World) (ty : TypeId) (base : Nat) (v : Value) (zs : List α) (hv : D.Own e w base v zs) (hb : base ≤ w.heap.size) (u : Value) (ys : List α) (hu : D.L.Row w u ys) (hl : zs.length + ys.length ≤ 1000000) :
    ∃ v' w', (Builtin.append_ #[t, t] ty #[v, u]).run Tryz.prog w = .ok v' w' ∧ D.Own e w' base v' (zs ++ ys) ∧ Below base w w' ∧ w.grownBy w' v.ownBlock := run_wideB T w ty base v zs hv hb u ys hu (by omega)
theorem wp_wide (T : Wt D t e z bytes) {ops : Array Oper} {rest : List Oper} {o : Oper} {a : Act} {Q : Exit → Act → World → Prop} {w : World} (hgd : o.guard = none) (s x : Operand)
    (ho : o.op = .call { callee := .builtin .append, args := #[s, x], argTypes := #[t, t] }) (base : Nat) (v : Value) (zs : List α) (hs : a.eval s = v) (hv : D.Own e w base v zs) (hb : base ≤ w.heap.size)
    (u : Value) (ys : List α) (hx : a.eval x = u) (hu : D.L.Row w u ys) (hl : zs.length + ys.length ≤ 1000000)
    (hK : ∀ v' w', Hid (D.Own e w' base v' (zs ++ ys)) → Hid (Below base w w') → Hid (w.grownBy w' v.ownBlock) → wpList Tryz.prog ops Q rest (a.put o.dst v') w') : wpList Tryz.prog ops Q (o :: rest) a w := by
  obtain ⟨v', w', hr, r1, r2, r3⟩ := run_wide T w o.type base v zs hv hb u ys hu hl
  refine wpList_plain hgd fun K hK' => ?_
  unfold Oper.wp execOp
  simp only [ho, resolve, invoke, builtin, Sem.run_bind, Sem.run_pure, Result.andThen_ok, List.map_toArray, List.map_cons, List.map_nil, hs, hx]
  rw [hr]
  exact hK' _ _ (hK v' w' (Lib.hid r1) (Lib.hid r2) (Lib.hid r3))
theorem step_wide (T : Wt D t e z bytes) {ops : Array Oper} {o : Oper} {a : Act} {w : World} {K : Act → World → Prop} {Q : Exit → Act → World → Prop} {E : Prop}
    (hw : Region.wanted o (yielded ops a.tmps) = true) (s x : Operand) (ho : o.op = .call { callee := .builtin .append, args := #[s, x], argTypes := #[t, t] })
    (base : Nat) (v : Value) (zs : List α) (hs : a.eval s = v) (hv : D.Own e w base v zs) (hb : base ≤ w.heap.size) (u : Value) (ys : List α) (hx : a.eval x = u) (hu : D.L.Row w u ys) (hl : zs.length + ys.length ≤ 1000000)
    (hK : ∀ v' w', Hid (D.Own e w' base v' (zs ++ ys)) → Hid (Below base w w') → Hid (w.grownBy w' v.ownBlock) → K (a.put o.dst v') w') : if Region.wanted o (yielded ops a.tmps) = true then Oper.wp Tryz.prog o a w K Q else E := by
  rw [if_pos hw]
  obtain ⟨v', w', hr, r1, r2, r3⟩ := run_wide T w o.type base v zs hv hb u ys hu hl
  unfold Oper.wp
  simp [execOp, ho, resolve, invoke, builtin, hs, hx, hr, Result.andThen]
  exact hK v' w' (Lib.hid r1) (Lib.hid r2) (Lib.hid r3)
/-! ### The last ones of a row -/
def cutl (p : Option Addr) (l cap c : Nat) : Option Addr := if cap = l then p else p.map (·.add (l * c))
theorem from_wide (T : Wt D t e z bytes) (p : Option Addr) (n cap l : Nat) (hl : l ≤ n) (w : World) :
    (Instr.slice t (.slice p n cap) (some (.int .i64 l)) none none).run Tryz.prog w = .ok (.slice (cutl p l cap D.c) (n - l) (cap - l)) w := by
  rw [run_slice_l w _ _ _ _ (by rw [T.und, T.el]) _ _ (by omega) (by omega), size_wide T]
  show Result.ok (sliced p (Int.toNat l) n cap D.c) w = _
  simp [sliced, cutl]
theorem row_drop {w : World} {p : Option Addr} {n cap : Nat} {zs : List α} (h : D.L.Row w (.slice p n cap) zs) (l : Nat) (hl : l ≤ zs.length) : D.L.Row w (.slice (cutl p l cap D.c) (n - l) (cap - l)) (zs.drop l) := by
  obtain ⟨p', cap', e, g1, g2, g3⟩ := h
  injection e with e1 e2 e3
  subst e1; subst e2; subst e3
  have hd : (zs.drop l).length = zs.length - l := List.length_drop
  refine ⟨_, cap - l, by rw [hd], by rw [hd]; omega, by omega, fun hz => ?_⟩
  have hlt : l < zs.length := Classical.byContradiction fun hn => hz (List.drop_eq_nil_of_le (by omega))
  obtain ⟨B, off, rfl, hi⟩ := g3 (by rintro rfl; simp at hlt)
  refine ⟨B, off + l * D.c, ?_, hi.lt, fun j hj => ?_⟩
  · unfold cutl
    rw [if_neg (by omega)]
    simp [Addr.add_lit]
  · rw [hd] at hj
    have e : D.L.at (zs.drop l) j = D.L.at zs (l + j) := by rw [D.L.at_get (by omega), D.L.at_get (by omega), List.getElem_drop]
    have := hi.cell (l + j) (by omega)
    rw [e, D.pos]
    rw [D.pos, Nat.add_mul, ← Nat.add_assoc] at this
    exact this
end
end Go.Proofs.YtomidcbpnaajeaaGreat.Wid
