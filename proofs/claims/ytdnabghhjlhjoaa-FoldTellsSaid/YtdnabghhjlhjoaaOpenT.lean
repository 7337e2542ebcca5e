/- Arguments opened, at their cells: a list of commands, an item (a batch, and whose it is), a list of items. No condition but those in each statement. -/
import Derived.Test.YtdnabghhjlhjoaaOpen0
import Derived.Test.YtdnabghhjlhjoaaVauC
import Derived.ChangeSame
namespace Go.Proofs.Ytdnabghhjlhjoaa.Vau
open Go.ChangeShapes Go.WideShapes Go.ChangeAt Go.RowKit Cmd Bat
set_option linter.unusedVariables false
set_option linter.unusedSimpArgs false

section
variable {H : Type} {enc : TypeId × Value → H} {W : World} {base : Nat} {spare : Nat → Bool} {held : Bool}
def cells3' (x : Cmdn) : List Value := [.int .i64 x.1, .string (str x.2.1), .float .f64 x.2.2]
set_option maxRecDepth 100000 in
/-- What reads as a command is its number, text and word. -/
theorem cmd_reads' {n : Nat} {cs : List Value} {y : DataW H × List MemPlace} (h : DataW.trod enc Try.prog W base spare held n 48 cs = some y) : ∃ x : Cmdn, x.2.2 < 18446744073709551616 ∧ cs = cells3' x ∧ y.1 = .agg [.lit (.int .i64 x.1), .lit (.string x.2.1), .lit (.float .f64 x.2.2)] := by
  obtain ⟨y0, y1, y2, m, rfl, hl, h0, h1, h2⟩ := Go.Deep.trod_struct3 Try.underlying48 h
  rw [show Try.prog.cellsOf 48 = 3 by kernel_rfl] at hl
  have hC : Try.prog.cellsOf 3 = 1 := by kernel_rfl
  have hD : Try.prog.cellsOf 9 = 1 := by kernel_rfl
  have hE : Try.prog.cellsOf 28 = 1 := by kernel_rfl
  match cs, hl with
  | [c0, c1, c2], _ =>
    simp [hC] at h0
    simp [hD] at h1
    simp [hE] at h2
    obtain ⟨k, e0, rfl, -⟩ := DataW.trod_int Try.underlying3 h0
    obtain ⟨s, e1, rfl, -⟩ := DataW.trod_string Try.underlying9 h1
    obtain ⟨x, e2, rfl, hx⟩ := trod_float Try.underlying28 h2
    simp only [List.cons.injEq, and_true] at e0 e1 e2
    exact ⟨(k, s.data.toList, x), by simpa [Lit.wf] using hx, by rw [e0, e1, e2]; rfl, rfl⟩
theorem cmd_weight' (x : Cmdn) : x.2.1.length ∈ (DataW.agg [.lit (.int .i64 x.1), .lit (.string x.2.1), .lit (.float .f64 x.2.2)] : DataW H).weights Try.prog 48 := by
  simp [DataW.weights, DataW.weightsEach, Try.underlying48]
set_option maxRecDepth 100000 in
theorem cmds_read' {n : Nat} {v : Value} {y : DataW H × List MemPlace} (h : DataW.trod enc Try.prog W base spare held n 49 [v] = some y) (hw : ∀ k ∈ y.1.weights Try.prog 49, k ≤ reachBytes) : ∃ cs : List Cmdn, layC.Row W v cs ∧ ∀ x ∈ cs, wfC x := by
  obtain ⟨a, len, cap, rfl, h1, h2, -, h4⟩ := slice_reads Try.underlying49 (c := 3) (by kernel_rfl) (by decide) h (fun cs D => ∃ x : Cmdn, x.2.2 < 18446744073709551616 ∧ cs = cells3' x ∧ D = .agg [.lit (.int .i64 x.1), .lit (.string x.2.1), .lit (.float .f64 x.2.2)]) fun n cs y h => cmd_reads' h
  unfold maxLen at h2
  by_cases hl0 : len = 0
  · subst hl0
    exact ⟨[], ⟨a, cap, rfl, h1, by omega, fun h => absurd rfl h⟩, fun x hx => by cases hx⟩
  · obtain ⟨b, off, rfl, hlt, elems, rest, hy, hall⟩ := h4 (by omega)
    rw [hy] at hw
    obtain ⟨zs, hl, hzs⟩ := choose_list ((0, [], 0) : Cmdn) len (fun i x => wfC x ∧ layC.lies W b (layC.pos off i) x) fun i hi => by
      obtain ⟨cs, D, hD, ⟨x, hx, rfl, rfl⟩, hc⟩ := hall i hi
      exact ⟨x, ⟨hx, sized_in Try.underlying49 hw hD _ (cmd_weight' x)⟩, hc 0 (by decide), hc 1 (by decide), hc 2 (by decide)⟩
    refine ⟨zs, ⟨some ⟨b, off, none⟩, cap, by rw [hl], by rw [hl]; exact h1, by omega, fun _ => ⟨b, off, rfl, hlt, fun j hj => (hzs j (by omega)).2⟩⟩, fun x hx => ?_⟩
    obtain ⟨j, hj, rfl⟩ := (Lay.mem (L := layC)).1 hx
    exact (hzs j (by omega)).1
abbrev in64 (n : Int) : Prop := -9223372036854775808 ≤ n ∧ n ≤ 9223372036854775807
theorem lit_in64 {n : Int} (h : (Lit.int .i64 n).wf = true) : in64 n := by
  simp [Lit.wf, IntKind.min, IntKind.max, IntKind.signed, IntKind.bits] at h
  exact h
set_option maxRecDepth 100000 in
theorem int_reads' {n : Nat} {c : Value} {y : DataW H × List MemPlace} (h : DataW.trod enc Try.prog W base spare held n 3 [c] = some y) : ∃ a, c = .int .i64 a ∧ in64 a := by
  obtain ⟨a, e, -, hw⟩ := DataW.trod_int Try.underlying3 h
  simp only [List.cons.injEq, and_true] at e
  exact ⟨a, e, lit_in64 hw⟩
set_option maxRecDepth 100000 in
theorem id_reads' {n : Nat} {cs : List Value} {y : DataW H × List MemPlace} (h : DataW.trod enc Try.prog W base spare held n 46 cs = some y) : ∃ a b : Int, cs = [.int .i64 a, .int .i64 b] ∧ in64 a ∧ in64 b := by
  obtain ⟨y0, y1, m, rfl, hl, h0, h1⟩ := trod_struct2 Try.underlying46 h
  rw [show Try.prog.cellsOf 46 = 2 by kernel_rfl] at hl
  have hC : Try.prog.cellsOf 3 = 1 := by kernel_rfl
  match cs, hl with
  | [c0, c1], _ =>
    simp [hC] at h0
    simp [hC] at h1
    obtain ⟨a, rfl, ha⟩ := int_reads' h0
    obtain ⟨b, rfl, hb⟩ := int_reads' h1
    exact ⟨a, b, rfl, ha, hb⟩
set_option maxRecDepth 100000 in
/-- What reads as an item: its id, its batch. -/
theorem item_reads {n : Nat} {cs : List Value} {y : DataW H × List MemPlace} (h : DataW.trod enc Try.prog W base spare held n 52 cs = some y) (hw : ∀ k ∈ y.1.weights Try.prog 52, k ≤ reachBytes) :
    ∃ (a b : Int) (v : Value) (bs : List Cmdn), cs = [.int .i64 a, .int .i64 b, v] ∧ layC.Row W v bs ∧ (∀ x ∈ bs, wfC x) ∧ in64 a ∧ in64 b := by
  obtain ⟨y0, y1, m, rfl, hl, h0, h1⟩ := trod_struct2 Try.underlying52 h
  rw [show Try.prog.cellsOf 52 = 3 by kernel_rfl] at hl
  have hI : Try.prog.cellsOf 46 = 2 := by kernel_rfl
  have hE : Try.prog.cellsOf 49 = 1 := by kernel_rfl
  match cs, hl with
  | [c0, c1, c2], _ =>
    simp [hI] at h0
    simp at h1
    obtain ⟨a, b, e0, ia, ib⟩ := id_reads' h0
    obtain ⟨bs, r2, w2⟩ := cmds_read' h1 (fun k hk => hw k (by simp only [DataW.weights, Try.underlying52, List.map_cons, DataW.weightsEach, List.mem_append]; exact .inr (.inl hk)))
    simp only [List.cons.injEq, and_true] at e0
    exact ⟨a, b, c2, bs, by rw [e0.1, e0.2], r2, w2, ia, ib⟩
set_option maxRecDepth 100000 in
theorem items_readN {n : Nat} {v : Value} {y : DataW H × List MemPlace} (h : DataW.trod enc Try.prog W base spare held n 22 [v] = some y) (hw : ∀ k ∈ y.1.weights Try.prog 22, k ≤ reachBytes) : ∃ xs : List Itm, layT.Row W v xs ∧ (∀ x ∈ xs, wfT x) ∧ ∀ x ∈ xs, in64 x.1.1 ∧ in64 x.1.2 := by
  obtain ⟨a, len, cap, rfl, h1, h2, -, h4⟩ := slice_reads Try.underlying22 (c := 3) (by kernel_rfl) (by decide) h (fun cs D => (∀ k ∈ D.weights Try.prog 52, k ≤ reachBytes) → ∃ (a b : Int) (u : Value) (bs : List Cmdn), cs = [.int .i64 a, .int .i64 b, u] ∧ layC.Row W u bs ∧ (∀ x ∈ bs, wfC x) ∧ in64 a ∧ in64 b) fun n cs y h hk => item_reads h hk
  unfold maxLen at h2
  by_cases hl0 : len = 0
  · subst hl0
    exact ⟨[], ⟨a, cap, rfl, h1, by omega, fun h => absurd rfl h⟩, fun x hx => (by cases hx), fun x hx => (by cases hx)⟩
  · obtain ⟨b, off, rfl, hlt, elems, rest, hy, hall⟩ := h4 (by omega)
    rw [hy] at hw
    obtain ⟨zs, hl, hzs⟩ := choose_list (((0, 0), []) : Itm) len (fun i x => (wfT x ∧ in64 x.1.1 ∧ in64 x.1.2) ∧ layT.lies W b (layT.pos off i) x) fun i hi => by
      obtain ⟨cs, D, hD, hp, hc⟩ := hall i hi
      obtain ⟨x1, x2, u, bs, rfl, hr, hwf, ia, ib⟩ := hp (sized_in Try.underlying22 hw hD)
      exact ⟨((x1, x2), bs), ⟨hwf, ia, ib⟩, hc 0 (by decide), hc 1 (by decide), u, hc 2 (by decide), hr⟩
    refine ⟨zs, ⟨some ⟨b, off, none⟩, cap, by rw [hl], by rw [hl]; exact h1, by omega, fun _ => ⟨b, off, rfl, hlt, fun j hj => (hzs j (by omega)).2⟩⟩, fun x hx => ?_, fun x hx => ?_⟩
    · obtain ⟨j, hj, rfl⟩ := (Lay.mem (L := layT)).1 hx
      exact (hzs j (by omega)).1.1
    · obtain ⟨j, hj, rfl⟩ := (Lay.mem (L := layT)).1 hx
      exact (hzs j (by omega)).1.2
set_option maxRecDepth 100000 in
theorem open_itemsN {r : Reach} {b0 : Nat} {z : Value} {d : DataW H} {p : List MemPlace} (hv : Value.okWide Try.prog W r b0 22 z) (h : DataW.Trod enc Try.prog W base spare held 22 z d p) (hw : ∀ k ∈ d.weights Try.prog 22, k ≤ reachBytes) :
    ∃ xs : List Itm, layT.Row W z xs ∧ (∀ x ∈ xs, wfT x) ∧ ∀ x ∈ xs, in64 x.1.1 ∧ in64 x.1.2 := by
  obtain ⟨a, n, c, rfl⟩ := okWide_slice Try.underlying22 hv
  obtain ⟨fuel, h⟩ := h
  exact items_readN h hw
theorem open_items {r : Reach} {b0 : Nat} {z : Value} {d : DataW H} {p : List MemPlace} (hv : Value.okWide Try.prog W r b0 22 z) (h : DataW.Trod enc Try.prog W base spare held 22 z d p) (hw : ∀ k ∈ d.weights Try.prog 22, k ≤ reachBytes) :
    ∃ xs : List Itm, layT.Row W z xs ∧ ∀ x ∈ xs, wfT x := by
  obtain ⟨xs, h1, h2, -⟩ := open_itemsN hv h hw
  exact ⟨xs, h1, h2⟩
set_option maxRecDepth 100000 in
theorem open_item {r : Reach} {b0 : Nat} {z : Value} {d : DataW H} {p : List MemPlace} (hv : Value.okWide Try.prog W r b0 52 z) (h : DataW.Trod enc Try.prog W base spare held 52 z d p) (hw : ∀ k ∈ d.weights Try.prog 52, k ≤ reachBytes) :
    ∃ (a b : Int) (v : Value) (bs : List Cmdn), z = .agg #[.int .i64 a, .int .i64 b, v] ∧ layC.Row W v bs ∧ ∀ x ∈ bs, wfC x := by
  obtain ⟨cs, rfl, -⟩ := okWide_struct Try.underlying52 hv
  obtain ⟨fuel, h⟩ := h
  have hc : (Value.agg cs).cells.toList = cs.toList := by simp [Value.cells]
  rw [hc] at h
  obtain ⟨a, b, v, bs, e, r2, w2, -, -⟩ := item_reads h hw
  exact ⟨a, b, v, bs, by rw [show cs = #[.int .i64 a, .int .i64 b, v] by rw [← Array.toList_inj, e]], r2, w2⟩
set_option maxRecDepth 100000 in
theorem open_strz {r : Reach} {b0 : Nat} {z : Value} {d : DataW H} {p : List MemPlace} (hv : Value.okWide Try.prog W r b0 9 z) (h : DataW.Trod enc Try.prog W base spare held 9 z d p) (hw : ∀ k ∈ d.weights Try.prog 9, k ≤ reachBytes) :
    ∃ s : List UInt8, z = .string (str s) ∧ s.length ≤ 140737488351232 := by
  obtain ⟨s, rfl⟩ := okWide_string Try.underlying9 hv
  obtain ⟨fuel, h⟩ := h
  obtain ⟨s', e, e2, -⟩ := DataW.trod_string Try.underlying9 h
  have e3 : s = s' := by simpa [Value.cells] using e
  subst e3
  have e4 : d = .lit (.string s.data.toList) := congrArg Prod.fst e2
  subst e4
  exact ⟨s.data.toList, rfl, hw _ (by simp [DataW.weights])⟩
end
end Go.Proofs.Ytdnabghhjlhjoaa.Vau
