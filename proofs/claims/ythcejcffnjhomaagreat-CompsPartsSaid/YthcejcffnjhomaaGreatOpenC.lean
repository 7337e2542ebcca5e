/- Arguments opened, at their cells: a list of ids, a list of commands, a record. No condition but those in each statement. -/
import Derived.Test.YthcejcffnjhomaaGreatOpen
import Derived.Test.YthcejcffnjhomaaGreatBatA
namespace Go.Proofs.YthcejcffnjhomaaGreat.Rec
open Go.ChangeShapes Go.WideShapes Go.ChangeAt Go.RowKit Cmd Bat Ids

section
variable {H : Type} {enc : TypeId × Value → H} {W : World} {base : Nat} {spare : Nat → Bool} {held : Bool}
def cells3 (x : Cmdn) : List Value := [.int .i64 x.1, .string (str x.2.1), .float .f64 x.2.2]
set_option maxRecDepth 100000 in
/-- What reads as a command is its number, text and word. -/
theorem cmd_reads {n : Nat} {cs : List Value} {y : DataW H × List MemPlace} (h : DataW.trod enc Tryz.prog W base spare held n 101 cs = some y) : ∃ x : Cmdn, x.2.2 < 18446744073709551616 ∧ cs = cells3 x ∧ y.1 = .agg [.lit (.int .i64 x.1), .lit (.string x.2.1), .lit (.float .f64 x.2.2)] := by
  obtain ⟨y0, y1, y2, m, rfl, hl, h0, h1, h2⟩ := Go.Deep.trod_struct3 Tryz.underlying101 h
  rw [show Tryz.prog.cellsOf 101 = 3 by kernel_rfl] at hl
  have hC : Tryz.prog.cellsOf 3 = 1 := by kernel_rfl
  have hD : Tryz.prog.cellsOf 9 = 1 := by kernel_rfl
  have hE : Tryz.prog.cellsOf 99 = 1 := by kernel_rfl
  match cs, hl with
  | [c0, c1, c2], _ =>
    simp [hC] at h0
    simp [hD] at h1
    simp [hE] at h2
    obtain ⟨k, e0, rfl, -⟩ := DataW.trod_int Tryz.underlying3 h0
    obtain ⟨s, e1, rfl, -⟩ := DataW.trod_string Tryz.underlying9 h1
    obtain ⟨x, e2, rfl, hx⟩ := trod_float Tryz.underlying99 h2
    simp only [List.cons.injEq, and_true] at e0 e1 e2
    exact ⟨(k, s.data.toList, x), by simpa [Lit.wf] using hx, by rw [e0, e1, e2]; rfl, rfl⟩
theorem cmd_weight (x : Cmdn) : x.2.1.length ∈ (DataW.agg [.lit (.int .i64 x.1), .lit (.string x.2.1), .lit (.float .f64 x.2.2)] : DataW H).weights Tryz.prog 101 := by
  simp [DataW.weights, DataW.weightsEach, Tryz.underlying101]
set_option maxRecDepth 100000 in
theorem ids_read {n : Nat} {v : Value} {y : DataW H × List MemPlace} (h : DataW.trod enc Tryz.prog W base spare held n 35 [v] = some y) : ∃ zs : List Idn, RowAt W v zs ∧ ∀ x ∈ zs, wfId x := by
  obtain ⟨a, len, cap, rfl, h1, h2, h3, h4⟩ := slice_reads Tryz.underlying35 (c := 2) (by kernel_rfl) (by decide) h (fun cs _ => ∃ x : Idn, wfId x ∧ cs = ids x) fun n cs y h => id_reads h
  unfold maxLen at h2
  by_cases hz : len = 0
  · subst hz
    exact ⟨[], ⟨a, cap, rfl, h1, by omega, h3, fun h => absurd rfl h⟩, fun x hx => by cases hx⟩
  · obtain ⟨b, off, rfl, hlt, elems, rest, -, hall⟩ := h4 (by omega)
    obtain ⟨zs, hl, hz⟩ := choose_list ((0, 0) : Idn) len (fun i x => wfId x ∧ W.cell? ⟨b, off + i * 2, none⟩ = some (.int .i64 x.1) ∧ W.cell? ⟨b, off + i * 2 + 1, none⟩ = some (.int .i64 x.2)) fun i hi => by
      obtain ⟨cs, D, -, ⟨x, hx, rfl⟩, hc⟩ := hall i hi
      exact ⟨x, hx, hc 0 (by decide), hc 1 (by decide)⟩
    refine ⟨zs, ⟨some ⟨b, off, none⟩, cap, by rw [hl], by rw [hl]; exact h1, by omega, (fun e => by cases e), fun _ => ⟨b, off, rfl, hlt, fun j hj => (hz j (by omega)).2⟩⟩, fun x hx => ?_⟩
    obtain ⟨j, hj, rfl⟩ := mem_nth.1 hx
    exact (hz j (by omega)).1
set_option maxRecDepth 100000 in
theorem cmds_read {n : Nat} {v : Value} {y : DataW H × List MemPlace} (h : DataW.trod enc Tryz.prog W base spare held n 46 [v] = some y) (hw : ∀ k ∈ y.1.weights Tryz.prog 46, k ≤ reachBytes) : ∃ cs : List Cmdn, layC.Row W v cs ∧ ∀ x ∈ cs, wfC x := by
  obtain ⟨a, len, cap, rfl, h1, h2, -, h4⟩ := slice_reads Tryz.underlying46 (c := 3) (by kernel_rfl) (by decide) h (fun cs D => ∃ x : Cmdn, x.2.2 < 18446744073709551616 ∧ cs = cells3 x ∧ D = .agg [.lit (.int .i64 x.1), .lit (.string x.2.1), .lit (.float .f64 x.2.2)]) fun n cs y h => cmd_reads h
  unfold maxLen at h2
  by_cases hl0 : len = 0
  · subst hl0
    exact ⟨[], ⟨a, cap, rfl, h1, by omega, fun h => absurd rfl h⟩, fun x hx => by cases hx⟩
  · obtain ⟨b, off, rfl, hlt, elems, rest, hy, hall⟩ := h4 (by omega)
    rw [hy] at hw
    obtain ⟨zs, hl, hzs⟩ := choose_list ((0, [], 0) : Cmdn) len (fun i x => wfC x ∧ layC.lies W b (layC.pos off i) x) fun i hi => by
      obtain ⟨cs, D, hD, ⟨x, hx, rfl, rfl⟩, hc⟩ := hall i hi
      exact ⟨x, ⟨hx, sized_in Tryz.underlying46 hw hD _ (cmd_weight x)⟩, hc 0 (by decide), hc 1 (by decide), hc 2 (by decide)⟩
    refine ⟨zs, ⟨some ⟨b, off, none⟩, cap, by rw [hl], by rw [hl]; exact h1, by omega, fun _ => ⟨b, off, rfl, hlt, fun j hj => (hzs j (by omega)).2⟩⟩, fun x hx => ?_⟩
    obtain ⟨j, hj, rfl⟩ := (Lay.mem (L := layC)).1 hx
    exact (hzs j (by omega)).1
set_option maxRecDepth 100000 in
/-- What reads as a record: its id, its number, its lists. -/
theorem rec_reads {n : Nat} {cs : List Value} {y : DataW H × List MemPlace} (h : DataW.trod enc Tryz.prog W base spare held n 48 cs = some y) (hw : ∀ k ∈ y.1.weights Tryz.prog 48, k ≤ reachBytes) :
    ∃ (a b q : Int) (v u : Value) (ds : List Idn) (bs : List Cmdn), cs = [.int .i64 a, .int .i64 b, .int .i64 q, v, u] ∧ wfId (a, b) ∧ wfI q ∧ RowAt W v ds ∧ (∀ x ∈ ds, wfId x) ∧ layC.Row W u bs ∧ ∀ x ∈ bs, wfC x := by
  obtain ⟨y0, y1, y2, y3, m, rfl, hl, h0, h1, h2, h3⟩ := Go.Joins.trod_struct4 Tryz.underlying48 h
  rw [show Tryz.prog.cellsOf 48 = 5 by kernel_rfl] at hl
  have hI : Tryz.prog.cellsOf 41 = 2 := by kernel_rfl
  have hC : Tryz.prog.cellsOf 3 = 1 := by kernel_rfl
  have hD : Tryz.prog.cellsOf 35 = 1 := by kernel_rfl
  have hE : Tryz.prog.cellsOf 46 = 1 := by kernel_rfl
  match cs, hl with
  | [c0, c1, c2, c3, c4], _ =>
    simp [hI] at h0
    simp [hC] at h1
    simp [hD] at h2
    simp [hE] at h3
    obtain ⟨x, hx, e0⟩ := id_reads h0
    obtain ⟨q, rfl, hq⟩ := int_reads h1
    obtain ⟨ds, r1, w1⟩ := ids_read h2
    obtain ⟨bs, r2, w2⟩ := cmds_read h3 (fun k hk => hw k (by simp only [DataW.weights, Tryz.underlying48, List.map_cons, DataW.weightsEach, List.mem_append]; exact .inr (.inr (.inr (.inl hk)))))
    unfold ids at e0
    simp only [List.cons.injEq, and_true] at e0
    exact ⟨x.1, x.2, q, c3, c4, ds, bs, by rw [e0.1, e0.2], hx, hq, r1, w1, r2, w2⟩
set_option maxRecDepth 100000 in
theorem open_rec {r : Reach} {b0 : Nat} {z : Value} {d : DataW H} {p : List MemPlace} (hv : Value.okWide Tryz.prog W r b0 48 z) (h : DataW.Trod enc Tryz.prog W base spare held 48 z d p) (hw : ∀ k ∈ d.weights Tryz.prog 48, k ≤ reachBytes) :
    ∃ (a b q : Int) (v u : Value) (ds : List Idn) (bs : List Cmdn), z = .agg #[.int .i64 a, .int .i64 b, .int .i64 q, v, u] ∧ RowAt W v ds ∧ layC.Row W u bs ∧ ∀ x ∈ bs, wfC x := by
  obtain ⟨cs, rfl, -⟩ := okWide_struct Tryz.underlying48 hv
  obtain ⟨fuel, h⟩ := h
  have hc : (Value.agg cs).cells.toList = cs.toList := by simp [Value.cells]
  rw [hc] at h
  obtain ⟨a, b, q, v, u, ds, bs, e, -, -, r1, -, r2, w2⟩ := rec_reads h hw
  exact ⟨a, b, q, v, u, ds, bs, by rw [show cs = #[.int .i64 a, .int .i64 b, .int .i64 q, v, u] by rw [← Array.toList_inj, e]], r1, r2, w2⟩
end
end Go.Proofs.YthcejcffnjhomaaGreat.Rec
