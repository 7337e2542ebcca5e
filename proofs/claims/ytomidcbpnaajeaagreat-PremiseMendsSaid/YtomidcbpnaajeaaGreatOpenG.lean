/- Arguments opened: a slice of structs as the list of what its elements hold; an id, a list of ids. No condition but those in each statement. -/
import Derived.Test.YtomidcbpnaajeaaGreatIdA
import Derived.Test.YtomidcbpnaajeaaGreatOpen0
import Derived.Deep.Slices
import Derived.Lib.SmallJoins
import Derived.Test.YtomidcbpnaajeaaGreatBatA
import Derived.Test.YtomidcbpnaajeaaGreatGraA
namespace Go.Proofs.YtomidcbpnaajeaaGreat.Ids
open Go.ChangeShapes Go.WideShapes Go.ChangeAt Go.RowKit

section
variable {H : Type} {enc : TypeId × Value → H} {P : Program} {w : World} {base : Nat} {spare : Nat → Bool} {held : Bool}
/-- A slice of elements of c cells each, of which each reads: it is empty, or lies in memory, its elements' cells as p says. -/
theorem open_rows {t e : TypeId} {c : Nat} (ht : P.underlying t = some (.slice e)) (hC : P.cellsOf e = c) (hc : 0 < c) {a : Option Addr} {len cap : Nat} {d : DataW H} {ps : List MemPlace} (h : DataW.Trod enc P w base spare held t (.slice a len cap) d ps)
    (p : List Value → Prop) (hp : ∀ n cs y, DataW.trod enc P w base spare held n e cs = some y → p cs) :
    len ≤ cap ∧ cap ≤ maxLen ∧ (a = none → cap = 0) ∧ (0 < len → ∃ b off, a = some ⟨b, off, none⟩ ∧ b < w.heap.size ∧ ∀ i, i < len → ∃ cs, p cs ∧ ∀ j, j < c → w.cell? ⟨b, off + i * c + j, none⟩ = cs[j]?) := by
  obtain ⟨fuel, h⟩ := h
  have hcs : (Value.slice a len cap).cells.toList = [.slice a len cap] := rfl
  rw [hcs] at h
  rcases Go.Deep.open_slice ht h with ⟨h0, -⟩ | ⟨a', len', cap', m, n, D, Pl, h0, hb, hl, hm, hmm, -, hall⟩
  · simp only [List.cons.injEq, and_true] at h0
    cases h0
    exact ⟨Nat.le_refl _, by unfold maxLen; omega, fun _ => rfl, fun h => absurd h (Nat.lt_irrefl 0)⟩
  · simp only [List.cons.injEq, and_true] at h0
    cases h0
    refine ⟨hl, hm, (fun e => by cases e), fun hpos => ?_⟩
    have hlm : len ≤ m := by rw [hmm]; split <;> omega
    rw [hC] at hall
    have key : ∀ i, i < len → ∃ cs, cs.length = c ∧ p cs ∧ ∀ j, j < c → w.cell? ((a'.add (i * c)).add j) = cs[j]? := fun i hi => by
      obtain ⟨cs, h1, h2⟩ := hall i (by omega)
      obtain ⟨-, h3, h4⟩ := World.cells?_some h1
      exact ⟨cs, h3, hp _ _ _ h2, h4⟩
    obtain ⟨cs, h1, -, h3⟩ := key 0 hpos
    have h4 := h3 0 hc
    have h5 : cs[0]? = some (cs[0]'(by omega)) := List.getElem?_eq_getElem (by omega)
    rw [h5] at h4
    have ha : (a'.add (0 * c)).add 0 = a' := by simp [Addr.add]
    rw [ha] at h4
    have hs := World.cell?_spot h4
    obtain ⟨b, off, sp⟩ := a'
    simp only at hs
    subst hs
    refine ⟨b, off, rfl, World.block_lt_of_cell? _ _ h4, fun i hi => ?_⟩
    obtain ⟨cs, -, h6, h7⟩ := key i hi
    refine ⟨cs, h6, fun j hj => ?_⟩
    have := h7 j hj
    rw [Addr.add_lit, Addr.add_lit] at this
    exact this
end

section
variable {H : Type} {enc : TypeId × Value → H} {W : World} {base : Nat} {spare : Nat → Bool} {held : Bool}
set_option maxRecDepth 100000 in
theorem int_reads {n : Nat} {c : Value} {y : DataW H × List MemPlace} (h : DataW.trod enc Tryz.prog W base spare held n 3 [c] = some y) : ∃ a, c = .int .i64 a ∧ wfI a := by
  obtain ⟨a, e, -, hw⟩ := DataW.trod_int Tryz.underlying3 h
  simp only [List.cons.injEq, and_true] at e
  exact ⟨a, e, wf_i64.1 hw⟩
set_option maxRecDepth 100000 in
/-- What reads as an id is its two numbers. -/
theorem id_reads {n : Nat} {cs : List Value} {y : DataW H × List MemPlace} (h : DataW.trod enc Tryz.prog W base spare held n 32 cs = some y) : ∃ x : Idn, wfId x ∧ cs = ids x := by
  obtain ⟨xs, m, rfl, -, hl, hxl, hf⟩ := DataW.trod_struct Tryz.underlying32 h
  rw [show Tryz.prog.cellsOf 32 = 2 by kernel_rfl] at hl
  have hC : Tryz.prog.cellsOf 3 = 1 := by kernel_rfl
  match cs, hl with
  | [c0, c1], _ =>
    have h0 := hf 0 _ rfl
    have h1 := hf 1 _ rfl
    simp [hC] at h0 h1
    simp at hxl
    obtain ⟨a, rfl, wa⟩ := int_reads (h0.trans (List.getElem?_eq_getElem (by omega)))
    obtain ⟨b, rfl, wb⟩ := int_reads (h1.trans (List.getElem?_eq_getElem (by omega)))
    exact ⟨(a, b), ⟨wa, wb⟩, rfl⟩
set_option maxRecDepth 100000 in
theorem open_idl {r : Reach} {b0 : Nat} {v : Value} {d : DataW H} {p : List MemPlace} (hv : Value.okWide Tryz.prog W r b0 32 v) (h : DataW.Trod enc Tryz.prog W base spare held 32 v d p) : ∃ x y : Int, v = .agg #[.int .i64 x, .int .i64 y] ∧ wfId (x, y) := by
  obtain ⟨cs, rfl, -⟩ := okWide_struct Tryz.underlying32 hv
  obtain ⟨fuel, h⟩ := h
  have hc : (Value.agg cs).cells.toList = cs.toList := by simp [Value.cells]
  rw [hc] at h
  obtain ⟨x, hx, e⟩ := id_reads h
  exact ⟨x.1, x.2, by rw [show cs = (ids x).toArray by rw [← e]]; rfl, hx⟩
set_option maxRecDepth 100000 in
theorem open_list {r : Reach} {b0 : Nat} {v : Value} {d : DataW H} {p : List MemPlace} (hv : Value.okWide Tryz.prog W r b0 23 v) (h : DataW.Trod enc Tryz.prog W base spare held 23 v d p) : ∃ zs : List Idn, RowAt W v zs ∧ ∀ x ∈ zs, wfId x := by
  obtain ⟨a, len, cap, rfl⟩ := okWide_slice Tryz.underlying23 hv
  obtain ⟨h1, h2, h3, h4⟩ := open_rows Tryz.underlying23 (c := 2) (by kernel_rfl) (by decide) h (fun cs => ∃ x : Idn, wfId x ∧ cs = ids x) fun n cs y h => id_reads h
  unfold maxLen at h2
  by_cases hz : len = 0
  · subst hz
    exact ⟨[], ⟨a, cap, rfl, h1, by omega, h3, fun h => absurd rfl h⟩, fun x hx => by cases hx⟩
  · obtain ⟨b, off, rfl, hlt, hall⟩ := h4 (by omega)
    obtain ⟨zs, hl, hz⟩ := choose_list ((0, 0) : Idn) len (fun i x => wfId x ∧ W.cell? ⟨b, off + i * 2, none⟩ = some (.int .i64 x.1) ∧ W.cell? ⟨b, off + i * 2 + 1, none⟩ = some (.int .i64 x.2)) fun i hi => by
      obtain ⟨cs, ⟨x, hx, rfl⟩, hc⟩ := hall i hi
      exact ⟨x, hx, hc 0 (by decide), hc 1 (by decide)⟩
    refine ⟨zs, ⟨some ⟨b, off, none⟩, cap, by rw [hl], by rw [hl]; exact h1, by omega, (fun e => by cases e), fun _ => ⟨b, off, rfl, hlt, fun j hj => (hz j (by omega)).2⟩⟩, fun x hx => ?_⟩
    obtain ⟨j, hj, rfl⟩ := mem_nth.1 hx
    exact (hz j (by omega)).1
end
end Go.Proofs.YtomidcbpnaajeaaGreat.Ids

/- Arguments opened, at their cells: a list of ids, a list of commands, a record. No condition but those in each statement. -/
namespace Go.Proofs.YtomidcbpnaajeaaGreat.Rec
open Go.ChangeShapes Go.WideShapes Go.ChangeAt Go.RowKit Cmd Bat Ids

section
variable {H : Type} {enc : TypeId × Value → H} {W : World} {base : Nat} {spare : Nat → Bool} {held : Bool}
def cells3 (x : Cmdn) : List Value := [.int .i64 x.1, .string (str x.2.1), .float .f64 x.2.2]
set_option maxRecDepth 100000 in
/-- What reads as a command is its number, text and word. -/
theorem cmd_reads {n : Nat} {cs : List Value} {y : DataW H × List MemPlace} (h : DataW.trod enc Tryz.prog W base spare held n 55 cs = some y) : ∃ x : Cmdn, x.2.2 < 18446744073709551616 ∧ cs = cells3 x ∧ y.1 = .agg [.lit (.int .i64 x.1), .lit (.string x.2.1), .lit (.float .f64 x.2.2)] := by
  obtain ⟨y0, y1, y2, m, rfl, hl, h0, h1, h2⟩ := Go.Deep.trod_struct3 Tryz.underlying55 h
  rw [show Tryz.prog.cellsOf 55 = 3 by kernel_rfl] at hl
  have hC : Tryz.prog.cellsOf 3 = 1 := by kernel_rfl
  have hD : Tryz.prog.cellsOf 9 = 1 := by kernel_rfl
  have hE : Tryz.prog.cellsOf 53 = 1 := by kernel_rfl
  match cs, hl with
  | [c0, c1, c2], _ =>
    simp [hC] at h0
    simp [hD] at h1
    simp [hE] at h2
    obtain ⟨k, e0, rfl, -⟩ := DataW.trod_int Tryz.underlying3 h0
    obtain ⟨s, e1, rfl, -⟩ := DataW.trod_string Tryz.underlying9 h1
    obtain ⟨x, e2, rfl, hx⟩ := trod_float Tryz.underlying53 h2
    simp only [List.cons.injEq, and_true] at e0 e1 e2
    exact ⟨(k, s.data.toList, x), by simpa [Lit.wf] using hx, by rw [e0, e1, e2]; rfl, rfl⟩
theorem cmd_weight (x : Cmdn) : x.2.1.length ∈ (DataW.agg [.lit (.int .i64 x.1), .lit (.string x.2.1), .lit (.float .f64 x.2.2)] : DataW H).weights Tryz.prog 55 := by
  simp [DataW.weights, DataW.weightsEach, Tryz.underlying55]
set_option maxRecDepth 100000 in
theorem ids_read {n : Nat} {v : Value} {y : DataW H × List MemPlace} (h : DataW.trod enc Tryz.prog W base spare held n 23 [v] = some y) : ∃ zs : List Idn, RowAt W v zs ∧ ∀ x ∈ zs, wfId x := by
  obtain ⟨a, len, cap, rfl, h1, h2, h3, h4⟩ := slice_reads Tryz.underlying23 (c := 2) (by kernel_rfl) (by decide) h (fun cs _ => ∃ x : Idn, wfId x ∧ cs = ids x) fun n cs y h => id_reads h
  unfold maxLen at h2
  by_cases hz : len = 0
  · subst hz
    exact ⟨[], ⟨a, cap, rfl, h1, by omega, h3, fun h => absurd rfl h⟩, fun x hx => by cases hx⟩
  · obtain ⟨b, off, rfl, hlt, elems, rest, -, hall⟩ := h4 (by omega)
    obtain ⟨zs, hl, hz⟩ := choose_list ((0, 0) : Idn) len (fun i x => wfId x ∧ W.cell? ⟨b, off + i * 2, none⟩ = some (.int .i64 x.1) ∧ W.cell? ⟨b, off + i * 2 + 1, none⟩ = some (.int .i64 x.2)) fun i hi => by
      obtain ⟨cs, D, -, ⟨x, hx, rfl⟩, hc⟩ := hall i hi
      exact ⟨x, hx, hc 0 (by decide), hc 1 (by decide)⟩
    refine ⟨zs, ⟨some ⟨b, off, none⟩, cap, by rw [hl], by rw [hl]; exact h1, by omega, (fun e => by cases e), fun _ => ⟨b, off, rfl, hlt, fun j hj => (hz j (by omega)).2⟩⟩, fun x hx => ?_⟩
    obtain ⟨j, hj, rfl⟩ := mem_nth.1 hx
    exact (hz j (by omega)).1
set_option maxRecDepth 100000 in
theorem cmds_read {n : Nat} {v : Value} {y : DataW H × List MemPlace} (h : DataW.trod enc Tryz.prog W base spare held n 40 [v] = some y) (hw : ∀ k ∈ y.1.weights Tryz.prog 40, k ≤ reachBytes) : ∃ cs : List Cmdn, layC.Row W v cs ∧ ∀ x ∈ cs, wfC x := by
  obtain ⟨a, len, cap, rfl, h1, h2, -, h4⟩ := slice_reads Tryz.underlying40 (c := 3) (by kernel_rfl) (by decide) h (fun cs D => ∃ x : Cmdn, x.2.2 < 18446744073709551616 ∧ cs = cells3 x ∧ D = .agg [.lit (.int .i64 x.1), .lit (.string x.2.1), .lit (.float .f64 x.2.2)]) fun n cs y h => cmd_reads h
  unfold maxLen at h2
  by_cases hl0 : len = 0
  · subst hl0
    exact ⟨[], ⟨a, cap, rfl, h1, by omega, fun h => absurd rfl h⟩, fun x hx => by cases hx⟩
  · obtain ⟨b, off, rfl, hlt, elems, rest, hy, hall⟩ := h4 (by omega)
    rw [hy] at hw
    obtain ⟨zs, hl, hzs⟩ := choose_list ((0, [], 0) : Cmdn) len (fun i x => wfC x ∧ layC.lies W b (layC.pos off i) x) fun i hi => by
      obtain ⟨cs, D, hD, ⟨x, hx, rfl, rfl⟩, hc⟩ := hall i hi
      exact ⟨x, ⟨hx, sized_in Tryz.underlying40 hw hD _ (cmd_weight x)⟩, hc 0 (by decide), hc 1 (by decide), hc 2 (by decide)⟩
    refine ⟨zs, ⟨some ⟨b, off, none⟩, cap, by rw [hl], by rw [hl]; exact h1, by omega, fun _ => ⟨b, off, rfl, hlt, fun j hj => (hzs j (by omega)).2⟩⟩, fun x hx => ?_⟩
    obtain ⟨j, hj, rfl⟩ := (Lay.mem (L := layC)).1 hx
    exact (hzs j (by omega)).1
set_option maxRecDepth 100000 in
/-- What reads as a record: its id, its number, its lists. -/
theorem rec_reads {n : Nat} {cs : List Value} {y : DataW H × List MemPlace} (h : DataW.trod enc Tryz.prog W base spare held n 42 cs = some y) (hw : ∀ k ∈ y.1.weights Tryz.prog 42, k ≤ reachBytes) :
    ∃ (a b q : Int) (v u : Value) (ds : List Idn) (bs : List Cmdn), cs = [.int .i64 a, .int .i64 b, .int .i64 q, v, u] ∧ wfId (a, b) ∧ wfI q ∧ RowAt W v ds ∧ (∀ x ∈ ds, wfId x) ∧ layC.Row W u bs ∧ ∀ x ∈ bs, wfC x := by
  obtain ⟨y0, y1, y2, y3, m, rfl, hl, h0, h1, h2, h3⟩ := Go.Joins.trod_struct4 Tryz.underlying42 h
  rw [show Tryz.prog.cellsOf 42 = 5 by kernel_rfl] at hl
  have hI : Tryz.prog.cellsOf 32 = 2 := by kernel_rfl
  have hC : Tryz.prog.cellsOf 3 = 1 := by kernel_rfl
  have hD : Tryz.prog.cellsOf 23 = 1 := by kernel_rfl
  have hE : Tryz.prog.cellsOf 40 = 1 := by kernel_rfl
  match cs, hl with
  | [c0, c1, c2, c3, c4], _ =>
    simp [hI] at h0
    simp [hC] at h1
    simp [hD] at h2
    simp [hE] at h3
    obtain ⟨x, hx, e0⟩ := id_reads h0
    obtain ⟨q, rfl, hq⟩ := int_reads h1
    obtain ⟨ds, r1, w1⟩ := ids_read h2
    obtain ⟨bs, r2, w2⟩ := cmds_read h3 (fun k hk => hw k (by simp only [DataW.weights, Tryz.underlying42, List.map_cons, DataW.weightsEach, List.mem_append]; exact .inr (.inr (.inr (.inl hk)))))
    unfold ids at e0
    simp only [List.cons.injEq, and_true] at e0
    exact ⟨x.1, x.2, q, c3, c4, ds, bs, by rw [e0.1, e0.2], hx, hq, r1, w1, r2, w2⟩
set_option maxRecDepth 100000 in
theorem open_rec {r : Reach} {b0 : Nat} {z : Value} {d : DataW H} {p : List MemPlace} (hv : Value.okWide Tryz.prog W r b0 42 z) (h : DataW.Trod enc Tryz.prog W base spare held 42 z d p) (hw : ∀ k ∈ d.weights Tryz.prog 42, k ≤ reachBytes) :
    ∃ (a b q : Int) (v u : Value) (ds : List Idn) (bs : List Cmdn), z = .agg #[.int .i64 a, .int .i64 b, .int .i64 q, v, u] ∧ RowAt W v ds ∧ layC.Row W u bs ∧ ∀ x ∈ bs, wfC x := by
  obtain ⟨cs, rfl, -⟩ := okWide_struct Tryz.underlying42 hv
  obtain ⟨fuel, h⟩ := h
  have hc : (Value.agg cs).cells.toList = cs.toList := by simp [Value.cells]
  rw [hc] at h
  obtain ⟨a, b, q, v, u, ds, bs, e, -, -, r1, -, r2, w2⟩ := rec_reads h hw
  exact ⟨a, b, q, v, u, ds, bs, by rw [show cs = #[.int .i64 a, .int .i64 b, .int .i64 q, v, u] by rw [← Array.toList_inj, e]], r1, r2, w2⟩
end
end Go.Proofs.YtomidcbpnaajeaaGreat.Rec

/- Arguments opened, at their cells: a list of records. No condition but those in each statement. -/
namespace Go.Proofs.YtomidcbpnaajeaaGreat.Gra
open Go.ChangeShapes Go.WideShapes Go.ChangeAt Go.RowKit Cmd Bat Ids Rec Wid
set_option linter.unusedVariables false
set_option linter.unusedSimpArgs false

section
variable {H : Type} {enc : TypeId × Value → H} {W : World} {base : Nat} {spare : Nat → Bool} {held : Bool}
set_option maxRecDepth 100000 in
theorem recs_read {n : Nat} {v : Value} {y : DataW H × List MemPlace} (h : DataW.trod enc Tryz.prog W base spare held n 22 [v] = some y) (hw : ∀ k ∈ y.1.weights Tryz.prog 22, k ≤ reachBytes) : ∃ rs : List Rcd, layG.Row W v rs ∧ ∀ x ∈ rs, wfG x := by
  obtain ⟨a, len, cap, rfl, h1, h2, -, h4⟩ := slice_reads Tryz.underlying22 (c := 5) (by kernel_rfl) (by decide) h (fun cs D => (∀ k ∈ D.weights Tryz.prog 42, k ≤ reachBytes) → ∃ (a b q : Int) (v u : Value) (ds : List Idn) (bs : List Cmdn), cs = [.int .i64 a, .int .i64 b, .int .i64 q, v, u] ∧ wfId (a, b) ∧ wfI q ∧ RowAt W v ds ∧ (∀ x ∈ ds, wfId x) ∧ layC.Row W u bs ∧ ∀ x ∈ bs, wfC x) fun n cs y h hk => rec_reads h hk
  unfold maxLen at h2
  by_cases hl0 : len = 0
  · subst hl0
    exact ⟨[], ⟨a, cap, rfl, h1, by omega, fun h => absurd rfl h⟩, fun x hx => (by cases hx)⟩
  · obtain ⟨b, off, rfl, hlt, elems, rest, hy, hall⟩ := h4 (by omega)
    rw [hy] at hw
    obtain ⟨zs, hl, hzs⟩ := choose_list (((0, 0), 0, [], []) : Rcd) len (fun i x => wfG x ∧ layG.lies W b (layG.pos off i) x) fun i hi => by
      obtain ⟨cs, D, hD, hp, hc⟩ := hall i hi
      obtain ⟨x1, x2, q, v, u, ds, bs, rfl, i1, i2, r1, w1, r2, w2⟩ := hp (sized_in Tryz.underlying22 hw hD)
      exact ⟨((x1, x2), q, ds, bs), ⟨i1, w1, w2⟩, hc 0 (by decide), hc 1 (by decide), hc 2 (by decide), ⟨v, hc 3 (by decide), r1⟩, u, hc 4 (by decide), r2⟩
    refine ⟨zs, ⟨some ⟨b, off, none⟩, cap, by rw [hl], by rw [hl]; exact h1, by omega, fun _ => ⟨b, off, rfl, hlt, fun j hj => (hzs j (by omega)).2⟩⟩, fun x hx => ?_⟩
    obtain ⟨j, hj, rfl⟩ := (Lay.mem (L := layG)).1 hx
    exact (hzs j (by omega)).1
set_option maxRecDepth 100000 in
theorem open_recs {r : Reach} {b0 : Nat} {z : Value} {d : DataW H} {p : List MemPlace} (hv : Value.okWide Tryz.prog W r b0 22 z) (h : DataW.Trod enc Tryz.prog W base spare held 22 z d p) (hw : ∀ k ∈ d.weights Tryz.prog 22, k ≤ reachBytes) : ∃ rs : List Rcd, layG.Row W z rs ∧ ∀ x ∈ rs, wfG x := by
  obtain ⟨a, n, c, rfl⟩ := okWide_slice Tryz.underlying22 hv
  obtain ⟨fuel, h⟩ := h
  exact recs_read h hw
end
end Go.Proofs.YtomidcbpnaajeaaGreat.Gra
