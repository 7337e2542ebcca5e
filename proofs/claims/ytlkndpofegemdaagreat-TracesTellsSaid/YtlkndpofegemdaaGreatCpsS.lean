/- What the document's Sorted gives (layer 17, comps): ids that are there, in the order of their records. Conditions: the rows lie in memory as their cells say; not more than 50000 ids. (Written by tools/gen_cpss.py.) -/
import Derived.Test.YtlkndpofegemdaaGreatReg
import Derived.Test.YtlkndpofegemdaaGreatCpsA
import Derived.Maps.AppendAt
import Derived.Test.YtlkndpofegemdaaGreatSls
namespace Go.Proofs.YtlkndpofegemdaaGreat.Cps
open Go.RowKit Cmd Bat Ids Rec Wid Gra Rea
set_option linter.unusedVariables false
set_option linter.unusedSimpArgs false

set_option maxRecDepth 100000 in
/-- append of one id to a row of the call's own. -/
theorem push_id {ops : Array Oper} {rest : List Oper} {o : Oper} {a : Act} {Q : Exit → Act → World → Prop} {w : World} (hgd : o.guard = none) (s x : Operand) (ho : o.op = .call { callee := .builtin .append, args := #[s, x], argTypes := #[36, 36] })
    (base : Nat) (v : Value) (zs : List Idn) (hs : a.eval s = v) (hv : Owns w base v zs) (hb : base ≤ w.heap.size) (eb : Nat) (y z : Int) (hx : a.eval x = .slice (some ⟨eb, 0, none⟩) 1 1) (he : w.heap[eb]? = some (.cells #[.int .i64 y, .int .i64 z] 43 (0, 0))) (hl : zs.length + 1 ≤ 1000000)
    (hK : ∀ v' w', Hid (Owns w' base v' (zs ++ [(y, z)])) → Hid (Below base w w') → wpList Tryz.prog ops Q rest (a.put o.dst v') w') : wpList Tryz.prog ops Q (o :: rest) a w := by
  obtain ⟨i0, hi, hz0, hz1, hz2⟩ := info_parts info_id
  have hc : ∀ j u, [Value.int .i64 y, Value.int .i64 z][j]? = some u → w.cell? ((⟨eb, 0, none⟩ : Addr).add j) = some u := fun j u hu => by
    rw [Bat.add_lit]
    match j, hu with
    | 0, hu => injection hu with hu; subst hu; exact cell_row he rfl
    | 1, hu => injection hu with hu; subst hu; exact cell_row he rfl
    | j + 2, hu => simp at hu
  refine wpList_append_own w hgd s x 36 ho base 43 i0 (.agg #[.int .i64 0, .int .i64 0]) 2 16 Tryz.underlying36 hi hz0 hz1 hz2 rfl (by decide) v zs.length (flat zs) hs hv ⟨eb, 0, none⟩ 1 1 [.int .i64 y, .int .i64 z] hx rfl hc (by simp [Value.oneCell']) (by unfold maxLen; omega) (by omega) hb fun v' w' h1 h2 _ => hK v' w' (Lib.hid (Owns.snoc h1)) (Lib.hid (below_grown (Below.refl base w) (Nat.le_refl _) hv hb h2))
theorem half_len (rs : List Rcd) (x : Idn) (l : List Idn) : (half rs x l).1.length ≤ l.length + 1 := by
  have h := congrArg List.length (half_done rs x l)
  rw [insR_len] at h
  split at h
  · omega
  · rw [List.length_append] at h; simp at h; omega
theorem rec_cells {w : World} {B off : Nat} {rs : List Rcd} (h : layG.In w B off rs) {j : Nat} {a b : Int} (hj : j < rs.length) (hx : (layG.at rs j).1 = (a, b)) (hn : ∀ i, i < j → (layG.at rs i).1 ≠ (a, b)) : ∃ (p1 : Option Addr) (n1 k1 : Nat) (p2 : Option Addr) (n2 k2 : Nat), ∀ W, Below w.heap.size w W →
    W.cell? ⟨B, off + j * 5, none⟩ = some (.int .i64 a) ∧ W.cell? ⟨B, off + j * 5 + 1, none⟩ = some (.int .i64 b) ∧ W.cell? ⟨B, off + j * 5 + 2, none⟩ = some (.int .i64 (seqG rs (a, b))) ∧ W.cell? ⟨B, off + j * 5 + 3, none⟩ = some (.slice p1 n1 k1) ∧ W.cell? ⟨B, off + j * 5 + 4, none⟩ = some (.slice p2 n2 k2) := by
  obtain ⟨q, ds, cs, hq⟩ : ∃ q ds cs, layG.at rs j = ((a, b), q, ds, cs) := ⟨_, _, _, by rw [← hx]⟩
  obtain ⟨p, cap, p', cap', hr, -, -⟩ := rcdAt h hj hq
  have hs : seqG rs (a, b) = q := by rw [seq_at hj hx hn, hq]
  exact ⟨p, _, cap, p', _, cap', fun W hb => ⟨(hb.cell (p := ⟨B, off + j * 5, none⟩) hr.lt).trans hr.c0, (hb.cell (p := ⟨B, off + j * 5 + 1, none⟩) hr.lt).trans hr.c1, by rw [hs]; exact (hb.cell (p := ⟨B, off + j * 5 + 2, none⟩) hr.lt).trans hr.c2, (hb.cell (p := ⟨B, off + j * 5 + 3, none⟩) hr.lt).trans hr.c3, (hb.cell (p := ⟨B, off + j * 5 + 4, none⟩) hr.lt).trans hr.c4⟩⟩
theorem own_on {w w' : World} {base : Nat} {v : Value} {zs : List Idn} (h : Owns w base v zs) (hb : Below w.heap.size w w') : Owns w' base v zs := Bat.own_below h hb
/-- A result that is a row of ids of the call's own. -/
def GivesOwn (zs : List Idn) (w : World) : Ending → World → Prop := fun e W => ∃ v, e = .returned v ∧ Owns W w.heap.size v zs ∧ Below w.heap.size w W
theorem void_own (w : World) : Owns (w.alloc (.cells #[] 43)) w.heap.size (.slice (some ⟨w.heap.size, 0, none⟩) 0 0) [] := World.ownsRow_made w #[] 0 (Nat.le_refl _) (by decide) rfl
end Go.Proofs.YtlkndpofegemdaaGreat.Cps

/- What the document's Of gives (layer 17, comps): all components. Conditions: the records lie in memory as their cells say; not more than 25000 of them, nor of their Deps. -/
namespace Go.Proofs.YtlkndpofegemdaaGreat.Cps
open Go.RowKit Cmd Bat Ids Rec Wid Gra Rea
set_option linter.unusedVariables false
set_option linter.unusedSimpArgs false

/-! ### Lists of lists that grow -/
/-- A list of lists of the call's own: its blocks, and the rows that they hold. -/
structure Lists (W : World) (base : Nat) (v : Value) (L : List (List Idn)) : Prop where
  own : ∃ qs : List Slc, qs.length = L.length ∧ wdSl.Own 36 W base v qs ∧ ∀ j, j < L.length → Owns W base (sliceOf (qs.getD j (none, 0, 0))) (L.getD j [])
theorem Lists.row {W : World} {base : Nat} {v : Value} {L : List (List Idn)} (h : Lists W base v L) : layLL.Row W v L := by
  obtain ⟨qs, hl, ho, hr⟩ := h.own
  obtain ⟨p, cap, rfl, h1, h2, h3⟩ := Wd.Own.row ho
  refine ⟨p, cap, by rw [hl], by rw [← hl]; exact h1, h2, fun hz => ?_⟩
  obtain ⟨B, off, rfl, hi⟩ := h3 (fun e => hz (by rw [e] at hl; exact List.eq_nil_of_length_eq_zero hl.symm))
  exact ⟨B, off, rfl, hi.lt, fun j hj => ⟨_, hi.cell j (by rw [hl]; exact hj), (hr j hj).row⟩⟩
theorem Lists.on {W W' : World} {base : Nat} {v : Value} {L : List (List Idn)} (h : Lists W base v L) (hb : Below W.heap.size W W') : Lists W' base v L := by
  obtain ⟨qs, hl, ho, hr⟩ := h.own
  exact ⟨qs, hl, Wd.Own.below ho hb, fun j hj => own_on (hr j hj) hb⟩
theorem Lists.snoc {w w' : World} {base : Nat} {v v' : Value} {L : List (List Idn)} {qs : List Slc} {q : Slc} {c : List Idn} (hl : qs.length = L.length) (ho : wdSl.Own 36 w base v qs) (hr : ∀ j, j < L.length → Owns w base (sliceOf (qs.getD j (none, 0, 0))) (L.getD j [])) (hc : Owns w base (sliceOf q) c)
    (h1 : wdSl.Own 36 w' base v' (qs ++ [q])) (hg : w.grownBy w' v.ownBlock) : Lists w' base v' (L ++ [c]) := by
  have keep : ∀ {u : Value} {d : List Idn}, Owns w base u d → Owns w' base u d := fun hu => World.ownsRow.kept hu hg (by
    rcases own_other hu ho with e | e
    · exact .inl e
    · exact .inr e.symm)
  refine ⟨qs ++ [q], by simp [hl], h1, fun j hj => ?_⟩
  rw [List.length_append, List.length_singleton] at hj
  by_cases hjl : j < L.length
  · have e1 : (qs ++ [q]).getD j (none, 0, 0) = qs.getD j (none, 0, 0) := by rw [List.getD_eq_getElem?_getD, List.getElem?_append_left (by omega), ← List.getD_eq_getElem?_getD]
    have e2 : (L ++ [c]).getD j [] = L.getD j [] := by rw [List.getD_eq_getElem?_getD, List.getElem?_append_left hjl, ← List.getD_eq_getElem?_getD]
    rw [e1, e2]; exact keep (hr j hjl)
  · obtain rfl : j = L.length := by omega
    have e1 : (qs ++ [q]).getD L.length (none, 0, 0) = q := by rw [← hl, List.getD_eq_getElem?_getD]; simp
    have e2 : (L ++ [c]).getD L.length [] = c := by rw [List.getD_eq_getElem?_getD]; simp
    rw [e1, e2]; exact keep hc
theorem Lists.void (W : World) : Lists (W.alloc (.cells #[] 36)) W.heap.size (.slice (some ⟨W.heap.size, 0, none⟩) 0 0) [] := ⟨[], rfl, Wd.Own.made _ W (Nat.le_refl _), fun j hj => absurd hj (Nat.not_lt_zero _)⟩
theorem closed_in {rs : List Rcd} {x : Idn} (h : x ∈ closedG rs) : x ∈ idsG rs := closed_mem.1 h x (.here x)
theorem closed_len (rs : List Rcd) : (closedG rs).length ≤ rs.length := by
  unfold closedG
  refine Nat.le_trans (srt_length _) (Nat.le_trans (List.length_filter_le _ _) ?_)
  unfold idsG; rw [List.length_map]; exact Nat.le_refl _
theorem allR_in {rs : List Rcd} {x : Idn} (h : x ∈ allR rs) : x ∈ idsG rs := (sortR_mem.1 h).2
theorem allR_nodup (rs : List Rcd) : (allR rs).Nodup := riseR_nodup (sortR_rise rs _)
theorem allR_len (rs : List Rcd) : (allR rs).length ≤ rs.length := by
  have h := nodup_lenI (allR_nodup rs) fun z hz => allR_in hz
  unfold idsG at h
  rw [List.length_map] at h; exact h
theorem ofL_len (rs : List Rcd) (all : List Idn) : ∀ k, (ofL rs all k).length ≤ k
  | 0 => Nat.le_refl _
  | k + 1 => by
    have h := ofL_len rs all k
    unfold ofL
    split
    · omega
    · rw [List.length_append, List.length_singleton]; omega
theorem ofL_yes {rs : List Rcd} {all : List Idn} {k : Nat} (h : 0 ≤ atL (ofL rs all k) (nth all k)) : ofL rs all (k + 1) = ofL rs all k := if_pos h
theorem ofL_no {rs : List Rcd} {all : List Idn} {k : Nat} (h : ¬ 0 ≤ atL (ofL rs all k) (nth all k)) : ofL rs all (k + 1) = ofL rs all k ++ [(all.drop k).filter fun y => mutG rs (nth all k) y] := if_neg h
theorem part_snoc {all : List Idn} {k t : Nat} (f : Idn → Bool) (hk : k ≤ t) (ht : t < all.length) : ((all.take (t + 1)).drop k).filter f = ((all.take t).drop k).filter f ++ (if f (nth all t) then [nth all t] else []) := by
  rw [take_nth ht, List.drop_append_of_le_length (by rw [List.length_take]; omega), List.filter_append]
  cases h : f (nth all t) <;> simp [h]
theorem part_none {all : List Idn} {k : Nat} (f : Idn → Bool) : ((all.take k).drop k).filter f = [] := by rw [List.drop_eq_nil_of_le (by rw [List.length_take]; omega)]; rfl
theorem part_all {all : List Idn} {k : Nat} (f : Idn → Bool) : ((all.take all.length).drop k).filter f = (all.drop k).filter f := by rw [List.take_of_length_le (Nat.le_refl _)]
theorem part_len {all : List Idn} {k t : Nat} (f : Idn → Bool) : (((all.take t).drop k).filter f).length ≤ all.length := Nat.le_trans (List.length_filter_le _ _) (by rw [List.length_drop, List.length_take]; omega)
end Go.Proofs.YtlkndpofegemdaaGreat.Cps
