/- Maps keyed by writers (layer 14, fold): a map of writers to true as the list of writers that were put in: made, asked, put into. Conditions: those in each statement. -/
import Derived.Test.YtdnabghhjlhjoaaVauC
import Derived.Maps.OwnSet
import Derived.Maps.RangeWalk
import Derived.DeepKeys4
namespace Go.Proofs.Ytdnabghhjlhjoaa.Fol
open Go.RowKit Cmd Bat Cel Wid Vau Go.Maps Go.WideElems Go.ChangeMaps
set_option linter.unusedVariables false

/-! ### Keys -/
abbrev wfN (n : Int) : Prop := -9223372036854775808 ≤ n ∧ n ≤ 9223372036854775807
theorem wf_n {n : Int} (h : wfN n) : (Lit.int .i64 n).wf = true := by
  simp [Lit.wf, IntKind.min, IntKind.max, IntKind.signed, IntKind.bits]
  exact h
def wfW (x : Wr) : Prop := wfN x.1.1 ∧ wfN x.1.2 ∧ wfN x.2
def wfA (x : Itm) : Prop := wfN x.1.1 ∧ wfN x.1.2
def wrv (x : Wr) : Value := .agg #[.int .i64 x.1.1, .int .i64 x.1.2, .int .i64 x.2]
def litW (x : Wr) : Lit := .string (keyBytes [.int .i64 x.1.1, .int .i64 x.1.2, .int .i64 x.2])
theorem wide_w : (match Try.prog.underlying 63 with | some (.array _ _) | some (.struct _) => true | _ => false) = true := by rw [Try.underlying63]
theorem law_w : Keyed Try.prog 63 :=
  Keyed.of_law (deep_law_laid (by kernel_rfl) (m := 4) (by omega) (of_decide_eq_true (by kernel_rfl)) (by kernel_rfl) wide_w)
theorem keyType_w : Try.prog.keyType 63 = true := by kernel_rfl
theorem cells_w : Try.prog.cellsOf 63 = 3 := by kernel_rfl
theorem cells_i : Try.prog.cellsOf 46 = 2 := by kernel_rfl
theorem cells_n : Try.prog.cellsOf 3 = 1 := by kernel_rfl
theorem size_types3 : ∃ n, Try.prog.types.size + 1 = n + 3 := ⟨Try.prog.types.size - 2, by have : 2 ≤ Try.prog.types.size := of_decide_eq_true (by kernel_rfl); omega⟩
theorem key_w {x : Wr} (h : wfW x) : keyOf Try.prog 63 (wrv x) = some (litW x) := by
  obtain ⟨n, hn⟩ := size_types3
  have w1 := wf_n h.1
  have w2 := wf_n h.2.1
  have w3 := wf_n h.2.2
  unfold keyOf
  rw [Try.underlying63, hn]
  simp [keyType_w, wrv, Value.formed, Try.underlying63, Try.underlying46, cells_w, cells_i, cells_n, Value.cells, Program.keyLits, Try.underlying3, w1, w2, w3, litW]
  rw [if_pos (by decide)]
  rfl
theorem litW_inj {x y : Wr} (hx : wfW x) (hy : wfW y) (h : litW x = litW y) : x = y := by
  have := law_w.inj (key_w hx) (h ▸ key_w hy)
  unfold wrv at this
  simp at this
  exact Prod.ext (Prod.ext this.1 this.2.1) this.2.2
theorem lit_w (x : Wr) : WideAt.IsKeyLit (litW x) := trivial

/-! ### The map -/
/-- The map holds true at just the writers of a list. -/
structure Puts (D : DataW Unit) (ws : List Wr) : Prop where
  wf : ∀ x ∈ ws, wfW x
  has : ∀ x, wfW x → Maps.has D (litW x) = decide (x ∈ ws)
  val : ∀ k, Maps.has D k = true → ∀ z, D.atKey k z = .lit (.bool true)
noncomputable abbrev boolE : Value → Option (DataW Unit × List MemPlace) := plainElem (H := Unit) Try.prog 4
theorem Puts.nil : Puts (.map []) [] := ⟨fun x h => (by cases h), fun x _ => rfl, fun k h => (by cases h)⟩
theorem Puts.put {D : DataW Unit} {ws : List Wr} (h : Puts D ws) (hT : Tidy D) {x : Wr} (hx : wfW x) : Puts (D.put (litW x) (.lit (.bool true))) (ws ++ [x]) := by
  refine ⟨fun y hy => ?_, fun y hy => ?_, fun k hk z => ?_⟩
  · rcases List.mem_append.1 hy with h1 | h1
    · exact h.wf y h1
    · rw [List.mem_singleton.1 h1]; exact hx
  · by_cases e : y = x
    · subst e
      rw [has_put_same hT.isMap (lit_w y)]
      exact (decide_eq_true (List.mem_append_right _ (List.mem_singleton.2 rfl))).symm
    · rw [has_put_other (fun e2 => e (litW_inj hy hx e2)), h.has y hy]
      rw [Bool.eq_iff_iff, decide_eq_true_eq, decide_eq_true_eq, List.mem_append, List.mem_singleton]
      exact ⟨.inl, fun h => h.resolve_right e⟩
  · by_cases e : k = litW x
    · subst e; exact atKey_put_same hT.isMap (lit_w x) _ z
    · rw [has_put_other e] at hk
      rw [atKey_put_other e]; exact h.val k hk z
/-- Block b is a map that holds true at just the writers of a list. -/
def MapW (w : World) (b N : Nat) (ws : List Wr) : Prop := ∃ D : DataW Unit, w.ownsMap Try.prog 63 boolE b N D ∧ Puts D ws
theorem MapW.made (w : World) : MapW (w.alloc (.map #[] 0)) w.heap.size 0 [] := ⟨.map [], World.ownsMap_made w _ _ _, Puts.nil⟩
theorem MapW.lt {w : World} {b N : Nat} {ws : List Wr} (h : MapW w b N ws) : b < w.heap.size := by obtain ⟨D, h, _⟩ := h; exact h.lt
theorem MapW.block {w w' : World} {b N : Nat} {ws : List Wr} (h : MapW w b N ws) (e : w'.heap[b]? = w.heap[b]?) : MapW w' b N ws := by
  obtain ⟨D, ⟨es, c, hb, r⟩, t⟩ := h
  exact ⟨D, ⟨es, c, e.trans hb, r⟩, t⟩
theorem und_mw : Try.prog.underlying 68 = some (.map 63 4) := Try.underlying68
theorem zero_b (w : World) : (zeroValue 4).run Try.prog w = .ok (.bool false) w := by kernel_rfl
theorem boolE_inv {v : Value} {z : DataW Unit × List MemPlace} (h : boolE v = some z) : ∃ x, v = .bool x ∧ z = (.lit (.bool x), []) := by
  unfold boolE plainElem at h
  rw [Try.underlying4] at h
  cases v <;> simp at h
  exact ⟨_, rfl, h.symm⟩
theorem MapW.look {w : World} {b N : Nat} {ws : List Wr} (h : MapW w b N ws) {x1 x2 x3 : Int} (hx : wfW ((x1, x2), x3)) : (Instr.lookup 68 (.map (some b)) (.agg #[.int .i64 x1, .int .i64 x2, .int .i64 x3]) false).run Try.prog w = .ok (.bool (decide (((x1, x2), x3) ∈ ws))) w := by
  obtain ⟨D, hD, t⟩ := h
  obtain ⟨v, ps, hrun, hv⟩ := hD.lookup law_w und_mw (zero_b w) (plainElem_bool Try.underlying4 false) (key_w hx)
  obtain ⟨y, rfl, e⟩ := boolE_inv hv
  unfold wrv at hrun
  rw [hrun]
  have hm := t.has _ hx
  cases hh : Maps.has D (litW ((x1, x2), x3)) with
  | true =>
    rw [t.val _ hh] at e
    rw [hh] at hm
    cases e
    rw [← hm]
  | false =>
    rw [atKey_of_not_has hh] at e
    rw [hh] at hm
    cases e
    rw [← hm]
theorem MapW.store {w : World} {b N : Nat} {ws : List Wr} (h : MapW w b N ws) {x1 x2 x3 : Int} (hx : wfW ((x1, x2), x3)) (hl : N < maxLen) : ∃ w', (Instr.mapUpdate 68 (.map (some b)) (.agg #[.int .i64 x1, .int .i64 x2, .int .i64 x3]) (.bool true)).run Try.prog w = .ok () w' ∧ MapW w' b (N + 1) (ws ++ [((x1, x2), x3)]) ∧ w.mapTurned w' b := by
  obtain ⟨D, hD, t⟩ := h
  obtain ⟨w', hrun, h1, h2⟩ := hD.store law_w und_mw hl (key_w hx) (plainElem_bool Try.underlying4 true)
  exact ⟨w', hrun, ⟨_, h1, t.put (hD.tidy law_w) hx⟩, h2⟩
theorem run_makeW (q : Int) (w : World) : (Instr.makeMap 68 (some (.int .i64 q))).run Try.prog w = .ok (.map (some w.heap.size)) (w.alloc (.map #[] 0)) := by
  simp [Instr.makeMap, run_underlying und_mw]; rfl

theorem box3 {W : World} {b : Nat} {x1 x2 : Int} {v : Value} {t : TypeId} (h : W.heap[b]? = some (.cells #[.int .i64 x1, .int .i64 x2, v] t (0, 0))) : W.cell? ⟨b, 0, none⟩ = some (.int .i64 x1) ∧ W.cell? ⟨b, 1, none⟩ = some (.int .i64 x2) ∧ W.cell? ⟨b, 2, none⟩ = some v := by
  refine ⟨?_, ?_, ?_⟩ <;> simp [World.cell?, h]

/-! ### Who may be a writer -/
theorem logB_wf (s : List UInt8) (id : Int × Int) (hi : wfN id.1 ∧ wfN id.2) : ∀ (cs : List Cmdn) (k : Nat), k + cs.length ≤ 1000 → ∀ e ∈ logB s id k cs, wfW e
  | [], _, _ => fun e h => by cases h
  | x :: cs, k, hk => fun e h => by
    rcases List.mem_append.1 (show e ∈ (if wrote s x then [(id, (k : Int))] else []) ++ logB s id (k + 1) cs from h) with h1 | h1
    · split at h1
      · rw [List.mem_singleton.1 h1]
        simp only [List.length_cons] at hk
        exact ⟨hi.1, hi.2, by show wfN (k : Int); exact ⟨by omega, by omega⟩⟩
      · cases h1
    · exact logB_wf s id hi cs (k + 1) (by simp only [List.length_cons] at hk; omega) e h1
theorem logOf_wf (s : List UInt8) : ∀ (xs : List Itm), (∀ x ∈ xs, wfA x ∧ x.2.length ≤ 1000) → ∀ e ∈ logOf xs s, wfW e
  | [], _ => fun e h => by cases h
  | x :: xs, hx => fun e h => by
    rcases List.mem_append.1 (show e ∈ logB s x.1 0 x.2 ++ logOf xs s from h) with h1 | h1
    · obtain ⟨h2, h3⟩ := hx x List.mem_cons_self
      exact logB_wf s x.1 h2 x.2 0 (by omega) e h1
    · exact logOf_wf s xs (fun y hy => hx y (List.mem_cons_of_mem _ hy)) e h1
end Go.Proofs.Ytdnabghhjlhjoaa.Fol
