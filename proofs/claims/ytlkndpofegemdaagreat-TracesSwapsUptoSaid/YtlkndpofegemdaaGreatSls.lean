/- Rows of the call's own whose elements are slices of ids (layers 16, 17): what they read as, cut at their end, beside rows of ids. Conditions: those in each statement. -/
import Derived.Test.YtlkndpofegemdaaGreatWid
import Derived.Test.YtlkndpofegemdaaGreatGraA
import Derived.Maps.AppendAt
import Derived.OwnWalkIn
namespace Go.Proofs.YtlkndpofegemdaaGreat.Cps
open Go.RowKit Cmd Bat Ids Rec Wid Gra
set_option linter.unusedVariables false
set_option linter.unusedSimpArgs false

abbrev Slc := Option Addr × Nat × Nat
def laySl : Lay Slc := ⟨(none, 0, 0), fun o j => o + j, fun w b o x => w.cell? ⟨b, o, none⟩ = some (sliceOf x), fun {w w' b o x} hb h h0 => (h.cell (p := ⟨b, o, none⟩) hb).trans h0⟩
theorem one_at {w : World} {b o : Nat} {x : Value} (h0 : w.cell? ⟨b, o, none⟩ = some x) : ∀ i u, [x][i]? = some u → w.cell? ⟨b, o + i, none⟩ = some u
  | 0, u, hu => by injection hu with hu; subst hu; exact h0
  | i + 1, u, hu => by simp at hu
def wdSl : Wd Slc where
  L := laySl
  enc x := [sliceOf x]
  c := 1
  cpos := by decide
  pos o j := by show o + j = _; omega
  len _ := rfl
  one x u hu := by rw [List.mem_singleton] at hu; subst hu; rfl
  lies h := h 0 _ rfl
  cells h := one_at h
theorem wtSl : Wt wdSl 23 36 (.slice none 0 0) 24 := ⟨Tryz.underlying23, by kernel_rfl, by kernel_rfl, by kernel_rfl, by decide⟩
theorem own_other {w : World} {base base' : Nat} {u v : Value} {c : List Idn} {qs : List Slc} (h : Owns w base u c) (k : wdSl.Own 36 w base' v qs) : u.ownBlock = none ∨ v.ownBlock ≠ u.ownBlock := by
  rcases h.2 with ⟨rfl, -⟩ | ⟨g, cap, cur, rfl, -, hg, -⟩
  · exact .inl rfl
  · rcases k.2 with ⟨rfl, -⟩ | ⟨g', cap', cur', rfl, -, hg', -⟩
    · exact .inr (by intro e; cases e)
    · refine .inr fun e => ?_
      injection e with e
      subst e
      rw [hg] at hg'
      injection hg' with e
      injection e with e1 e2
      exact absurd e2 (by decide)
theorem own_kept {w w' : World} {base base' : Nat} {u v : Value} {d : List Idn} {qs : List Slc} (hu : Owns w base u d) (ho : wdSl.Own 36 w base' v qs) (hg : w.grownBy w' v.ownBlock) : Owns w' base u d := World.ownsRow.kept hu hg (by
  rcases own_other hu ho with e | e
  · exact .inl e
  · exact .inr e.symm)
/-- The first ones of a row of the call's own are one. -/
theorem own_cut {e : TypeId} {w : World} {base : Nat} {p : Option Addr} {n cap : Nat} {qs : List Slc} (h : wdSl.Own e w base (.slice p n cap) qs) (k : Nat) (hk : k ≤ qs.length) : wdSl.Own e w base (.slice (cutw p cap) k cap) (qs.take k) := by
  have hl : (qs.take k).length = k := by rw [List.length_take]; omega
  have hf : ∀ l : List Slc, wdSl.flat l = l.map sliceOf := fun l => by
    induction l with
    | nil => rfl
    | cons x l ih => show [sliceOf x] ++ wdSl.flat l = _; rw [ih]; rfl
  unfold Wd.Own at h ⊢
  rw [hl]
  refine ⟨by rw [Wd.flat_len, hl], ?_⟩
  rcases h.2 with ⟨e1, h0⟩ | ⟨g, c', cur, e1, hb, hg, hn, hm, hs, ht⟩
  · injection e1 with e1 e2 e3
    subst e1; subst e3
    left
    exact ⟨by unfold cutw; rw [if_pos rfl]; congr; omega, by omega⟩
  · injection e1 with e1 e2 e3
    subst e1; subst e3
    refine .inr ⟨g, cap, cur, ?_, hb, hg, by omega, hm, hs, ?_⟩
    · unfold cutw; split
      · rfl
      · simp [Addr.add_lit]
    · have h1 : qs.length * wdSl.c = qs.length := Nat.mul_one _
      have h2 : k * wdSl.c = k := Nat.mul_one _
      rw [h1, hf] at ht
      rw [h2, hf, List.map_take, ← ht, List.take_take]
      congr 1; omega
/-- The block of a row of ids is none of a row of slices. -/
theorem own_apart2 {w : World} {base base' : Nat} {u v : Value} {c : List Idn} {qs : List Slc} (h : Owns w base u c) (k : wdSl.Own 36 w base' v qs) {g : Nat} (hu : u.ownBlock = some g) : v.ownBlock ≠ some g := fun e => by
  rcases own_other h k with h1 | h1
  · rw [h1] at hu; cases hu
  · exact h1 (e.trans hu.symm)
/-- An element of a row of slices. -/
theorem own_nth {w : World} {base : Nat} {p : Option Addr} {n cap : Nat} {qs : List Slc} (h : wdSl.Own 36 w base (.slice p n cap) qs) {k : Nat} (hk : k < qs.length) : ∃ g, p = some ⟨g, 0, none⟩ ∧ w.cell? ⟨g, 0 + k, none⟩ = some (sliceOf (qs.getD k (none, 0, 0))) := by
  obtain ⟨p', cap', e, -, -, h3⟩ := Wd.Own.row h
  injection e with e1 e2 e3
  subst e1
  obtain ⟨B, off, e4, hi⟩ := h3 (by rintro rfl; simp at hk)
  rcases h.2 with ⟨e1, h0⟩ | ⟨g, c', cur, e1, -⟩
  · omega
  · injection e1 with e1 _ _
    rw [e1] at e4
    injection e4 with e4
    injection e4 with e5 e6
    subst e5; subst e6
    exact ⟨g, e1, hi.cell k hk⟩
theorem infoSl : (Tryz.prog.info? 36).map (fun i => (i.zero, i.size, i.bytes)) = some (some (.slice none 0 0), 1, 24) := by kernel_rfl
theorem own_snoc1 {W : World} {base : Nat} {o : Value} {qs : List Slc} {p : Option Addr} {n c : Nat} (h : W.ownsRow base 36 1 o (qs.length + 1) (wdSl.flat qs ++ [.slice p n c])) : wdSl.Own 36 W base o (qs ++ [(p, n, c)]) := by
  have e : (qs ++ [((p, n, c) : Slc)]).length = qs.length + 1 := by simp
  unfold Wd.Own
  rw [e, Wd.flat_app]; exact h
/-- append of one element to a row of the call's own, in a fenced walk; where the new row lies is told. -/
theorem in_append {F : Fence} {nF : Nat} (w : World) {ops : Array Oper} {rest : List Oper} {o : Oper} {a : Act} {Q : Exit → Act → World → Prop} (hg : o.guard = none) (s x : Operand) (t : TypeId) (hop : o.op = Op.call { callee := Callee.builtin Builtin.append, args := #[s, x], argTypes := #[t, t] })
    (base : Nat) (e : TypeId) (i : TypeInfo) (z : Value) (size bytes : Nat) (h1 : Tryz.prog.underlying t = some (.slice e)) (h2 : Tryz.prog.info? e = some i) (h3 : i.zero = some z) (h4 : i.size = size) (h5 : i.bytes = bytes) (h6 : z.cells.size = size) (h7 : 0 < size)
    (v : Value) (k : Nat) (xs : List Value) (hs : a.eval s = v) (hown : w.ownsRow base e size v k xs) (eb : Nat) (cs : Array Value) (hx : a.eval x = .slice (some ⟨eb, 0, none⟩) 1 1) (he : w.heap[eb]? = some (.cells cs e (0, 0))) (hn : cs.size = size) (h1c : ∀ u ∈ cs.toList, u.oneCell' = true) (hk : k + 1 ≤ 1000000) (hby : bytes ≤ 100) (hb : base ≤ w.heap.size)
    (hK : ∀ v' w', w'.ownsRow base e size v' (k + 1) (xs ++ cs.toList) → w.grownBy w' v.ownBlock → (v'.ownBlock = v.ownBlock ∨ v'.ownBlock = some w.heap.size) → wpListIn F nF Tryz.prog ops Q rest (a.put o.dst v') w') : wpListIn F nF Tryz.prog ops Q (o :: rest) a w := by
  have hc : ∀ j u, cs.toList[j]? = some u → w.cell? ((⟨eb, 0, none⟩ : Addr).add j) = some u := fun j u hu => by
    rw [Bat.add_lit]
    unfold World.cell?
    rw [he]
    show cs[j]? = some u
    rw [← Array.getElem?_toList]; exact hu
  have hbt : (k + 1) * bytes ≤ 1000000 * 100 := Nat.mul_le_mul hk hby
  refine wpListIn_plain hg fun K hK' => ?_
  obtain ⟨v', w', hrun, r1, r2, -, r3⟩ := run_append_own_at (P := Tryz.prog) (w := w) base t o.type e i z size bytes h1 h2 h3 h4 h5 h6 h7 v k xs hown ⟨eb, 0, none⟩ 1 1 cs.toList (by rw [Array.length_toList, hn, Nat.one_mul]) hc h1c (by unfold maxLen; omega) (by omega) hb
  unfold Oper.wpIn
  refine ⟨?_, ?_⟩
  · simp [Oper.about, hop, resolve, Target.leads, Sem.run_pure]
  · rw [Oper.semAt_plain F _ _ (by rw [hop]; intro c hc'; cases hc')]
    simp [execOp, hop, resolve, invoke, builtin, hs, hx, hrun, Result.andThen]
    exact hK' _ _ (hK v' w' r1 r2 r3)
theorem own_is {w : World} {base : Nat} {v : Value} {c : List Idn} (h : Owns w base v c) : ∃ p n cap, v = .slice p n cap := by
  rcases h.2 with ⟨rfl, -⟩ | ⟨g, cap, cur, rfl, -⟩
  · exact ⟨none, 0, 0, rfl⟩
  · exact ⟨some ⟨g, 0, none⟩, c.length, cap, rfl⟩
end Go.Proofs.YtlkndpofegemdaaGreat.Cps
