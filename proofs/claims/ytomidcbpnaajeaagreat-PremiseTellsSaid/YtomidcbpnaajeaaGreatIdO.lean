/- append of any list of ids to an empty slice of the call's own. Conditions: the list lies in memory as its cells say, and is not longer than 100000. -/
import Derived.Test.YtomidcbpnaajeaaGreatIdA
import Derived.Laws.AppendOwnNone
import Derived.Lib.AppendIntMem
namespace Go.Proofs.YtomidcbpnaajeaaGreat.Ids
open Go.RowKit Go.Lib
set_option linter.unusedVariables false

theorem RowAt.cells {w : World} {v : Value} {zs : List Idn} (h : RowAt w v zs) (hz : zs ≠ []) : ∃ ad cap, v = .slice (some ad) zs.length cap ∧ (flat zs).length = zs.length * 2 ∧ (∀ j u, (flat zs)[j]? = some u → w.cell? (ad.add j) = some u) := by
  obtain ⟨p, cap, rfl, h1, h2, -, h3⟩ := h
  obtain ⟨B, off, rfl, hlt, hc⟩ := h3 hz
  refine ⟨_, cap, rfl, flat_len zs, fun j u hu => ?_⟩
  have hj : j / 2 < zs.length := by
    have := (List.getElem?_eq_some_iff.1 hu).1
    rw [flat_len] at this; omega
  have h4 := hc _ hj
  have h5 := flat_at zs _ hj
  have ha : ((⟨B, off, none⟩ : Addr).add j) = ⟨B, off + j, none⟩ := Addr.add_lit _ _ _
  rw [ha]
  rcases Nat.mod_two_eq_zero_or_one j with h2 | h2
  · have e : j / 2 * 2 = j := by omega
    rw [e] at h4 h5
    rw [h5.1] at hu
    rw [h4.1, ← hu]
  · have e : j / 2 * 2 + 1 = j := by omega
    rw [Nat.add_assoc, e] at h4
    rw [e] at h5
    rw [h5.2] at hu
    rw [h4.2, ← hu]
theorem flat_one (zs : List Idn) : ∀ u ∈ flat zs, u.oneCell' = true := fun u hu => by
  unfold flat at hu
  rw [List.mem_flatMap] at hu
  obtain ⟨x, _, hx⟩ := hu
  simp [ids] at hx
  rcases hx with rfl | rfl <;> rfl
/-- append of a list of ids to an empty slice of the call's own. -/
theorem wpList_append_ids {w : World} {ops : Array Oper} {rest : List Oper} {o : Oper} {a : Act} {Q : Exit → Act → World → Prop} (hgd : o.guard = none) (s x : Operand)
    (ho : o.op = .call { callee := .builtin .append, args := #[s, x], argTypes := #[23, 23] }) (base : Nat) (v0 v : Value) (zs : List Idn) (hs : a.eval s = v0) (hown : w.ownsRow base 32 2 v0 0 []) (hx : a.eval x = v) (hrow : RowAt w v zs) (hl : zs.length ≤ 100000) (hbase : base ≤ w.heap.size)
    (h : ∀ v' w', Owns w' base v' zs → w.grownBy w' v0.ownBlock → wpList Tryz.prog ops Q rest (a.put o.dst v') w') : wpList Tryz.prog ops Q (o :: rest) a w := by
  obtain ⟨i0, hi, hz0, hz1, hz2⟩ := info_parts info_id
  by_cases hz : zs = []
  · subst hz
    obtain ⟨p, cap, rfl, h1, h2, h0, h3⟩ := hrow
    cases p with
    | none =>
      have hc := h0 rfl
      subst hc
      exact wpList_append_own_none hgd s x 23 ho base 32 i0 2 Tryz.underlying23 hi v0 0 [] hs hown hx (h v0 w hown ⟨rfl, rfl, rfl, Nat.le_refl _, fun _ _ _ => rfl⟩)
    | some ad =>
      exact wpList_append_own w hgd s x 23 ho base 32 i0 (.agg #[.int .i64 0, .int .i64 0]) 2 16 Tryz.underlying23 hi hz0 hz1 hz2 rfl (by decide) v0 0 [] hs hown ad 0 cap [] hx rfl (fun j u hu => by simp at hu) (fun u hu => by simp at hu) (by unfold maxLen; omega) (by omega) hbase fun v' w' h1 h2 _ => h v' w' h1 h2
  · obtain ⟨ad, cap, rfl, hf, hn⟩ := hrow.cells hz
    refine wpList_append_own w hgd s x 23 ho base 32 i0 (.agg #[.int .i64 0, .int .i64 0]) 2 16 Tryz.underlying23 hi hz0 hz1 hz2 rfl (by decide) v0 0 [] hs hown ad zs.length cap (flat zs) hx hf hn (flat_one zs) (by unfold maxLen; omega) (by omega) hbase fun v' w' h1 h2 _ => h v' w' ?_ h2
    rw [Nat.zero_add, List.nil_append] at h1
    exact h1
end Go.Proofs.YtomidcbpnaajeaaGreat.Ids
