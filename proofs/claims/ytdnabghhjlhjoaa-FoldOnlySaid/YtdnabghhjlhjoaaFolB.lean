/- What the statements' both and only of layer 14 (fold) give. Conditions: the items lie in memory as their cells say; numbers' words of 64 bits; texts of a length that Go reads; lists not longer than 1000. (Written by tools/gen_folb.py.) -/
import Derived.Test.YtdnabghhjlhjoaaFolA
import Derived.Test.YtdnabghhjlhjoaaVauE
import Derived.Test.YtdnabghhjlhjoaaBatD
namespace Go.Proofs.Ytdnabghhjlhjoaa.Fol
open Go.RowKit F64 Cmd Bat Cel Wid Vau
set_option linter.unusedVariables false
set_option linter.unusedSimpArgs false

/-! ### A row of the call's own grows by one -/
theorem grow_one {α : Type} {D : Wd α} {t e : TypeId} {z : Value} {bytes : Nat} (T : Wt D t e z bytes) (w : World) (ty : TypeId) (base : Nat) (v : Value) (zs : List α) (hv : D.Own e w base v zs) (hb : base ≤ w.heap.size) (ad : Addr) (x : α) (hu : D.L.Row w (.slice (some ad) 1 1) [x]) (hl : zs.length + 1 ≤ 1000000) :
    ∃ v' w', (Builtin.append_ #[t, t] ty #[v, .slice (some ad) 1 1]).run Try.prog w = .ok v' w' ∧ D.Own e w' base v' (zs ++ [x]) ∧ w.grownBy w' v.ownBlock ∧ (v'.ownBlock = v.ownBlock ∨ v'.ownBlock = some w.heap.size) := by
  obtain ⟨i0, hi, hz0, hz1, hz2⟩ := info_parts T.inf
  have hby : (zs.length + 1) * bytes ≤ 1000000 * 100 := Nat.mul_le_mul hl T.few
  obtain ⟨v', w', hr, r1, r2, -, r3⟩ := run_append_own_at (P := Try.prog) (w := w) base t ty e i0 _ D.c bytes T.und hi hz0 hz1 hz2 T.zc D.cpos v zs.length (D.flat zs) hv ad [x].length 1 (D.flat [x]) (D.flat_len [x]) (Wd.olds hu ad rfl) (D.flat_one [x]) (by unfold maxLen; simp only [List.length_singleton]; omega) (by simp only [List.length_singleton]; omega) hb
  refine ⟨v', w', hr, ?_, r2, r3⟩
  unfold Wd.Own; rw [List.length_append, D.flat_app]; exact r1
theorem push_step {α : Type} {D : Wd α} {t e : TypeId} {z : Value} {bytes : Nat} (T : Wt D t e z bytes) {ops : Array Oper} {o : Oper} {a : Act} {w : World} {K : Act → World → Prop} {Q : Exit → Act → World → Prop} {E : Prop}
    (hw : Region.wanted o (yielded ops a.tmps) = true) (s x : Operand) (ho : o.op = .call { callee := .builtin .append, args := #[s, x], argTypes := #[t, t] })
    (base : Nat) (v : Value) (zs : List α) (hs : a.eval s = v) (hv : D.Own e w base v zs) (hb : base ≤ w.heap.size) (ad : Addr) (y : α) (hx : a.eval x = .slice (some ad) 1 1) (hu : D.L.Row w (.slice (some ad) 1 1) [y]) (hl : zs.length + 1 ≤ 1000000)
    (hK : ∀ v' w', Hid (D.Own e w' base v' (zs ++ [y])) → Hid (w.grownBy w' v.ownBlock) → Hid (v'.ownBlock = v.ownBlock ∨ v'.ownBlock = some w.heap.size) → K (a.put o.dst v') w') : if Region.wanted o (yielded ops a.tmps) = true then Oper.wp Try.prog o a w K Q else E := by
  rw [if_pos hw]
  obtain ⟨v', w', hr, r1, r2, r3⟩ := grow_one T w o.type base v zs hv hb ad y hu hl
  have hr' : (Builtin.append_ #[t, t] o.type #[v, .slice (some ad) 1 1]).run Try.prog w = .ok v' w' := hr
  unfold Oper.wp
  simp [execOp, ho, resolve, invoke, builtin, hs, hx, hr', Result.andThen]
  exact hK v' w' (Lib.hid r1) (Lib.hid r2) (Lib.hid r3)
theorem push_wp {α : Type} {D : Wd α} {t e : TypeId} {z : Value} {bytes : Nat} (T : Wt D t e z bytes) {ops : Array Oper} {rest : List Oper} {o : Oper} {a : Act} {Q : Exit → Act → World → Prop} {w : World} (hgd : o.guard = none) (s x : Operand)
    (ho : o.op = .call { callee := .builtin .append, args := #[s, x], argTypes := #[t, t] }) (base : Nat) (v : Value) (zs : List α) (hs : a.eval s = v) (hv : D.Own e w base v zs) (hb : base ≤ w.heap.size)
    (ad : Addr) (y : α) (hx : a.eval x = .slice (some ad) 1 1) (hu : D.L.Row w (.slice (some ad) 1 1) [y]) (hl : zs.length + 1 ≤ 1000000)
    (hK : ∀ v' w', Hid (D.Own e w' base v' (zs ++ [y])) → Hid (w.grownBy w' v.ownBlock) → Hid (v'.ownBlock = v.ownBlock ∨ v'.ownBlock = some w.heap.size) → wpList Try.prog ops Q rest (a.put o.dst v') w') : wpList Try.prog ops Q (o :: rest) a w := by
  obtain ⟨v', w', hr, r1, r2, r3⟩ := grow_one T w o.type base v zs hv hb ad y hu hl
  have hr' : (Builtin.append_ #[t, t] o.type #[v, .slice (some ad) 1 1]).run Try.prog w = .ok v' w' := hr
  refine wpList_plain hgd fun K hK' => ?_
  unfold Oper.wp execOp
  simp only [ho, resolve, invoke, builtin, Sem.run_bind, Sem.run_pure, Result.andThen_ok, List.map_toArray, List.map_cons, List.map_nil, hs, hx]
  rw [hr']
  exact hK' _ _ (hK v' w' (Lib.hid r1) (Lib.hid r2) (Lib.hid r3))
theorem wtF : Wt wdQ 24 51 (.agg #[.int .i64 0, .int .i64 0, .slice none 0 0]) 40 := ⟨Try.underlying24, by kernel_rfl, by kernel_rfl, by kernel_rfl, by decide⟩

/-- Two rows of items of the call's own, apart; w2: the world in which their batches lie. -/
structure Two2 (w2 : World) (va vb : Value) (xa xb : List Itm) (W : World) : Prop where
  below : Below w2.heap.size w2 W
  a : ∃ qs, wdQ.Own 51 W w2.heap.size va qs ∧ Match w2 qs xa
  b : ∃ qs, wdQ.Own 52 W w2.heap.size vb qs ∧ Match w2 qs xb
  ap : ∀ k, va.ownBlock = some k → vb.ownBlock ≠ some k
section
variable {w2 W W1 W' : World} {va vb v' : Value} {xa xb : List Itm}
theorem own_far {e : TypeId} {base : Nat} {v : Value} {qs : List Qt} {row : Option Nat} (h : wdQ.Own e W base v qs) (hg : W.grownBy W' row) (hn : ∀ k, v.ownBlock = some k → some k ≠ row) : wdQ.Own e W' base v qs :=
  ⟨h.1, h.2.imp id fun ⟨g, cap, cur, h1, h2, h3, h4⟩ => ⟨g, cap, cur, h1, h2, (hg.block g (Array.getElem?_eq_some_iff.1 h3).1 (hn g (by rw [h1]; rfl))).trans h3, h4⟩⟩
theorem Two2.on (h : Two2 w2 va vb xa xb W) (hb : Below W.heap.size W W') : Two2 w2 va vb xa xb W' := by
  obtain ⟨qa, ha, ma⟩ := h.a
  obtain ⟨qb, hc, mb⟩ := h.b
  exact ⟨h.below.trans (hb.mono h.below.size), ⟨qa, ha.below hb, ma⟩, ⟨qb, hc.below hb, mb⟩, h.ap⟩
theorem Two2.rowA (h : Two2 w2 va vb xa xb W) : layT.Row W va xa := by
  obtain ⟨qa, ha, ma⟩ := h.a
  exact Match.back (Wd.Own.row ha) (ma.on h.below)
theorem Two2.rowB (h : Two2 w2 va vb xa xb W) : layT.Row W vb xb := by
  obtain ⟨qb, ha, mb⟩ := h.b
  exact Match.back (Wd.Own.row ha) (mb.on h.below)
theorem Two2.pushA {qa : List Qt} {q : Qt} {x : Itm} (h : Two2 w2 va vb xa xb W) (mm : Match w2 qa xa) (mx : Match w2 [q] [x]) (ha : wdQ.Own 51 W w2.heap.size va qa) (ho : wdQ.Own 51 W' w2.heap.size v' (qa ++ [q])) (hg : W.grownBy W' va.ownBlock) (hn : v'.ownBlock = va.ownBlock ∨ v'.ownBlock = some W.heap.size) : Two2 w2 v' vb (xa ++ [x]) xb W' := by
  obtain ⟨qb, hc, mb⟩ := h.b
  refine ⟨below_grown h.below (Nat.le_refl _) ha h.below.size hg, ⟨_, ho, mm.app mx⟩, ⟨qb, own_far hc hg fun k hk e => h.ap k e.symm hk, mb⟩, fun k hk hv => ?_⟩
  rcases hn with e | e
  · rw [e] at hk; exact h.ap k hk hv
  · rw [e] at hk; cases hk; exact absurd (World.ownsRow.lt hc _ hv).2 (Nat.lt_irrefl _)
theorem Two2.pushB {qb : List Qt} {q : Qt} {x : Itm} (h : Two2 w2 va vb xa xb W) (mm : Match w2 qb xb) (mx : Match w2 [q] [x]) (ha : wdQ.Own 52 W w2.heap.size vb qb) (ho : wdQ.Own 52 W' w2.heap.size v' (qb ++ [q])) (hg : W.grownBy W' vb.ownBlock) (hn : v'.ownBlock = vb.ownBlock ∨ v'.ownBlock = some W.heap.size) : Two2 w2 va v' xa (xb ++ [x]) W' := by
  obtain ⟨qa, hc, ma⟩ := h.a
  refine ⟨below_grown h.below (Nat.le_refl _) ha h.below.size hg, ⟨qa, own_far hc hg fun k hk e => h.ap k hk e.symm, ma⟩, ⟨_, ho, mm.app mx⟩, fun k hk hv => ?_⟩
  rcases hn with e | e
  · rw [e] at hv; exact h.ap k hk hv
  · rw [e] at hv; cases hv; exact absurd (World.ownsRow.lt hc _ hk).2 (Nat.lt_irrefl _)
end

/-! ### both -/
def GivesBoth (xs : List Itm) (w : World) (E : Ending) (w' : World) : Prop := ∃ va vb, E = .returned (.tuple #[va, vb]) ∧ Hid (Two2 w va vb xs (okOf xs) w')
set_option maxHeartbeats 16000000 in
set_option maxRecDepth 100000 in
theorem both_any (v : Value) (xs : List Itm) (w : World) (h : layT.Row w v xs) (hw : ∀ x ∈ xs, wfT x) (hl : xs.length ≤ 1000) : Calls Try.prog 7 #[v] w (GivesBoth xs w) := by
  obtain ⟨p, cap, rfl, h1, hd⟩ := h.parts
  obtain ⟨n, hn⟩ : ∃ n, n = xs.length := ⟨_, rfl⟩
  rw [← hn] at h1 hd hl
  have HN := Lib.hid hn
  have HWX := Lib.hid hw
  have KN := Lib.hid hl
  have HT : Hid (xs.take n = xs) := Lib.hid (by rw [hn, List.take_length])
  rw [← hn]
  have hb1 : Below w.heap.size w (w.alloc (.cells #[] 51)) := Cmd.below_one w _
  have hs1 : (w.alloc (.cells #[] 51)).heap.size = w.heap.size + 1 := by simp
  have hb2 := Cmd.below_one (w.alloc (.cells #[] 51)) (.cells #[] 52)
  have T0 : Hid (Two2 w (.slice (some ⟨w.heap.size, 0, none⟩) 0 0) (.slice (some ⟨w.heap.size + 1, 0, none⟩) 0 0) [] [] ((w.alloc (.cells #[] 51)).alloc (.cells #[] 52))) := Lib.hid ⟨hb1.trans (hb2.mono (by omega)), ⟨[], (Wd.Own.made (D := wdQ) 51 w (Nat.le_refl _)).below hb2, Match.nil w⟩, ⟨[], (by rw [← hs1]; exact Wd.Own.made (D := wdQ) 52 _ (by omega)), Match.nil w⟩, fun k hk hv => by
    have hk' : w.heap.size = k := Option.some.inj hk
    have hv' : w.heap.size + 1 = k := Option.some.inj hv
    omega⟩
  clear h hw hn hl hb1 hb2
  go_enter Try.func7, Try.ntmps7
  go_wp2_with fail
  try rw [hs1]
  generalize ((w.alloc (.cells #[] 51)).alloc (.cells #[] 52)) = W5 at T0 ⊢
  generalize (Value.slice (some ⟨w.heap.size + 1, 0, none⟩) 0 0) = vb0 at T0 ⊢
  generalize (Value.slice (some ⟨w.heap.size, 0, none⟩) 0 0) = va0 at T0 ⊢
  clear hs1
  go_loopw [4, 5, 6] (fun ra rb idx wr => ∃ (i : Nat), i ≤ n ∧ idx = .int .i64 i ∧ Hid (Two2 w ra rb (xs.take i) (okOf (xs.take i)) wr)) (fun _ _ idx _ => n - (intOf idx).toNat)
  case atStart => exact ⟨0, Nat.zero_le _, rfl, T0⟩
  case round =>
    obtain ⟨i, hi, rfl, HB⟩ := hrel
    have i00 : (0 : Int) ≤ i := by omega
    by_cases hin : i < n
    · have kin : (i : Int) < n := by omega
      obtain ⟨B, off, rfl, HC⟩ := hd.resolve_left (by omega)
      have hix : i < xs.length := by rw [← HN.out]; exact hin
      obtain ⟨x1, x2, cs, hx⟩ : ∃ a b cs, layT.at xs i = ((a, b), cs) := ⟨_, _, _, rfl⟩
      have HWC := HWX.out _ (layT.at_mem hix)
      rw [hx] at HWC
      obtain ⟨p', cap2, hp2, -, -, -⟩ := partT HC.out hix hx
      obtain ⟨m', hm'⟩ : ∃ m', m' = cs.length := ⟨_, rfl⟩
      rw [← hm'] at hp2
      have HS : Hid (∀ X, Below w.heap.size w X → X.cell? ⟨B, off + i * 3, none⟩ = some (.int .i64 x1) ∧ X.cell? ⟨B, off + i * 3 + 1, none⟩ = some (.int .i64 x2) ∧ X.cell? ⟨B, off + i * 3 + 2, none⟩ = some (.slice p' m' cap2)) := Lib.hid fun X hb => by
        obtain ⟨c0, c1, -⟩ := cellT (HC.out.on hb) hix hx
        exact ⟨c0, c1, (hb.cell (p := ⟨B, off + i * 3 + 2, none⟩) HC.out.lt).trans hp2⟩
      have HRC : Hid (∀ X, Below w.heap.size w X → layC.Row X (.slice p' m' cap2) cs) := Lib.hid fun X hb => by
        obtain ⟨-, -, v, e1, e2⟩ := cellT (HC.out.on hb) hix hx
        have e3 := (hb.cell (p := ⟨B, off + i * 3 + 2, none⟩) HC.out.lt).trans hp2
        rw [e1] at e3
        cases e3; exact e2
      have HMX : Hid (Match w [(((x1, x2), (p', m', cap2)) : Qt)] [((x1, x2), cs)]) := Lib.hid (Match.one (show layC.Row w (sl (p', m', cap2)) cs from HRC.out w (Below.refl _ _)))
      have HTK : Hid (xs.take (i + 1) = xs.take i ++ [((x1, x2), cs)]) := Lib.hid (by rw [layT.take hix, hx])
      have HLN : Hid ((xs.take i).length ≤ 1000) := Lib.hid (by rw [List.length_take]; have := KN.out; omega)
      have CK : Hid (∀ X, Below w.heap.size w X → Calls Try.prog 20 #[.slice p' m' cap2] X (RetBelow (.int .i64 (bErr cs)) X)) := Lib.hid fun X hb => refcheck_any _ cs X (HRC.out X hb) HWC
      have HB1 := Lib.hid (HB.out.on (Below.refl _ _).drew)
      obtain ⟨qa, hqa, hma⟩ := HB1.out.a
      have HQA := Lib.hid hqa
      have HMA := Lib.hid hma
      clear hix hx hp2 hm' HWC hd hqa hma
      go_wp2_with fail
      refine wp_region_held_drew (S := (fun w' => w'.cell? ⟨B, off + i * 3, none⟩ = some (.int .i64 x1) ∧ w'.cell? ⟨B, off + i * 3 + 1, none⟩ = some (.int .i64 x2) ∧ w'.cell? ⟨B, off + i * 3 + 2, none⟩ = some (.slice p' m' cap2))) (by kernel_rfl) (HS.out _ HB1.out.below) (fun hHeld => ?_)
      generalize wr.drew = W0 at HB1 HQA hHeld ⊢
      refine wpAnyH_take (i := 0) (v := ?_) rfl (by kernel_rfl) (by kernel_rfl) (by kernel_rfl) (fun _ _ _ h => h) (Or.inl ⟨by rfl, fun w hSw => ?_⟩) (by assumption) ?_
      rotate_left
      · (try dsimp only at hSw); go_simp; (try with_reducible rfl)
      try simp only [List.getElem_toArray, List.getElem_cons_succ, List.getElem_cons_zero, Act.put, List.setIfInBounds_toArray, List.set_cons_zero, List.set_cons_succ]
      refine wpAnyH_take (i := 1) (v := ?_) rfl (by kernel_rfl) (by kernel_rfl) (by kernel_rfl) (fun _ _ _ h => h) (Or.inl ⟨by rfl, fun w hSw => ?_⟩) (by assumption) ?_
      rotate_left
      · (try dsimp only at hSw); go_simp; (try with_reducible rfl)
      try simp only [List.getElem_toArray, List.getElem_cons_succ, List.getElem_cons_zero, Act.put, List.setIfInBounds_toArray, List.set_cons_zero, List.set_cons_succ]
      refine wpAnyH_take (i := 2) (v := ?_) rfl (by kernel_rfl) (by kernel_rfl) (by kernel_rfl) (fun _ _ _ h => h) (Or.inl ⟨by rfl, fun w hSw => ?_⟩) (by assumption) ?_
      rotate_left
      · (try dsimp only at hSw); go_simp; (try with_reducible rfl)
      try simp only [List.getElem_toArray, List.getElem_cons_succ, List.getElem_cons_zero, Act.put, List.setIfInBounds_toArray, List.set_cons_zero, List.set_cons_succ]
      refine wpAnyH_take (i := 3) (v := ?_) rfl (by kernel_rfl) (by kernel_rfl) (by kernel_rfl) (fun _ _ _ h => h) (Or.inl ⟨by rfl, fun w hSw => ?_⟩) (by assumption) ?_
      rotate_left
      · (try dsimp only at hSw); go_simp; (try with_reducible rfl)
      try simp only [List.getElem_toArray, List.getElem_cons_succ, List.getElem_cons_zero, Act.put, List.setIfInBounds_toArray, List.set_cons_zero, List.set_cons_succ]
      refine wpAnyH_take (i := 4) (v := ?_) rfl (by kernel_rfl) (by kernel_rfl) (by kernel_rfl) (fun _ _ _ h => h) (Or.inl ⟨by rfl, fun w hSw => ?_⟩) (by assumption) ?_
      rotate_left
      · (try dsimp only at hSw); go_simp; (try with_reducible rfl)
      try simp only [List.getElem_toArray, List.getElem_cons_succ, List.getElem_cons_zero, Act.put, List.setIfInBounds_toArray, List.set_cons_zero, List.set_cons_succ]
      refine wpAnyH_take (i := 5) (v := ?_) rfl (by kernel_rfl) (by kernel_rfl) (by kernel_rfl) (fun _ _ _ h => h) (Or.inl ⟨by rfl, fun w hSw => ?_⟩) (by assumption) ?_
      rotate_left
      · (try dsimp only at hSw); go_simp; (try with_reducible rfl)
      try simp only [List.getElem_toArray, List.getElem_cons_succ, List.getElem_cons_zero, Act.put, List.setIfInBounds_toArray, List.set_cons_zero, List.set_cons_succ]
      refine wpAnyH_take (i := 6) (v := ?_) rfl (by kernel_rfl) (by kernel_rfl) (by kernel_rfl) (fun _ _ _ h => h) (Or.inl ⟨by rfl, fun w hSw => ?_⟩) (by assumption) ?_
      rotate_left
      · (try dsimp only at hSw); go_simp; (try with_reducible rfl)
      try simp only [List.getElem_toArray, List.getElem_cons_succ, List.getElem_cons_zero, Act.put, List.setIfInBounds_toArray, List.set_cons_zero, List.set_cons_succ]
      refine wpAnyH_take (i := 7) (v := ?_) rfl (by kernel_rfl) (by kernel_rfl) (by kernel_rfl) (fun _ _ _ h => h) (Or.inl ⟨by rfl, fun w hSw => ?_⟩) (by assumption) ?_
      rotate_left
      · (try dsimp only at hSw); go_simp; (try with_reducible rfl)
      try simp only [List.getElem_toArray, List.getElem_cons_succ, List.getElem_cons_zero, Act.put, List.setIfInBounds_toArray, List.set_cons_zero, List.set_cons_succ]
      refine wpAnyH_take (i := 8) (v := ?_) rfl (by kernel_rfl) (by kernel_rfl) (by kernel_rfl) (fun _ _ _ h => h) (Or.inl ⟨by rfl, fun w hSw => ?_⟩) (by assumption) ?_
      rotate_left
      · (try dsimp only at hSw); go_simp; (try with_reducible rfl)
      try simp only [List.getElem_toArray, List.getElem_cons_succ, List.getElem_cons_zero, Act.put, List.setIfInBounds_toArray, List.set_cons_zero, List.set_cons_succ]
      refine wpAnyH_take (i := 9) (v := ?_) rfl (by kernel_rfl) (by kernel_rfl) (by kernel_rfl) (fun _ _ _ h => h) (Or.inl ⟨by rfl, fun w hSw => ?_⟩) (by assumption) ?_
      rotate_left
      · (try dsimp only at hSw); go_simp; (try with_reducible rfl)
      try simp only [List.getElem_toArray, List.getElem_cons_succ, List.getElem_cons_zero, Act.put, List.setIfInBounds_toArray, List.set_cons_zero, List.set_cons_succ]
      refine wpAnyH_take (i := 10) (v := ?_) rfl (by kernel_rfl) (by kernel_rfl) (by kernel_rfl) (fun _ _ _ h => h) (Or.inl ⟨by rfl, fun w hSw => ?_⟩) (by assumption) ?_
      rotate_left
      · (try dsimp only at hSw); go_simp; (try with_reducible rfl)
      try simp only [List.getElem_toArray, List.getElem_cons_succ, List.getElem_cons_zero, Act.put, List.setIfInBounds_toArray, List.set_cons_zero, List.set_cons_succ]
      refine wpAnyH_take (i := 11) (v := ?_) rfl (by kernel_rfl) (by kernel_rfl) (by kernel_rfl) (fun _ _ _ h => h) (Or.inl ⟨by rfl, fun w hSw => ?_⟩) (by assumption) ?_
      rotate_left
      · (try dsimp only at hSw); go_simp; (try with_reducible rfl)
      try simp only [List.getElem_toArray, List.getElem_cons_succ, List.getElem_cons_zero, Act.put, List.setIfInBounds_toArray, List.set_cons_zero, List.set_cons_succ]
      refine wpAnyH_ready (rs := [12]) (by kernel_rfl) (by simp) ?_
      refine AllReadyH.cons rfl (fun K hK => ?_) ?_
      rotate_left
      · exact AllReadyH.nil
      go_simp
      have HM1 := Lib.hid (Cmd.below_one W0 (.cells #[.int .i64 x1, .int .i64 x2, .slice p' m' cap2] 51)); have HE1 := Lib.hid (heap_alloc_new W0 (.cells #[.int .i64 x1, .int .i64 x2, .slice p' m' cap2] 51)); have HB2 := Lib.hid (HB1.out.on HM1.out); have HQ2 := Lib.hid (Wd.Own.below HQA.out HM1.out)
      refine hK.out _ _ ?_ (fun hHeld => ?_)
      · exact HS.out _ HB2.out.below
      clear hK K
      try simp only [List.getElem_toArray, List.getElem_cons_succ, List.getElem_cons_zero, Act.put, List.setIfInBounds_toArray, List.set_cons_zero, List.set_cons_succ]
      refine wpAnyH_ready (rs := [13]) (by kernel_rfl) (by simp) ?_
      refine AllReadyH.cons rfl (fun K hK => ?_) ?_
      rotate_left
      · exact AllReadyH.nil
      refine push_step wtF (by rfl) (.tmp 15) (.tmp 27) (by rfl) w.heap.size _ _ (by rfl) HQ2.out HB2.out.below.size _ ((x1, x2), (p', m', cap2)) (by rfl) (lone_at (D := wdQ) HE1.out rfl) (by have := HLN.out; have := HMA.out.len; omega) (fun v4 W2 o1 o2 o3 => ?_); have HB3 := Lib.hid (HB2.out.pushA HMA.out HMX.out HQ2.out o1.out o2.out o3.out)
      refine hK.out _ _ ?_ (fun hHeld => ?_)
      · exact HS.out _ HB3.out.below
      clear hK K
      try simp only [List.getElem_toArray, List.getElem_cons_succ, List.getElem_cons_zero, Act.put, List.setIfInBounds_toArray, List.set_cons_zero, List.set_cons_succ]
      refine wpAnyH_take (i := 14) (v := ?_) rfl (by kernel_rfl) (by kernel_rfl) (by kernel_rfl) (fun _ _ _ h => h) (Or.inl ⟨by rfl, fun w hSw => ?_⟩) (by assumption) ?_
      rotate_left
      · (try dsimp only at hSw); go_simp; (try with_reducible rfl)
      try simp only [List.getElem_toArray, List.getElem_cons_succ, List.getElem_cons_zero, Act.put, List.setIfInBounds_toArray, List.set_cons_zero, List.set_cons_succ]
      refine wpAnyH_done (by kernel_rfl) ?_ _
      obtain ⟨c0, c1, c2⟩ := HS.out _ HB3.out.below
      have CK3 := Lib.hid (CK.out _ HB3.out.below)
      by_cases he : bErr cs = 0
      · have HOK : Hid (okOf (xs.take (i + 1)) = okOf (xs.take i) ++ [((x1, x2), cs)]) := Lib.hid (by rw [HTK.out]; exact okOf_snoc_ok he)
        have HE := Lib.hid he
        clear he
        go_upto_region 7 with (first
          | (go_at_call 20; ((with_reducible refine CK3.out.mono ?_); rintro E w3 ⟨rfl, hb⟩; rw [HE.out]; have HB4 := Lib.hid (HB3.out.on hb); clear hb)))
        have hb5 := Lib.hid (Cmd.below_one w3 (.cells #[.int .i64 x1, .int .i64 x2, .slice p' m' cap2] 52))
        obtain ⟨qb, hqb, hmb⟩ := HB4.out.b
        have HMB := Lib.hid hmb
        have HQ5 := Lib.hid (Wd.Own.below hqb hb5.out)
        have HB5 := Lib.hid (HB4.out.on hb5.out)
        have HLO := Lib.hid (lone_at (D := wdQ) (x := ((x1, x2), (p', m', cap2))) (heap_alloc_new w3 (.cells #[.int .i64 x1, .int .i64 x2, .slice p' m' cap2] 52)) rfl)
        have HLB : Hid (qb.length + 1 ≤ 1000000) := Lib.hid (by have := HLN.out; have := hmb.len; have := okOf_len (xs.take i); omega)
        obtain ⟨s0, s1, s2⟩ := HS.out _ HB4.out.below
        clear hqb hmb
        go_wp2_with (first
          | (at_builtin; refine push_wp wtQ rfl _ _ rfl w.heap.size _ _ rfl HQ5.out HB5.out.below.size ⟨w3.heap.size, 0, none⟩ ((x1, x2), (p', m', cap2)) rfl HLO.out HLB.out ?_; intro v5 w5 HO5 HG5 HN5; have HB6 := Lib.hid (HB5.out.pushB HMB.out HMX.out HQ5.out HO5.out HG5.out HN5.out)))
        rw [← HTK.out, ← HOK.out] at HB6
        go_roundw
        case rel => exact ⟨i + 1, by omega, by go_num, HB6⟩
        case measure => simp [intOf]; omega
      · have HOK : Hid (okOf (xs.take (i + 1)) = okOf (xs.take i)) := Lib.hid (by rw [HTK.out]; exact okOf_snoc_no he)
        obtain ⟨ee, hee⟩ : ∃ ee, ee = bErr cs := ⟨_, rfl⟩
        have hq0 : (ee == (0 : Int)) = false := beq_eq_false_iff_ne.2 (by omega)
        rw [← hee] at CK3
        clear he hee
        go_wp2_with (first
          | (go_at_call 20; ((with_reducible refine CK3.out.mono ?_); rintro E w3 ⟨rfl, hb⟩; have HB4 := Lib.hid (HB3.out.on hb); clear hb)))
        rw [← HTK.out, ← HOK.out] at HB4
        go_roundw
        case rel => exact ⟨i + 1, by omega, by go_num, HB4⟩
        case measure => simp [intOf]; omega
    · obtain rfl : i = n := by omega
      have kin : ¬ (i : Int) < i := by omega
      rw [HT.out] at HB
      clear hd
      go_wp2_with fail
      go_ret2
      exact ⟨_, _, rfl, HB⟩
end Go.Proofs.Ytdnabghhjlhjoaa.Fol
