/- What the walks of VaultSame and VaultApplies have in memory: two vaults, and rows of items beside them; append of one element to a row (layer 13, vault). Conditions: those in each statement. -/
import Derived.Test.YtacgmhnalbbgbaaVauW
namespace Go.Proofs.Ytacgmhnalbbgbaa.Vau
open Go.RowKit F64 Cmd Bat Cel Wid Go.Maps Go.WideElems Go.ChangeMaps Go.Sort
set_option linter.unusedVariables false
set_option linter.unusedSimpArgs false

theorem wp_push {α : Type} {D : Wd α} {t e : TypeId} {z : Value} {bytes : Nat} (T : Wt D t e z bytes) {ops : Array Oper} {rest : List Oper} {o : Oper} {a : Act} {Q : Exit → Act → World → Prop} {w : World} (hgd : o.guard = none) (s x : Operand)
    (ho : o.op = .call { callee := .builtin .append, args := #[s, x], argTypes := #[t, t] }) (base : Nat) (v : Value) (zs : List α) (hs : a.eval s = v) (hv : D.Own e w base v zs) (hb : base ≤ w.heap.size)
    (ad : Addr) (y : α) (hx : a.eval x = .slice (some ad) 1 1) (hu : D.L.Row w (.slice (some ad) 1 1) [y]) (hl : zs.length + 1 ≤ 1000000)
    (hK : ∀ v' w', Hid (D.Own e w' base v' (zs ++ [y])) → Hid (w.grownBy w' v.ownBlock) → Hid (v'.ownBlock = v.ownBlock ∨ v'.ownBlock = some w.heap.size) → wpList Try.prog ops Q rest (a.put o.dst v') w') : wpList Try.prog ops Q (o :: rest) a w := by
  obtain ⟨v', w', hr, r1, r2, r3⟩ := run_wide_at T w o.type base v zs hv hb ad 1 [y] hu hl
  have hr' : (Builtin.append_ #[t, t] o.type #[v, .slice (some ad) 1 1]).run Try.prog w = .ok v' w' := hr
  refine wpList_plain hgd fun K hK' => ?_
  unfold Oper.wp execOp
  simp only [ho, resolve, invoke, builtin, Sem.run_bind, Sem.run_pure, Result.andThen_ok, List.map_toArray, List.map_cons, List.map_nil, hs, hx]
  rw [hr']
  exact hK' _ _ (hK v' w' (Lib.hid r1) (Lib.hid r2) (Lib.hid r3))

/-- A row of items of the call's own, beside two vaults. -/
structure Rw (base : Nat) (w2 : World) (G1 G2 : Nat → Prop) (v : Value) (qs : List Qt) (xs : List Itm) (W : World) : Prop where
  own : wdQ.Own 30 W base v qs
  m : Match w2 qs xs
  no1 : ∀ k, v.ownBlock = some k → ¬ G1 k
  no2 : ∀ k, v.ownBlock = some k → ¬ G2 k
theorem ownQ_block {W W' : World} {base : Nat} {v : Value} {qs : List Qt} (h : wdQ.Own 30 W base v qs) (hb : ∀ k, v.ownBlock = some k → W'.heap[k]? = W.heap[k]?) : wdQ.Own 30 W' base v qs :=
  ⟨h.1, h.2.imp id fun ⟨g, cap, cur, h1, h2, h3, h4⟩ => ⟨g, cap, cur, h1, h2, (hb g (by rw [h1]; rfl)).trans h3, h4⟩⟩
section
variable {base : Nat} {w2 : World} {G1 G2 G R : Nat → Prop} {g1 g2 : Nat} {C1 C2 C' : Key → Cell2} {L1 L2 L' : Key → List Wr} {N1 N2 N' : Nat} {c1 c2 c' : Int} {W W' W1 : World} {v v' u : Value} {qs ps : List Qt} {xs ys : List Itm}
theorem Rw.lt (h : Rw base w2 G1 G2 v qs xs W) : ∀ k, v.ownBlock = some k → base ≤ k ∧ k < W.heap.size := fun k hk => World.ownsRow.lt h.own k hk
theorem Rw.app1 (h : Rw base w2 G1 G2 v qs xs W) (ho : Only G1 W W') (hG : ∀ j, G j → G1 j ∨ W.heap.size ≤ j) : Rw base w2 G G2 v qs xs W' :=
  ⟨ownQ_block h.own (fun k hk => ho.block k (h.lt k hk).2 (h.no1 k hk)), h.m, fun k hk hg => (hG k hg).elim (h.no1 k hk) (fun e => by have := (h.lt k hk).2; omega), h.no2⟩
theorem Rw.app2 (h : Rw base w2 G1 G2 v qs xs W) (ho : Only G2 W W') (hG : ∀ j, G j → G2 j ∨ W.heap.size ≤ j) : Rw base w2 G1 G v qs xs W' :=
  ⟨ownQ_block h.own (fun k hk => ho.block k (h.lt k hk).2 (h.no2 k hk)), h.m, h.no1, fun k hk hg => (hG k hg).elim (h.no2 k hk) (fun e => by have := (h.lt k hk).2; omega)⟩
theorem Rw.on (h : Rw base w2 G1 G2 v qs xs W) (hb : Below W.heap.size W W') : Rw base w2 G1 G2 v qs xs W' := ⟨Wd.Own.below h.own hb, h.m, h.no1, h.no2⟩
theorem Rw.far (h : Rw base w2 G1 G2 v qs xs W) (ho : Only R W W') (hR : ∀ k, v.ownBlock = some k → ¬ R k) : Rw base w2 G1 G2 v qs xs W' :=
  ⟨ownQ_block h.own (fun k hk => ho.block k (h.lt k hk).2 (hR k hk)), h.m, h.no1, h.no2⟩
theorem Rw.swap (h : Rw base w2 G1 G2 v qs xs W) : Rw base w2 G2 G1 v qs xs W := ⟨h.own, h.m, h.no2, h.no1⟩
theorem Rw.row (h : Rw base w2 G1 G2 v qs xs W) (hb : Below w2.heap.size w2 W) : layT.Row W v xs := Match.back (Wd.Own.row h.own) (h.m.on hb)
theorem Bt.swap (h : Bt base w2 G1 G2 g1 g2 C1 C2 L1 L2 N1 N2 c1 c2 W) : Bt base w2 G2 G1 g2 g1 C2 C1 L2 L1 N2 N1 c2 c1 W := ⟨h.v2, h.v1, fun j h2 h1 => h.dis j h1 h2, h.below, h.size⟩
theorem Bt.far (h : Bt base w2 G1 G2 g1 g2 C1 C2 L1 L2 N1 N2 c1 c2 W) (ho : Only R W W') (hR1 : ∀ j, R j → ¬ G1 j) (hR2 : ∀ j, R j → ¬ G2 j) (hRb : ∀ j, R j → base ≤ j) : Bt base w2 G1 G2 g1 g2 C1 C2 L1 L2 N1 N2 c1 c2 W' :=
  ⟨h.v1.far ho (fun j hj hr => hR1 j hr hj), h.v2.far ho (fun j hj hr => hR2 j hr hj), h.dis, h.below.trans (ho.low h.size hRb), Nat.le_trans h.size ho.below.size⟩
/-- An item is put behind a row. -/
theorem Rw.push (h : Rw base w2 G1 G2 v qs xs W) (hB : Bt base w2 G1 G2 g1 g2 C1 C2 L1 L2 N1 N2 c1 c2 W) (hb : Below W.heap.size W W1) {q : Option Addr × Nat × Nat} {a b : Int} {cs : List Cmdn} (hq : layC.Row w2 (sl q) cs) (ho : wdQ.Own 30 W' base v' (qs ++ [((a, b), q)])) (hg : W1.grownBy W' v.ownBlock) (hn : v'.ownBlock = v.ownBlock ∨ v'.ownBlock = some W1.heap.size) :
    Rw base w2 G1 G2 v' (qs ++ [((a, b), q)]) (xs ++ [((a, b), cs)]) W' ∧ Bt base w2 G1 G2 g1 g2 C1 C2 L1 L2 N1 N2 c1 c2 W' ∧ Only (fun k => v.ownBlock = some k) W W' := by
  have hsz := hb.size
  have hO : Only (fun k => v.ownBlock = some k) W W' := (Only.of _ hb).trans (Only.row hg (fun k hk => hk)) (fun k hk => .inl hk)
  refine ⟨⟨ho, h.m.app (Match.one hq), fun k hk hg1 => ?_, fun k hk hg2 => ?_⟩, hB.far hO (fun j hj => h.no1 j hj) (fun j hj => h.no2 j hj) (fun j hj => (h.lt j hj).1), hO⟩
  · rcases hn with e | e
    · rw [e] at hk; exact h.no1 k hk hg1
    · rw [e] at hk; cases hk; have := (hB.v1.foot _ hg1).2; omega
  · rcases hn with e | e
    · rw [e] at hk; exact h.no2 k hk hg2
    · rw [e] at hk; cases hk; have := (hB.v2.foot _ hg2).2; omega
/-- Rows that lie apart. -/
def Ap2 (v u : Value) : Prop := ∀ k, v.ownBlock = some k → u.ownBlock ≠ some k
theorem Ap2.swap (h : Ap2 v u) : Ap2 u v := fun k hk hv => h k hv hk
theorem Rw.other (h : Rw base w2 G1 G2 u ps ys W) (ha : Ap2 v u) (ho : Only (fun k => v.ownBlock = some k) W W') : Rw base w2 G1 G2 u ps ys W' := h.far ho (fun k hk hv => ha k hv hk)
theorem Ap2.push (h : Rw base w2 G1 G2 u ps ys W) (ha : Ap2 v u) (hb : Below W.heap.size W W1) (hn : v'.ownBlock = v.ownBlock ∨ v'.ownBlock = some W1.heap.size) : Ap2 v' u := fun k hk hu => by
  rcases hn with e | e
  · rw [e] at hk; exact ha k hk hu
  · rw [e] at hk; cases hk; have := (h.lt _ hu).2; have := hb.size; omega
end
end Go.Proofs.Ytacgmhnalbbgbaa.Vau

/- The statement's function of layer 13 (vault) on two rows of items: it returns true. Conditions: the items lie in memory as their cells say; numbers' words of 64 bits; texts of a length that Go reads. (Written by tools/gen_vauy.py.) -/
namespace Go.Proofs.Ytacgmhnalbbgbaa.Vau
open Go.RowKit F64 Cmd Bat Cel Wid Go.Maps Go.WideElems Go.ChangeMaps Go.Sort
set_option linter.unusedVariables false
set_option linter.unusedSimpArgs false

/-! ### Plain -/
theorem st_ok {xs : List Itm} {id : Int × Int} {cs : List Cmdn} (h : bErr cs = 0) : stC (cellOf xs) cs = cellOf (xs ++ [(id, cs)]) ∧ stL (logOf xs) id cs = logOf (xs ++ [(id, cs)]) := by
  unfold stC stL
  rw [if_pos h, if_pos h]
  exact ⟨kC_cellOf xs (id, cs), kL_logOf xs (id, cs)⟩
theorem st_no {C : Key → Cell2} {L : Key → List Wr} {id : Int × Int} {cs : List Cmdn} (h : bErr cs ≠ 0) : stC C cs = C ∧ stL L id cs = L := by
  unfold stC stL
  rw [if_neg h, if_neg h]
  exact ⟨rfl, rfl⟩
def goodS (xs ys : List Itm) (s : Key) : Bool := sameC (cellOf xs s) (cellOf ys s) && decide (logOf xs s = logOf ys s)
theorem cmdsOf_app' (xs ys : List Itm) : cmdsOf (xs ++ ys) = cmdsOf xs ++ cmdsOf ys := by unfold cmdsOf; rw [List.flatMap_append]
theorem same_all (xs ys : List Itm) : (eqC (cellOf xs) (cellOf ys) && eqL (logOf xs) (logOf ys)) = (allOf (xs ++ ys)).all (goodS xs ys) := by
  rw [Bool.eq_iff_iff, List.all_eq_true, Bool.and_eq_true]
  constructor
  · rintro ⟨h1, h2⟩ s _
    unfold eqC at h1
    unfold eqL at h2
    have g1 := @of_decide_eq_true _ (Classical.propDecidable _) h1
    have g2 := @of_decide_eq_true _ (Classical.propDecidable _) h2
    unfold goodS
    rw [g1 s, decide_eq_true (g2 s)]; rfl
  · intro h
    have key : ∀ s, sameC (cellOf xs s) (cellOf ys s) = true ∧ logOf xs s = logOf ys s := fun s => by
      by_cases hs : s ∈ keys (cmdsOf (xs ++ ys))
      · have := h s (by unfold allOf; rw [kset_mem]; exact hs)
        unfold goodS at this
        rw [Bool.and_eq_true] at this
        exact ⟨this.1, of_decide_eq_true this.2⟩
      · rw [cmdsOf_app', keys_app, List.mem_append, not_or] at hs
        rw [cellOf_none hs.1, cellOf_none hs.2, logOf_none hs.1, logOf_none hs.2]
        exact ⟨by decide, rfl⟩
    exact ⟨eqC_true fun s => (key s).1, eqL_true fun s => (key s).2⟩
theorem eqC_comm (C D : Key → Cell2) : eqC C D = eqC D C := by
  have h : ∀ c d : Cell2, sameC c d = sameC d c := fun c d => by
    obtain ⟨f, z⟩ := c
    obtain ⟨g, y⟩ := d
    cases f <;> cases g
    · rfl
    · rfl
    · rfl
    · show decide (canon z = canon y) = decide (canon y = canon z)
      exact decide_eq_decide.2 eq_comm
  rw [Bool.eq_iff_iff]
  constructor
  · intro h1
    unfold eqC at h1
    have g1 := @of_decide_eq_true _ (Classical.propDecidable _) h1
    exact eqC_true fun s => by rw [h]; exact g1 s
  · intro h1
    unfold eqC at h1
    have g1 := @of_decide_eq_true _ (Classical.propDecidable _) h1
    exact eqC_true fun s => by rw [h]; exact g1 s
theorem eqL_comm (L M : Key → List Wr) : eqL L M = eqL M L := by
  rw [Bool.eq_iff_iff]
  constructor
  · intro h1
    unfold eqL at h1
    have g1 := @of_decide_eq_true _ (Classical.propDecidable _) h1
    exact eqL_true fun s => (g1 s).symm
  · intro h1
    unfold eqL at h1
    have g1 := @of_decide_eq_true _ (Classical.propDecidable _) h1
    exact eqL_true fun s => (g1 s).symm
/-- What has been put behind a row so far. -/
structure Few (i : Nat) (xs : List Itm) (cnt : Int) : Prop where
  len : xs.length ≤ i
  right : RightAll xs
  wf : ∀ x ∈ xs, wfT x
  c0 : 0 ≤ cnt
  c1 : cnt ≤ i
theorem Few.nil : Few 0 [] 0 := ⟨Nat.le_refl _, fun x hx => (by cases hx), fun x hx => (by cases hx), by omega, by omega⟩
theorem Few.ok {i : Nat} {xs : List Itm} {cnt c' : Int} (h : Few i xs cnt) {id : Int × Int} {cs : List Cmdn} (he : bErr cs = 0) (hw : ∀ c ∈ cs, wfC c) (hc : c' = if bErr cs = 0 then cnt + 1 else cnt) : Few (i + 1) (xs ++ [(id, cs)]) c' := by
  rw [if_pos he] at hc
  have h0 := h.c0
  have h1 := h.c1
  refine ⟨by rw [List.length_append]; have := h.len; simp; omega, fun x hx => ?_, fun x hx => ?_, by omega, by omega⟩
  · rcases List.mem_append.1 hx with hx | hx
    · exact h.right x hx
    · rw [List.mem_singleton.1 hx]; exact he
  · rcases List.mem_append.1 hx with hx | hx
    · exact h.wf x hx
    · rw [List.mem_singleton.1 hx]; exact hw
theorem Few.no {i : Nat} {xs : List Itm} {cnt c' : Int} (h : Few i xs cnt) {cs : List Cmdn} (he : bErr cs ≠ 0) (hc : c' = if bErr cs = 0 then cnt + 1 else cnt) : Few (i + 1) xs c' := by
  rw [if_neg he] at hc
  have h0 := h.c0
  have h1 := h.c1
  exact ⟨by have := h.len; omega, h.right, h.wf, by omega, by omega⟩
theorem Few.log {i : Nat} {xs : List Itm} {cnt : Int} (h : Few i xs cnt) (hi : i ≤ 100) (s : Key) : (logOf xs s).length ≤ 50000 := by
  have h1 := logOf_le s xs
  have h2 := cmds_few h.right
  have h3 := h.len
  omega

/-! ### VaultSame -/
theorem same_long (p : Option Addr) (n cap : Nat) (q : Option Addr) (m cap' : Nat) (w : World) (hl : 12 < n ∨ 12 < m) : Calls Try.prog 5 #[.slice p n cap, .slice q m cap'] w (RetBelow (.bool true) w) := by
  have CP := Lib.hid vplay_any
  by_cases h1 : 12 < n
  · have h2 : decide ((12 : Int) < n) = true := decide_eq_true (by omega)
    have h3 : (12 : Int) < n := by omega
    clear hl h1
    go_enter Try.func5, Try.ntmps5
    go_wp2_with (first
      | (go_at_call 6; (with_reducible refine (CP.out _).mono ?_); rintro E w1 ⟨rfl, hb⟩; have B1 := Lib.hid hb; clear hb))
    go_ret
    exact ⟨rfl, B1.out⟩
  · have h2 : decide ((12 : Int) < n) = false := decide_eq_false (by omega)
    have h3 : ¬ (12 : Int) < n := by omega
    have h4 : decide ((12 : Int) < m) = true := decide_eq_true (by omega)
    have h5 : (12 : Int) < m := by omega
    clear hl h1
    go_enter Try.func5, Try.ntmps5
    go_wp2_with (first
      | (go_at_call 6; (with_reducible refine (CP.out _).mono ?_); rintro E w1 ⟨rfl, hb⟩; have B1 := Lib.hid hb; clear hb))
    go_ret
    exact ⟨rfl, B1.out⟩
set_option maxHeartbeats 32000000 in
set_option maxRecDepth 100000 in
theorem same_few (p : Option Addr) (cap : Nat) (xs : List Itm) (q : Option Addr) (cap' : Nat) (ys : List Itm) (w : World) (hrx : layT.Row w (.slice p xs.length cap) xs) (hry : layT.Row w (.slice q ys.length cap') ys) (hwx : ∀ x ∈ xs, wfT x) (hwy : ∀ x ∈ ys, wfT x) (hl : xs.length ≤ 12 ∧ ys.length ≤ 12) : Calls Try.prog 5 #[.slice p xs.length cap, .slice q ys.length cap'] w (RetBelow (.bool true) w) := by
  have CP := Lib.hid vplay_any
  obtain ⟨p', cp', hpp, h1, hd⟩ := hrx.parts
  injection hpp with e1 _ e3
  subst e1; subst e3
  obtain ⟨q', cq', hqq, gk1, gd⟩ := hry.parts
  injection hqq with e1 _ e3
  subst e1; subst e3
  obtain ⟨n, hn⟩ : ∃ n, n = xs.length := ⟨_, rfl⟩
  obtain ⟨m, hm⟩ : ∃ m, m = ys.length := ⟨_, rfl⟩
  have HN := Lib.hid hn
  have HM := Lib.hid hm
  have HWX := Lib.hid hwx
  have HWY := Lib.hid hwy
  have k1 : decide ((12 : Int) < n) = false := decide_eq_false (by omega)
  have k2 : ¬ (12 : Int) < n := by omega
  have k3 : decide ((12 : Int) < m) = false := decide_eq_false (by omega)
  have k4 : ¬ (12 : Int) < m := by omega
  have KN : Hid (n ≤ 12) := Lib.hid (by omega)
  have KM : Hid (m ≤ 12) := Lib.hid (by omega)
  rw [← hn] at h1 hd
  rw [← hm] at gk1 gd
  rw [← hn, ← hm]
  have CN : Hid (∀ W, w.heap.size ≤ W.heap.size → Calls Try.prog 7 #[] W (fun E w' => ∃ g, E = .returned (.pointer (some ⟨g, 0, none⟩)) ∧ VP w' w.heap.size (More (fun _ => False) W.heap.size w'.heap.size) g noC noL 0 0 ∧ Below W.heap.size W w')) := Lib.hid fun W hW => vnew_any W w.heap.size hW
  have CN1 := Lib.hid (CN.out w (Nat.le_refl _))
  clear hrx hry hwx hwy hl hn hm
  go_enter Try.func5, Try.ntmps5
  go_wp2_with (first
    | (go_at_call 7; ((with_reducible refine CN1.out.mono ?_); rintro E w1 ⟨g1, rfl, hv, hb⟩; have HV1 := Lib.hid hv; have B1 := Lib.hid hb; have CN2 := Lib.hid (CN.out w1 B1.out.size); clear hv hb CN1))
    | (go_at_call 7; ((with_reducible refine CN2.out.mono ?_); rintro E w2 ⟨g2, rfl, hv, hb⟩; have HV2 := Lib.hid hv; have B2 := Lib.hid hb; clear hv hb CN2)))
  obtain ⟨W3, hW3⟩ : ∃ W3, W3 = w2.alloc (.cells #[] 30) := ⟨_, rfl⟩
  obtain ⟨W4, hW4⟩ : ∃ W4, W4 = W3.alloc (.cells #[] 30) := ⟨_, rfl⟩
  have hb3 : Below w2.heap.size w2 W3 := by rw [hW3]; exact Cmd.below_one w2 _
  have hb4 : Below W3.heap.size W3 W4 := by rw [hW4]; exact Cmd.below_one W3 _
  have hs3 : W3.heap.size = w2.heap.size + 1 := by rw [hW3]; simp
  have HBA : Hid (w.heap.size ≤ w2.heap.size) := Lib.hid (Nat.le_trans B1.out.size B2.out.size)
  have BT0 : Hid (Bt w.heap.size w (More (fun _ => False) w.heap.size w1.heap.size) (More (fun _ => False) w1.heap.size w2.heap.size) g1 g2 (cellOf []) (cellOf []) (logOf []) (logOf []) 0 0 0 0 W4) := Lib.hid (Bt.on (Bt.on ⟨HV1.out.on B2.out, HV2.out, fun j hj h2 => (by rcases hj with hj | hj; exact hj; rcases h2 with h2 | h2; exact h2; omega), B1.out.trans (B2.out.mono B1.out.size), HBA.out⟩ hb3) hb4)
  have RA0 : Hid (Rw w.heap.size w (More (fun _ => False) w.heap.size w1.heap.size) (More (fun _ => False) w1.heap.size w2.heap.size) (.slice (some ⟨w2.heap.size, 0, none⟩) 0 0) [] [] W4) := Lib.hid (Rw.on (W := W3) ⟨by rw [hW3]; exact Wd.Own.made (D := wdQ) 30 w2 HBA.out, Match.nil w, fun k hk hg => (by have hk' : w2.heap.size = k := Option.some.inj hk; have := B2.out.size; rcases hg with hg | hg; exact hg; omega), fun k hk hg => (by have hk' : w2.heap.size = k := Option.some.inj hk; rcases hg with hg | hg; exact hg; omega)⟩ hb4)
  have RB0 : Hid (Rw w.heap.size w (More (fun _ => False) w.heap.size w1.heap.size) (More (fun _ => False) w1.heap.size w2.heap.size) (.slice (some ⟨w2.heap.size + 1, 0, none⟩) 0 0) [] [] W4) := Lib.hid ⟨by rw [hW4, ← hs3]; exact Wd.Own.made (D := wdQ) 30 W3 (by have := HBA.out; omega), Match.nil w, fun k hk hg => (by have hk' : w2.heap.size + 1 = k := Option.some.inj hk; have := B2.out.size; rcases hg with hg | hg; exact hg; omega), fun k hk hg => (by have hk' : w2.heap.size + 1 = k := Option.some.inj hk; rcases hg with hg | hg; exact hg; omega)⟩
  have AB0 : Hid (Ap2 (.slice (some ⟨w2.heap.size, 0, none⟩) 0 0) (.slice (some ⟨w2.heap.size + 1, 0, none⟩) 0 0)) := Lib.hid fun k hk hu => by
    have hk' : w2.heap.size = k := Option.some.inj hk
    have hu' : w2.heap.size + 1 = k := Option.some.inj hu
    omega
  rw [hW3] at hW4
  try rw [← hW4]
  generalize (More (fun _ => False) w.heap.size w1.heap.size) = P1 at BT0 RA0 RB0
  generalize (More (fun _ => False) w1.heap.size w2.heap.size) = P2 at BT0 RA0 RB0
  generalize (Value.slice (some ⟨w2.heap.size + 1, 0, none⟩) 0 0) = vb0 at RB0 AB0 ⊢
  generalize (Value.slice (some ⟨w2.heap.size, 0, none⟩) 0 0) = va0 at RA0 AB0 ⊢
  subst hW4
  generalize ((w2.alloc (.cells #[] 30)).alloc (.cells #[] 30)) = W5 at BT0 RA0 RB0 ⊢
  clear HV1 HV2 B1 B2 hb3 hb4 hs3 hW3 HBA CN W3
  go_loopw [7, 9] (fun row idx wr => ∃ (i : Nat) (G1 : Nat → Prop) (xa : List Itm) (qa : List Qt) (cnt : Int), i ≤ n ∧ idx = .int .i64 i ∧ Hid (Bt w.heap.size w G1 P2 g1 g2 (cellOf xa) (cellOf []) (logOf xa) (logOf []) (16 * i) 0 cnt 0 wr) ∧ Hid (Rw w.heap.size w G1 P2 row qa xa wr) ∧ Hid (Rw w.heap.size w G1 P2 vb0 [] [] wr) ∧ Hid (Ap2 row vb0) ∧ Hid (Few i xa cnt)) (fun _ idx _ => n - (intOf idx).toNat)
  case atStart => exact ⟨0, P1, [], [], 0, Nat.zero_le _, rfl, BT0, RA0, RB0, AB0, Lib.hid Few.nil⟩
  case round =>
    obtain ⟨i, G1, xa, qa, cnt, hi, rfl, HB, HR, HO, HA, HF⟩ := hrel
    have i00 : (0 : Int) ≤ i := by omega
    by_cases hin : i < n
    · have kin : (i : Int) < n := by omega
      obtain ⟨B, off, rfl, HC⟩ := hd.resolve_left (by omega)
      have hix : i < xs.length := by rw [← HN.out]; exact hin
      obtain ⟨x1, x2, cs, hx⟩ : ∃ a b cs, layT.at xs i = ((a, b), cs) := ⟨_, _, _, rfl⟩
      have HWC := HWX.out _ (layT.at_mem hix)
      rw [hx] at HWC
      obtain ⟨p', cap2, hp2, -, -, -⟩ := partT HC.out hix hx
      obtain ⟨m', hm'⟩ : ∃ m', m' = cs.length := ⟨_, rfl⟩
      rw [← hm'] at hp2
      have HS : Hid (∀ X, Below w.heap.size w X → X.cell? ⟨B, off + i * 3, none⟩ = some (.int .i64 x1) ∧ X.cell? ⟨B, off + i * 3 + 1, none⟩ = some (.int .i64 x2) ∧ X.cell? ⟨B, off + i * 3 + 2, none⟩ = some (.slice p' m' cap2)) := Lib.hid fun X hb => by
        obtain ⟨c0, c1, -⟩ := cellT (HC.out.on hb) hix hx
        exact ⟨c0, c1, (hb.cell (p := ⟨B, off + i * 3 + 2, none⟩) HC.out.lt).trans hp2⟩
      have HRC : Hid (∀ X, Below w.heap.size w X → layC.Row X (.slice p' m' cap2) cs) := Lib.hid fun X hb => by
        obtain ⟨-, -, v, e1, e2⟩ := cellT (HC.out.on hb) hix hx
        have e3 := (hb.cell (p := ⟨B, off + i * 3 + 2, none⟩) HC.out.lt).trans hp2
        rw [e1] at e3
        cases e3; exact e2
      have HWC2 := Lib.hid HWC
      have HB1 := Lib.hid (HB.out.on (Below.refl _ _).drew)
      have HR1 := Lib.hid (HR.out.on (Below.refl _ _).drew)
      have HO1 := Lib.hid (HO.out.on (Below.refl _ _).drew)
      have CA := Lib.hid (HB1.out.call1 x1 x2 _ cs HRC.out HWC (by have := KN.out; omega) (HF.out.log (by have := KN.out; omega)) HF.out.c0 (by have := HF.out.c1; have := KN.out; omega))
      have HQL : Hid (qa.length + 1 ≤ 1000000) := Lib.hid (by have := HR.out.m.len; have := HF.out.len; have := KN.out; omega)
      clear hix hx hp2 hm' HWC hd
      by_cases he : bErr cs = 0
      · have HE := Lib.hid he
        clear he
        go_wp2_with fail
        refine wp_region_held_drew (S := (fun w' => w'.cell? ⟨B, off + i * 3, none⟩ = some (.int .i64 x1) ∧ w'.cell? ⟨B, off + i * 3 + 1, none⟩ = some (.int .i64 x2) ∧ w'.cell? ⟨B, off + i * 3 + 2, none⟩ = some (.slice p' m' cap2))) (by kernel_rfl) (HS.out _ HB1.out.below) (fun hHeld => ?_)
        generalize wr.drew = W0 at HB1 HR1 HO1 CA hHeld ⊢
        refine wpAnyH_take (i := 0) (v := ?_) rfl (by kernel_rfl) (by kernel_rfl) (by kernel_rfl) (fun _ _ _ h => h) (Or.inl ⟨by rfl, fun w hSw => ?_⟩) (by assumption) ?_
        rotate_left
        · (try dsimp only at hSw); go_simp; (try with_reducible rfl)
        try simp only [List.getElem_toArray, List.getElem_cons_succ, List.getElem_cons_zero, Act.put, List.setIfInBounds_toArray, List.set_cons_zero, List.set_cons_succ]
        refine wpAnyH_take (i := 1) (v := ?_) rfl (by kernel_rfl) (by kernel_rfl) (by kernel_rfl) (fun _ _ _ h => h) (Or.inl ⟨by rfl, fun w hSw => ?_⟩) (by assumption) ?_
        rotate_left
        · (try dsimp only at hSw); go_simp; (try with_reducible rfl)
        try simp only [List.getElem_toArray, List.getElem_cons_succ, List.getElem_cons_zero, Act.put, List.setIfInBounds_toArray, List.set_cons_zero, List.set_cons_succ]
        refine wpAnyH_take (i := 2) (v := ?_) rfl (by kernel_rfl) (by kernel_rfl) (by kernel_rfl) (fun _ _ _ h => h) (Or.inl ⟨by rfl, fun w hSw => ?_⟩) (by assumption) ?_
        rotate_left
        · (try dsimp only at hSw); go_simp; (try with_reducible rfl)
        try simp only [List.getElem_toArray, List.getElem_cons_succ, List.getElem_cons_zero, Act.put, List.setIfInBounds_toArray, List.set_cons_zero, List.set_cons_succ]
        refine wpAnyH_take (i := 3) (v := ?_) rfl (by kernel_rfl) (by kernel_rfl) (by kernel_rfl) (fun _ _ _ h => h) (Or.inl ⟨by rfl, fun w hSw => ?_⟩) (by assumption) ?_
        rotate_left
        · (try dsimp only at hSw); go_simp; (try with_reducible rfl)
        try simp only [List.getElem_toArray, List.getElem_cons_succ, List.getElem_cons_zero, Act.put, List.setIfInBounds_toArray, List.set_cons_zero, List.set_cons_succ]
        refine wpAnyH_take (i := 4) (v := ?_) rfl (by kernel_rfl) (by kernel_rfl) (by kernel_rfl) (fun _ _ _ h => h) (Or.inl ⟨by rfl, fun w hSw => ?_⟩) (by assumption) ?_
        rotate_left
        · (try dsimp only at hSw); go_simp; (try with_reducible rfl)
        try simp only [List.getElem_toArray, List.getElem_cons_succ, List.getElem_cons_zero, Act.put, List.setIfInBounds_toArray, List.set_cons_zero, List.set_cons_succ]
        refine wpAnyH_take (i := 5) (v := ?_) rfl (by kernel_rfl) (by kernel_rfl) (by kernel_rfl) (fun _ _ _ h => h) (Or.inl ⟨by rfl, fun w hSw => ?_⟩) (by assumption) ?_
        rotate_left
        · (try dsimp only at hSw); go_simp; (try with_reducible rfl)
        try simp only [List.getElem_toArray, List.getElem_cons_succ, List.getElem_cons_zero, Act.put, List.setIfInBounds_toArray, List.set_cons_zero, List.set_cons_succ]
        refine wpAnyH_take (i := 6) (v := ?_) rfl (by kernel_rfl) (by kernel_rfl) (by kernel_rfl) (fun _ _ _ h => h) (Or.inl ⟨by rfl, fun w hSw => ?_⟩) (by assumption) ?_
        rotate_left
        · (try dsimp only at hSw); go_simp; (try with_reducible rfl)
        try simp only [List.getElem_toArray, List.getElem_cons_succ, List.getElem_cons_zero, Act.put, List.setIfInBounds_toArray, List.set_cons_zero, List.set_cons_succ]
        refine wpAnyH_take (i := 7) (v := ?_) rfl (by kernel_rfl) (by kernel_rfl) (by kernel_rfl) (fun _ _ _ h => h) (Or.inl ⟨by rfl, fun w hSw => ?_⟩) (by assumption) ?_
        rotate_left
        · (try dsimp only at hSw); go_simp; (try with_reducible rfl)
        try simp only [List.getElem_toArray, List.getElem_cons_succ, List.getElem_cons_zero, Act.put, List.setIfInBounds_toArray, List.set_cons_zero, List.set_cons_succ]
        refine wpAnyH_take (i := 8) (v := ?_) rfl (by kernel_rfl) (by kernel_rfl) (by kernel_rfl) (fun _ _ _ h => h) (Or.inl ⟨by rfl, fun w hSw => ?_⟩) (by assumption) ?_
        rotate_left
        · (try dsimp only at hSw); go_simp; (try with_reducible rfl)
        try simp only [List.getElem_toArray, List.getElem_cons_succ, List.getElem_cons_zero, Act.put, List.setIfInBounds_toArray, List.set_cons_zero, List.set_cons_succ]
        refine wpAnyH_take (i := 9) (v := ?_) rfl (by kernel_rfl) (by kernel_rfl) (by kernel_rfl) (fun _ _ _ h => h) (Or.inl ⟨by rfl, fun w hSw => ?_⟩) (by assumption) ?_
        rotate_left
        · (try dsimp only at hSw); go_simp; (try with_reducible rfl)
        try simp only [List.getElem_toArray, List.getElem_cons_succ, List.getElem_cons_zero, Act.put, List.setIfInBounds_toArray, List.set_cons_zero, List.set_cons_succ]
        refine wpAnyH_take (i := 10) (v := ?_) rfl (by kernel_rfl) (by kernel_rfl) (by kernel_rfl) (fun _ _ _ h => h) (Or.inl ⟨by rfl, fun w hSw => ?_⟩) (by assumption) ?_
        rotate_left
        · (try dsimp only at hSw); go_simp; (try with_reducible rfl)
        try simp only [List.getElem_toArray, List.getElem_cons_succ, List.getElem_cons_zero, Act.put, List.setIfInBounds_toArray, List.set_cons_zero, List.set_cons_succ]
        refine wpAnyH_ready (rs := [11]) (by kernel_rfl) (by simp) ?_
        refine AllReadyH.cons rfl (fun K hK => ?_) ?_
        rotate_left
        · exact AllReadyH.nil
        go_simp
        (go_at_call 9; (with_reducible refine CA.out.mono ?_); rintro E w3 ⟨t, ts, G, c', rfl, ht, hfit, hv, ho, hG, htk, hc'⟩; rw [HE.out]; have HB3 : Hid (Bt w.heap.size w G P2 g1 g2 (cellOf (xa ++ [((x1, x2), cs)])) (cellOf []) (logOf (xa ++ [((x1, x2), cs)])) (logOf []) (16 * i + 16) 0 c' 0 w3) := Lib.hid (by have := HB1.out.app1 hv ho hG; rw [(st_ok (id := (x1, x2)) HE.out).1, (st_ok HE.out).2] at this; exact this); have HR3 := Lib.hid (HR1.out.app1 ho hG); have HO3 := Lib.hid (HO1.out.app1 ho hG); have HF3 := Lib.hid (HF.out.ok (id := (x1, x2)) HE.out HWC2.out hc'); clear ht hfit hv ho hG htk hc')
        refine hK.out _ _ ?_ (fun hHeld => ?_)
        · exact HS.out _ HB3.out.below
        clear hK K
        try simp only [List.getElem_toArray, List.getElem_cons_succ, List.getElem_cons_zero, Act.put, List.setIfInBounds_toArray, List.set_cons_zero, List.set_cons_succ]
        refine wpAnyH_take (i := 12) (v := ?_) rfl (by kernel_rfl) (by kernel_rfl) (by kernel_rfl) (fun _ _ _ h => h) (Or.inl ⟨by rfl, fun w hSw => ?_⟩) (by assumption) ?_
        rotate_left
        · (try dsimp only at hSw); go_simp; (try with_reducible rfl)
        try simp only [List.getElem_toArray, List.getElem_cons_succ, List.getElem_cons_zero, Act.put, List.setIfInBounds_toArray, List.set_cons_zero, List.set_cons_succ]
        refine wpAnyH_take (i := 13) (v := ?_) rfl (by kernel_rfl) (by kernel_rfl) (by kernel_rfl) (fun _ _ _ h => h) (Or.inl ⟨by rfl, fun w hSw => ?_⟩) (by assumption) ?_
        rotate_left
        · (try dsimp only at hSw); go_simp; (try with_reducible rfl)
        try simp only [List.getElem_toArray, List.getElem_cons_succ, List.getElem_cons_zero, Act.put, List.setIfInBounds_toArray, List.set_cons_zero, List.set_cons_succ]
        refine wpAnyH_take (i := 14) (v := ?_) rfl (by kernel_rfl) (by kernel_rfl) (by kernel_rfl) (fun _ _ _ h => h) (Or.inl ⟨by rfl, fun w hSw => ?_⟩) (by assumption) ?_
        rotate_left
        · (try dsimp only at hSw); go_simp; (try with_reducible rfl)
        try simp only [List.getElem_toArray, List.getElem_cons_succ, List.getElem_cons_zero, Act.put, List.setIfInBounds_toArray, List.set_cons_zero, List.set_cons_succ]
        refine wpAnyH_take (i := 15) (v := ?_) rfl (by kernel_rfl) (by kernel_rfl) (by kernel_rfl) (fun _ _ _ h => h) (Or.inl ⟨by rfl, fun w hSw => ?_⟩) (by assumption) ?_
        rotate_left
        · (try dsimp only at hSw); go_simp; (try with_reducible rfl)
        try simp only [List.getElem_toArray, List.getElem_cons_succ, List.getElem_cons_zero, Act.put, List.setIfInBounds_toArray, List.set_cons_zero, List.set_cons_succ]
        refine wpAnyH_take (i := 16) (v := ?_) rfl (by kernel_rfl) (by kernel_rfl) (by kernel_rfl) (fun _ _ _ h => h) (Or.inl ⟨by rfl, fun w hSw => ?_⟩) (by assumption) ?_
        rotate_left
        · (try dsimp only at hSw); go_simp; (try with_reducible rfl)
        try simp only [List.getElem_toArray, List.getElem_cons_succ, List.getElem_cons_zero, Act.put, List.setIfInBounds_toArray, List.set_cons_zero, List.set_cons_succ]
        refine wpAnyH_done (by kernel_rfl) ?_ _
        have hb4 := Lib.hid (Cmd.below_one w3 (.cells #[.int .i64 x1, .int .i64 x2, .slice p' m' cap2] 30))
        have HLO := Lib.hid (lone_at (D := wdQ) (x := ((x1, x2), (p', m', cap2))) (heap_alloc_new w3 (.cells #[.int .i64 x1, .int .i64 x2, .slice p' m' cap2] 30)) rfl)
        have HOW := Lib.hid (Wd.Own.below HR3.out.own hb4.out)
        have HZ4 := Lib.hid (Nat.le_trans HB3.out.size hb4.out.size)
        have HS3 := HS.out _ HB3.out.below
        obtain ⟨s0, s1, s2⟩ := HS3
        go_wp2_with (first
          | (at_builtin; refine wp_push wtQ rfl _ _ rfl w.heap.size _ _ rfl HOW.out HZ4.out ⟨w3.heap.size, 0, none⟩ ((x1, x2), (p', m', cap2)) rfl HLO.out HQL.out ?_; intro v5 w5 HO5 HG5 HN5))
        have HP5 := Lib.hid (HR3.out.push HB3.out hb4.out (show layC.Row w (sl (p', m', cap2)) cs from HRC.out w (Below.refl _ _)) HO5.out HG5.out HN5.out)
        have HX5 := Lib.hid (HO3.out.other HA.out HP5.out.2.2)
        have HA5 := Lib.hid (Ap2.push HO3.out HA.out hb4.out HN5.out)
        have HR5 := Lib.hid HP5.out.1
        have HB5 := Lib.hid HP5.out.2.1
        go_roundw
        case rel => exact ⟨i + 1, _, _, _, _, by omega, by go_num, HB5, HR5, HX5, HA5, HF3⟩
        case measure => simp [intOf]; omega
      · obtain ⟨e, hee⟩ : ∃ e, e = bErr cs := ⟨_, rfl⟩
        have HE := Lib.hid he
        have HEE := Lib.hid hee
        have hz : (e == 0) = false := by rw [hee]; simpa using he
        clear he hee
        go_wp2_with fail
        refine wp_region_held_drew (S := (fun w' => w'.cell? ⟨B, off + i * 3, none⟩ = some (.int .i64 x1) ∧ w'.cell? ⟨B, off + i * 3 + 1, none⟩ = some (.int .i64 x2) ∧ w'.cell? ⟨B, off + i * 3 + 2, none⟩ = some (.slice p' m' cap2))) (by kernel_rfl) (HS.out _ HB1.out.below) (fun hHeld => ?_)
        generalize wr.drew = W0 at HB1 HR1 HO1 CA hHeld ⊢
        refine wpAnyH_take (i := 0) (v := ?_) rfl (by kernel_rfl) (by kernel_rfl) (by kernel_rfl) (fun _ _ _ h => h) (Or.inl ⟨by rfl, fun w hSw => ?_⟩) (by assumption) ?_
        rotate_left
        · (try dsimp only at hSw); go_simp; (try with_reducible rfl)
        try simp only [List.getElem_toArray, List.getElem_cons_succ, List.getElem_cons_zero, Act.put, List.setIfInBounds_toArray, List.set_cons_zero, List.set_cons_succ]
        refine wpAnyH_take (i := 1) (v := ?_) rfl (by kernel_rfl) (by kernel_rfl) (by kernel_rfl) (fun _ _ _ h => h) (Or.inl ⟨by rfl, fun w hSw => ?_⟩) (by assumption) ?_
        rotate_left
        · (try dsimp only at hSw); go_simp; (try with_reducible rfl)
        try simp only [List.getElem_toArray, List.getElem_cons_succ, List.getElem_cons_zero, Act.put, List.setIfInBounds_toArray, List.set_cons_zero, List.set_cons_succ]
        refine wpAnyH_take (i := 2) (v := ?_) rfl (by kernel_rfl) (by kernel_rfl) (by kernel_rfl) (fun _ _ _ h => h) (Or.inl ⟨by rfl, fun w hSw => ?_⟩) (by assumption) ?_
        rotate_left
        · (try dsimp only at hSw); go_simp; (try with_reducible rfl)
        try simp only [List.getElem_toArray, List.getElem_cons_succ, List.getElem_cons_zero, Act.put, List.setIfInBounds_toArray, List.set_cons_zero, List.set_cons_succ]
        refine wpAnyH_take (i := 3) (v := ?_) rfl (by kernel_rfl) (by kernel_rfl) (by kernel_rfl) (fun _ _ _ h => h) (Or.inl ⟨by rfl, fun w hSw => ?_⟩) (by assumption) ?_
        rotate_left
        · (try dsimp only at hSw); go_simp; (try with_reducible rfl)
        try simp only [List.getElem_toArray, List.getElem_cons_succ, List.getElem_cons_zero, Act.put, List.setIfInBounds_toArray, List.set_cons_zero, List.set_cons_succ]
        refine wpAnyH_take (i := 4) (v := ?_) rfl (by kernel_rfl) (by kernel_rfl) (by kernel_rfl) (fun _ _ _ h => h) (Or.inl ⟨by rfl, fun w hSw => ?_⟩) (by assumption) ?_
        rotate_left
        · (try dsimp only at hSw); go_simp; (try with_reducible rfl)
        try simp only [List.getElem_toArray, List.getElem_cons_succ, List.getElem_cons_zero, Act.put, List.setIfInBounds_toArray, List.set_cons_zero, List.set_cons_succ]
        refine wpAnyH_take (i := 5) (v := ?_) rfl (by kernel_rfl) (by kernel_rfl) (by kernel_rfl) (fun _ _ _ h => h) (Or.inl ⟨by rfl, fun w hSw => ?_⟩) (by assumption) ?_
        rotate_left
        · (try dsimp only at hSw); go_simp; (try with_reducible rfl)
        try simp only [List.getElem_toArray, List.getElem_cons_succ, List.getElem_cons_zero, Act.put, List.setIfInBounds_toArray, List.set_cons_zero, List.set_cons_succ]
        refine wpAnyH_take (i := 6) (v := ?_) rfl (by kernel_rfl) (by kernel_rfl) (by kernel_rfl) (fun _ _ _ h => h) (Or.inl ⟨by rfl, fun w hSw => ?_⟩) (by assumption) ?_
        rotate_left
        · (try dsimp only at hSw); go_simp; (try with_reducible rfl)
        try simp only [List.getElem_toArray, List.getElem_cons_succ, List.getElem_cons_zero, Act.put, List.setIfInBounds_toArray, List.set_cons_zero, List.set_cons_succ]
        refine wpAnyH_take (i := 7) (v := ?_) rfl (by kernel_rfl) (by kernel_rfl) (by kernel_rfl) (fun _ _ _ h => h) (Or.inl ⟨by rfl, fun w hSw => ?_⟩) (by assumption) ?_
        rotate_left
        · (try dsimp only at hSw); go_simp; (try with_reducible rfl)
        try simp only [List.getElem_toArray, List.getElem_cons_succ, List.getElem_cons_zero, Act.put, List.setIfInBounds_toArray, List.set_cons_zero, List.set_cons_succ]
        refine wpAnyH_take (i := 8) (v := ?_) rfl (by kernel_rfl) (by kernel_rfl) (by kernel_rfl) (fun _ _ _ h => h) (Or.inl ⟨by rfl, fun w hSw => ?_⟩) (by assumption) ?_
        rotate_left
        · (try dsimp only at hSw); go_simp; (try with_reducible rfl)
        try simp only [List.getElem_toArray, List.getElem_cons_succ, List.getElem_cons_zero, Act.put, List.setIfInBounds_toArray, List.set_cons_zero, List.set_cons_succ]
        refine wpAnyH_take (i := 9) (v := ?_) rfl (by kernel_rfl) (by kernel_rfl) (by kernel_rfl) (fun _ _ _ h => h) (Or.inl ⟨by rfl, fun w hSw => ?_⟩) (by assumption) ?_
        rotate_left
        · (try dsimp only at hSw); go_simp; (try with_reducible rfl)
        try simp only [List.getElem_toArray, List.getElem_cons_succ, List.getElem_cons_zero, Act.put, List.setIfInBounds_toArray, List.set_cons_zero, List.set_cons_succ]
        refine wpAnyH_take (i := 10) (v := ?_) rfl (by kernel_rfl) (by kernel_rfl) (by kernel_rfl) (fun _ _ _ h => h) (Or.inl ⟨by rfl, fun w hSw => ?_⟩) (by assumption) ?_
        rotate_left
        · (try dsimp only at hSw); go_simp; (try with_reducible rfl)
        try simp only [List.getElem_toArray, List.getElem_cons_succ, List.getElem_cons_zero, Act.put, List.setIfInBounds_toArray, List.set_cons_zero, List.set_cons_succ]
        refine wpAnyH_ready (rs := [11]) (by kernel_rfl) (by simp) ?_
        refine AllReadyH.cons rfl (fun K hK => ?_) ?_
        rotate_left
        · exact AllReadyH.nil
        go_simp
        (go_at_call 9; (with_reducible refine CA.out.mono ?_); rintro E w3 ⟨t, ts, G, c', rfl, ht, hfit, hv, ho, hG, htk, hc'⟩; rw [← HEE.out]; have HB3 : Hid (Bt w.heap.size w G P2 g1 g2 (cellOf xa) (cellOf []) (logOf xa) (logOf []) (16 * i + 16) 0 c' 0 w3) := Lib.hid (by have := HB1.out.app1 hv ho hG; rw [(st_no (L := logOf xa) (id := (x1, x2)) HE.out).1, (st_no (C := cellOf xa) HE.out).2] at this; exact this); have HR3 := Lib.hid (HR1.out.app1 ho hG); have HO3 := Lib.hid (HO1.out.app1 ho hG); have HF3 := Lib.hid (HF.out.no HE.out hc'); clear ht hfit hv ho hG htk hc')
        refine hK.out _ _ ?_ (fun hHeld => ?_)
        · exact HS.out _ HB3.out.below
        clear hK K
        try simp only [List.getElem_toArray, List.getElem_cons_succ, List.getElem_cons_zero, Act.put, List.setIfInBounds_toArray, List.set_cons_zero, List.set_cons_succ]
        refine wpAnyH_take (i := 12) (v := ?_) rfl (by kernel_rfl) (by kernel_rfl) (by kernel_rfl) (fun _ _ _ h => h) (Or.inl ⟨by rfl, fun w hSw => ?_⟩) (by assumption) ?_
        rotate_left
        · (try dsimp only at hSw); go_simp; (try with_reducible rfl)
        try simp only [List.getElem_toArray, List.getElem_cons_succ, List.getElem_cons_zero, Act.put, List.setIfInBounds_toArray, List.set_cons_zero, List.set_cons_succ]
        refine wpAnyH_take (i := 13) (v := ?_) rfl (by kernel_rfl) (by kernel_rfl) (by kernel_rfl) (fun _ _ _ h => h) (Or.inl ⟨by rfl, fun w hSw => ?_⟩) (by assumption) ?_
        rotate_left
        · (try dsimp only at hSw); go_simp; (try with_reducible rfl)
        try simp only [List.getElem_toArray, List.getElem_cons_succ, List.getElem_cons_zero, Act.put, List.setIfInBounds_toArray, List.set_cons_zero, List.set_cons_succ]
        refine wpAnyH_take (i := 14) (v := ?_) rfl (by kernel_rfl) (by kernel_rfl) (by kernel_rfl) (fun _ _ _ h => h) (Or.inl ⟨by rfl, fun w hSw => ?_⟩) (by assumption) ?_
        rotate_left
        · (try dsimp only at hSw); go_simp; (try with_reducible rfl)
        try simp only [List.getElem_toArray, List.getElem_cons_succ, List.getElem_cons_zero, Act.put, List.setIfInBounds_toArray, List.set_cons_zero, List.set_cons_succ]
        refine wpAnyH_take (i := 15) (v := ?_) rfl (by kernel_rfl) (by kernel_rfl) (by kernel_rfl) (fun _ _ _ h => h) (Or.inl ⟨by rfl, fun w hSw => ?_⟩) (by assumption) ?_
        rotate_left
        · (try dsimp only at hSw); go_simp; (try with_reducible rfl)
        try simp only [List.getElem_toArray, List.getElem_cons_succ, List.getElem_cons_zero, Act.put, List.setIfInBounds_toArray, List.set_cons_zero, List.set_cons_succ]
        refine wpAnyH_take (i := 16) (v := ?_) rfl (by kernel_rfl) (by kernel_rfl) (by kernel_rfl) (fun _ _ _ h => h) (Or.inl ⟨by rfl, fun w hSw => ?_⟩) (by assumption) ?_
        rotate_left
        · (try dsimp only at hSw); go_simp; (try with_reducible rfl)
        try simp only [List.getElem_toArray, List.getElem_cons_succ, List.getElem_cons_zero, Act.put, List.setIfInBounds_toArray, List.set_cons_zero, List.set_cons_succ]
        refine wpAnyH_done (by kernel_rfl) ?_ _
        go_wp2_with fail
        go_roundw
        case rel => exact ⟨i + 1, _, _, _, _, by omega, by go_num, HB3, HR3, HO3, HA, HF3⟩
        case measure => simp [intOf]; omega
    · obtain rfl : n = i := by omega
      have kin : ¬ (n : Int) < n := by omega
      obtain ⟨ca, hca⟩ : ∃ ca, ca = cnt := ⟨_, rfl⟩
      rw [← hca] at HB HF
      have BTA := HB
      have RAA := HR
      have RBA := HO
      have ABA : Hid (Ap2 vb0 u7) := Lib.hid HA.out.swap
      have HFA := HF
      obtain ⟨va1, hva1⟩ : ∃ va1, va1 = u7 := ⟨_, rfl⟩
      rw [← hva1] at RAA ABA
      clear HB HR HO HA HF hca hd
      go_wp2_with fail
      go_loopw [8, 12] (fun row idx wr => ∃ (i : Nat) (G2 : Nat → Prop) (xb : List Itm) (qb : List Qt) (cnt : Int), i ≤ m ∧ idx = .int .i64 i ∧ Hid (Bt w.heap.size w G1 G2 g1 g2 (cellOf xa) (cellOf xb) (logOf xa) (logOf xb) (16 * n) (16 * i) ca cnt wr) ∧ Hid (Rw w.heap.size w G1 G2 row qb xb wr) ∧ Hid (Rw w.heap.size w G1 G2 va1 qa xa wr) ∧ Hid (Ap2 row va1) ∧ Hid (Few i xb cnt)) (fun _ idx _ => m - (intOf idx).toNat)
      case atStart => exact ⟨0, P2, [], [], 0, Nat.zero_le _, rfl, BTA, RBA, RAA, ABA, Lib.hid Few.nil⟩
      case round =>
        obtain ⟨i, G2, xb, qb, cnt, hi, rfl, HB, HR, HO, HA, HF⟩ := hrel
        have i00 : (0 : Int) ≤ i := by omega
        by_cases hin : i < m
        · have kin : (i : Int) < m := by omega
          obtain ⟨B, off, rfl, HC⟩ := gd.resolve_left (by omega)
          have hix : i < ys.length := by rw [← HM.out]; exact hin
          obtain ⟨x1, x2, cs, hx⟩ : ∃ a b cs, layT.at ys i = ((a, b), cs) := ⟨_, _, _, rfl⟩
          have HWC := HWY.out _ (layT.at_mem hix)
          rw [hx] at HWC
          obtain ⟨p', cap2, hp2, -, -, -⟩ := partT HC.out hix hx
          obtain ⟨m', hm'⟩ : ∃ m', m' = cs.length := ⟨_, rfl⟩
          rw [← hm'] at hp2
          have HS : Hid (∀ X, Below w.heap.size w X → X.cell? ⟨B, off + i * 3, none⟩ = some (.int .i64 x1) ∧ X.cell? ⟨B, off + i * 3 + 1, none⟩ = some (.int .i64 x2) ∧ X.cell? ⟨B, off + i * 3 + 2, none⟩ = some (.slice p' m' cap2)) := Lib.hid fun X hb => by
            obtain ⟨c0, c1, -⟩ := cellT (HC.out.on hb) hix hx
            exact ⟨c0, c1, (hb.cell (p := ⟨B, off + i * 3 + 2, none⟩) HC.out.lt).trans hp2⟩
          have HRC : Hid (∀ X, Below w.heap.size w X → layC.Row X (.slice p' m' cap2) cs) := Lib.hid fun X hb => by
            obtain ⟨-, -, v, e1, e2⟩ := cellT (HC.out.on hb) hix hx
            have e3 := (hb.cell (p := ⟨B, off + i * 3 + 2, none⟩) HC.out.lt).trans hp2
            rw [e1] at e3
            cases e3; exact e2
          have HWC2 := Lib.hid HWC
          have HB1 := Lib.hid (HB.out.on (Below.refl _ _).drew)
          have HR1 := Lib.hid (HR.out.on (Below.refl _ _).drew)
          have HO1 := Lib.hid (HO.out.on (Below.refl _ _).drew)
          have CA := Lib.hid (HB1.out.call2 x1 x2 _ cs HRC.out HWC (by have := KM.out; omega) (HF.out.log (by have := KM.out; omega)) HF.out.c0 (by have := HF.out.c1; have := KM.out; omega))
          have HQL : Hid (qb.length + 1 ≤ 1000000) := Lib.hid (by have := HR.out.m.len; have := HF.out.len; have := KM.out; omega)
          clear hix hx hp2 hm' HWC gd
          by_cases he : bErr cs = 0
          · have HE := Lib.hid he
            clear he
            go_wp2_with fail
            refine wp_region_held_drew (S := (fun w' => w'.cell? ⟨B, off + i * 3, none⟩ = some (.int .i64 x1) ∧ w'.cell? ⟨B, off + i * 3 + 1, none⟩ = some (.int .i64 x2) ∧ w'.cell? ⟨B, off + i * 3 + 2, none⟩ = some (.slice p' m' cap2))) (by kernel_rfl) (HS.out _ HB1.out.below) (fun hHeld => ?_)
            generalize wr.drew = W0 at HB1 HR1 HO1 CA hHeld ⊢
            refine wpAnyH_take (i := 0) (v := ?_) rfl (by kernel_rfl) (by kernel_rfl) (by kernel_rfl) (fun _ _ _ h => h) (Or.inl ⟨by rfl, fun w hSw => ?_⟩) (by assumption) ?_
            rotate_left
            · (try dsimp only at hSw); go_simp; (try with_reducible rfl)
            try simp only [List.getElem_toArray, List.getElem_cons_succ, List.getElem_cons_zero, Act.put, List.setIfInBounds_toArray, List.set_cons_zero, List.set_cons_succ]
            refine wpAnyH_take (i := 1) (v := ?_) rfl (by kernel_rfl) (by kernel_rfl) (by kernel_rfl) (fun _ _ _ h => h) (Or.inl ⟨by rfl, fun w hSw => ?_⟩) (by assumption) ?_
            rotate_left
            · (try dsimp only at hSw); go_simp; (try with_reducible rfl)
            try simp only [List.getElem_toArray, List.getElem_cons_succ, List.getElem_cons_zero, Act.put, List.setIfInBounds_toArray, List.set_cons_zero, List.set_cons_succ]
            refine wpAnyH_take (i := 2) (v := ?_) rfl (by kernel_rfl) (by kernel_rfl) (by kernel_rfl) (fun _ _ _ h => h) (Or.inl ⟨by rfl, fun w hSw => ?_⟩) (by assumption) ?_
            rotate_left
            · (try dsimp only at hSw); go_simp; (try with_reducible rfl)
            try simp only [List.getElem_toArray, List.getElem_cons_succ, List.getElem_cons_zero, Act.put, List.setIfInBounds_toArray, List.set_cons_zero, List.set_cons_succ]
            refine wpAnyH_take (i := 3) (v := ?_) rfl (by kernel_rfl) (by kernel_rfl) (by kernel_rfl) (fun _ _ _ h => h) (Or.inl ⟨by rfl, fun w hSw => ?_⟩) (by assumption) ?_
            rotate_left
            · (try dsimp only at hSw); go_simp; (try with_reducible rfl)
            try simp only [List.getElem_toArray, List.getElem_cons_succ, List.getElem_cons_zero, Act.put, List.setIfInBounds_toArray, List.set_cons_zero, List.set_cons_succ]
            refine wpAnyH_take (i := 4) (v := ?_) rfl (by kernel_rfl) (by kernel_rfl) (by kernel_rfl) (fun _ _ _ h => h) (Or.inl ⟨by rfl, fun w hSw => ?_⟩) (by assumption) ?_
            rotate_left
            · (try dsimp only at hSw); go_simp; (try with_reducible rfl)
            try simp only [List.getElem_toArray, List.getElem_cons_succ, List.getElem_cons_zero, Act.put, List.setIfInBounds_toArray, List.set_cons_zero, List.set_cons_succ]
            refine wpAnyH_take (i := 5) (v := ?_) rfl (by kernel_rfl) (by kernel_rfl) (by kernel_rfl) (fun _ _ _ h => h) (Or.inl ⟨by rfl, fun w hSw => ?_⟩) (by assumption) ?_
            rotate_left
            · (try dsimp only at hSw); go_simp; (try with_reducible rfl)
            try simp only [List.getElem_toArray, List.getElem_cons_succ, List.getElem_cons_zero, Act.put, List.setIfInBounds_toArray, List.set_cons_zero, List.set_cons_succ]
            refine wpAnyH_take (i := 6) (v := ?_) rfl (by kernel_rfl) (by kernel_rfl) (by kernel_rfl) (fun _ _ _ h => h) (Or.inl ⟨by rfl, fun w hSw => ?_⟩) (by assumption) ?_
            rotate_left
            · (try dsimp only at hSw); go_simp; (try with_reducible rfl)
            try simp only [List.getElem_toArray, List.getElem_cons_succ, List.getElem_cons_zero, Act.put, List.setIfInBounds_toArray, List.set_cons_zero, List.set_cons_succ]
            refine wpAnyH_take (i := 7) (v := ?_) rfl (by kernel_rfl) (by kernel_rfl) (by kernel_rfl) (fun _ _ _ h => h) (Or.inl ⟨by rfl, fun w hSw => ?_⟩) (by assumption) ?_
            rotate_left
            · (try dsimp only at hSw); go_simp; (try with_reducible rfl)
            try simp only [List.getElem_toArray, List.getElem_cons_succ, List.getElem_cons_zero, Act.put, List.setIfInBounds_toArray, List.set_cons_zero, List.set_cons_succ]
            refine wpAnyH_take (i := 8) (v := ?_) rfl (by kernel_rfl) (by kernel_rfl) (by kernel_rfl) (fun _ _ _ h => h) (Or.inl ⟨by rfl, fun w hSw => ?_⟩) (by assumption) ?_
            rotate_left
            · (try dsimp only at hSw); go_simp; (try with_reducible rfl)
            try simp only [List.getElem_toArray, List.getElem_cons_succ, List.getElem_cons_zero, Act.put, List.setIfInBounds_toArray, List.set_cons_zero, List.set_cons_succ]
            refine wpAnyH_take (i := 9) (v := ?_) rfl (by kernel_rfl) (by kernel_rfl) (by kernel_rfl) (fun _ _ _ h => h) (Or.inl ⟨by rfl, fun w hSw => ?_⟩) (by assumption) ?_
            rotate_left
            · (try dsimp only at hSw); go_simp; (try with_reducible rfl)
            try simp only [List.getElem_toArray, List.getElem_cons_succ, List.getElem_cons_zero, Act.put, List.setIfInBounds_toArray, List.set_cons_zero, List.set_cons_succ]
            refine wpAnyH_take (i := 10) (v := ?_) rfl (by kernel_rfl) (by kernel_rfl) (by kernel_rfl) (fun _ _ _ h => h) (Or.inl ⟨by rfl, fun w hSw => ?_⟩) (by assumption) ?_
            rotate_left
            · (try dsimp only at hSw); go_simp; (try with_reducible rfl)
            try simp only [List.getElem_toArray, List.getElem_cons_succ, List.getElem_cons_zero, Act.put, List.setIfInBounds_toArray, List.set_cons_zero, List.set_cons_succ]
            refine wpAnyH_ready (rs := [11]) (by kernel_rfl) (by simp) ?_
            refine AllReadyH.cons rfl (fun K hK => ?_) ?_
            rotate_left
            · exact AllReadyH.nil
            go_simp
            (go_at_call 9; (with_reducible refine CA.out.mono ?_); rintro E w3 ⟨t, ts, G, c', rfl, ht, hfit, hv, ho, hG, htk, hc'⟩; rw [HE.out]; have HB3 : Hid (Bt w.heap.size w G1 G g1 g2 (cellOf xa) (cellOf (xb ++ [((x1, x2), cs)])) (logOf xa) (logOf (xb ++ [((x1, x2), cs)])) (16 * n) (16 * i + 16) ca c' w3) := Lib.hid (by have := HB1.out.app2 hv ho hG; rw [(st_ok (id := (x1, x2)) HE.out).1, (st_ok HE.out).2] at this; exact this); have HR3 := Lib.hid (HR1.out.app2 ho hG); have HO3 := Lib.hid (HO1.out.app2 ho hG); have HF3 := Lib.hid (HF.out.ok (id := (x1, x2)) HE.out HWC2.out hc'); clear ht hfit hv ho hG htk hc')
            refine hK.out _ _ ?_ (fun hHeld => ?_)
            · exact HS.out _ HB3.out.below
            clear hK K
            try simp only [List.getElem_toArray, List.getElem_cons_succ, List.getElem_cons_zero, Act.put, List.setIfInBounds_toArray, List.set_cons_zero, List.set_cons_succ]
            refine wpAnyH_take (i := 12) (v := ?_) rfl (by kernel_rfl) (by kernel_rfl) (by kernel_rfl) (fun _ _ _ h => h) (Or.inl ⟨by rfl, fun w hSw => ?_⟩) (by assumption) ?_
            rotate_left
            · (try dsimp only at hSw); go_simp; (try with_reducible rfl)
            try simp only [List.getElem_toArray, List.getElem_cons_succ, List.getElem_cons_zero, Act.put, List.setIfInBounds_toArray, List.set_cons_zero, List.set_cons_succ]
            refine wpAnyH_take (i := 13) (v := ?_) rfl (by kernel_rfl) (by kernel_rfl) (by kernel_rfl) (fun _ _ _ h => h) (Or.inl ⟨by rfl, fun w hSw => ?_⟩) (by assumption) ?_
            rotate_left
            · (try dsimp only at hSw); go_simp; (try with_reducible rfl)
            try simp only [List.getElem_toArray, List.getElem_cons_succ, List.getElem_cons_zero, Act.put, List.setIfInBounds_toArray, List.set_cons_zero, List.set_cons_succ]
            refine wpAnyH_take (i := 14) (v := ?_) rfl (by kernel_rfl) (by kernel_rfl) (by kernel_rfl) (fun _ _ _ h => h) (Or.inl ⟨by rfl, fun w hSw => ?_⟩) (by assumption) ?_
            rotate_left
            · (try dsimp only at hSw); go_simp; (try with_reducible rfl)
            try simp only [List.getElem_toArray, List.getElem_cons_succ, List.getElem_cons_zero, Act.put, List.setIfInBounds_toArray, List.set_cons_zero, List.set_cons_succ]
            refine wpAnyH_take (i := 15) (v := ?_) rfl (by kernel_rfl) (by kernel_rfl) (by kernel_rfl) (fun _ _ _ h => h) (Or.inl ⟨by rfl, fun w hSw => ?_⟩) (by assumption) ?_
            rotate_left
            · (try dsimp only at hSw); go_simp; (try with_reducible rfl)
            try simp only [List.getElem_toArray, List.getElem_cons_succ, List.getElem_cons_zero, Act.put, List.setIfInBounds_toArray, List.set_cons_zero, List.set_cons_succ]
            refine wpAnyH_take (i := 16) (v := ?_) rfl (by kernel_rfl) (by kernel_rfl) (by kernel_rfl) (fun _ _ _ h => h) (Or.inl ⟨by rfl, fun w hSw => ?_⟩) (by assumption) ?_
            rotate_left
            · (try dsimp only at hSw); go_simp; (try with_reducible rfl)
            try simp only [List.getElem_toArray, List.getElem_cons_succ, List.getElem_cons_zero, Act.put, List.setIfInBounds_toArray, List.set_cons_zero, List.set_cons_succ]
            refine wpAnyH_done (by kernel_rfl) ?_ _
            have hb4 := Lib.hid (Cmd.below_one w3 (.cells #[.int .i64 x1, .int .i64 x2, .slice p' m' cap2] 30))
            have HLO := Lib.hid (lone_at (D := wdQ) (x := ((x1, x2), (p', m', cap2))) (heap_alloc_new w3 (.cells #[.int .i64 x1, .int .i64 x2, .slice p' m' cap2] 30)) rfl)
            have HOW := Lib.hid (Wd.Own.below HR3.out.own hb4.out)
            have HZ4 := Lib.hid (Nat.le_trans HB3.out.size hb4.out.size)
            have HS3 := HS.out _ HB3.out.below
            obtain ⟨s0, s1, s2⟩ := HS3
            go_wp2_with (first
              | (at_builtin; refine wp_push wtQ rfl _ _ rfl w.heap.size _ _ rfl HOW.out HZ4.out ⟨w3.heap.size, 0, none⟩ ((x1, x2), (p', m', cap2)) rfl HLO.out HQL.out ?_; intro v5 w5 HO5 HG5 HN5))
            have HP5 := Lib.hid (HR3.out.push HB3.out hb4.out (show layC.Row w (sl (p', m', cap2)) cs from HRC.out w (Below.refl _ _)) HO5.out HG5.out HN5.out)
            have HX5 := Lib.hid (HO3.out.other HA.out HP5.out.2.2)
            have HA5 := Lib.hid (Ap2.push HO3.out HA.out hb4.out HN5.out)
            have HR5 := Lib.hid HP5.out.1
            have HB5 := Lib.hid HP5.out.2.1
            go_roundw
            case rel => exact ⟨i + 1, _, _, _, _, by omega, by go_num, HB5, HR5, HX5, HA5, HF3⟩
            case measure => simp [intOf]; omega
          · obtain ⟨e, hee⟩ : ∃ e, e = bErr cs := ⟨_, rfl⟩
            have HE := Lib.hid he
            have HEE := Lib.hid hee
            have hz : (e == 0) = false := by rw [hee]; simpa using he
            clear he hee
            go_wp2_with fail
            refine wp_region_held_drew (S := (fun w' => w'.cell? ⟨B, off + i * 3, none⟩ = some (.int .i64 x1) ∧ w'.cell? ⟨B, off + i * 3 + 1, none⟩ = some (.int .i64 x2) ∧ w'.cell? ⟨B, off + i * 3 + 2, none⟩ = some (.slice p' m' cap2))) (by kernel_rfl) (HS.out _ HB1.out.below) (fun hHeld => ?_)
            generalize wr.drew = W0 at HB1 HR1 HO1 CA hHeld ⊢
            refine wpAnyH_take (i := 0) (v := ?_) rfl (by kernel_rfl) (by kernel_rfl) (by kernel_rfl) (fun _ _ _ h => h) (Or.inl ⟨by rfl, fun w hSw => ?_⟩) (by assumption) ?_
            rotate_left
            · (try dsimp only at hSw); go_simp; (try with_reducible rfl)
            try simp only [List.getElem_toArray, List.getElem_cons_succ, List.getElem_cons_zero, Act.put, List.setIfInBounds_toArray, List.set_cons_zero, List.set_cons_succ]
            refine wpAnyH_take (i := 1) (v := ?_) rfl (by kernel_rfl) (by kernel_rfl) (by kernel_rfl) (fun _ _ _ h => h) (Or.inl ⟨by rfl, fun w hSw => ?_⟩) (by assumption) ?_
            rotate_left
            · (try dsimp only at hSw); go_simp; (try with_reducible rfl)
            try simp only [List.getElem_toArray, List.getElem_cons_succ, List.getElem_cons_zero, Act.put, List.setIfInBounds_toArray, List.set_cons_zero, List.set_cons_succ]
            refine wpAnyH_take (i := 2) (v := ?_) rfl (by kernel_rfl) (by kernel_rfl) (by kernel_rfl) (fun _ _ _ h => h) (Or.inl ⟨by rfl, fun w hSw => ?_⟩) (by assumption) ?_
            rotate_left
            · (try dsimp only at hSw); go_simp; (try with_reducible rfl)
            try simp only [List.getElem_toArray, List.getElem_cons_succ, List.getElem_cons_zero, Act.put, List.setIfInBounds_toArray, List.set_cons_zero, List.set_cons_succ]
            refine wpAnyH_take (i := 3) (v := ?_) rfl (by kernel_rfl) (by kernel_rfl) (by kernel_rfl) (fun _ _ _ h => h) (Or.inl ⟨by rfl, fun w hSw => ?_⟩) (by assumption) ?_
            rotate_left
            · (try dsimp only at hSw); go_simp; (try with_reducible rfl)
            try simp only [List.getElem_toArray, List.getElem_cons_succ, List.getElem_cons_zero, Act.put, List.setIfInBounds_toArray, List.set_cons_zero, List.set_cons_succ]
            refine wpAnyH_take (i := 4) (v := ?_) rfl (by kernel_rfl) (by kernel_rfl) (by kernel_rfl) (fun _ _ _ h => h) (Or.inl ⟨by rfl, fun w hSw => ?_⟩) (by assumption) ?_
            rotate_left
            · (try dsimp only at hSw); go_simp; (try with_reducible rfl)
            try simp only [List.getElem_toArray, List.getElem_cons_succ, List.getElem_cons_zero, Act.put, List.setIfInBounds_toArray, List.set_cons_zero, List.set_cons_succ]
            refine wpAnyH_take (i := 5) (v := ?_) rfl (by kernel_rfl) (by kernel_rfl) (by kernel_rfl) (fun _ _ _ h => h) (Or.inl ⟨by rfl, fun w hSw => ?_⟩) (by assumption) ?_
            rotate_left
            · (try dsimp only at hSw); go_simp; (try with_reducible rfl)
            try simp only [List.getElem_toArray, List.getElem_cons_succ, List.getElem_cons_zero, Act.put, List.setIfInBounds_toArray, List.set_cons_zero, List.set_cons_succ]
            refine wpAnyH_take (i := 6) (v := ?_) rfl (by kernel_rfl) (by kernel_rfl) (by kernel_rfl) (fun _ _ _ h => h) (Or.inl ⟨by rfl, fun w hSw => ?_⟩) (by assumption) ?_
            rotate_left
            · (try dsimp only at hSw); go_simp; (try with_reducible rfl)
            try simp only [List.getElem_toArray, List.getElem_cons_succ, List.getElem_cons_zero, Act.put, List.setIfInBounds_toArray, List.set_cons_zero, List.set_cons_succ]
            refine wpAnyH_take (i := 7) (v := ?_) rfl (by kernel_rfl) (by kernel_rfl) (by kernel_rfl) (fun _ _ _ h => h) (Or.inl ⟨by rfl, fun w hSw => ?_⟩) (by assumption) ?_
            rotate_left
            · (try dsimp only at hSw); go_simp; (try with_reducible rfl)
            try simp only [List.getElem_toArray, List.getElem_cons_succ, List.getElem_cons_zero, Act.put, List.setIfInBounds_toArray, List.set_cons_zero, List.set_cons_succ]
            refine wpAnyH_take (i := 8) (v := ?_) rfl (by kernel_rfl) (by kernel_rfl) (by kernel_rfl) (fun _ _ _ h => h) (Or.inl ⟨by rfl, fun w hSw => ?_⟩) (by assumption) ?_
            rotate_left
            · (try dsimp only at hSw); go_simp; (try with_reducible rfl)
            try simp only [List.getElem_toArray, List.getElem_cons_succ, List.getElem_cons_zero, Act.put, List.setIfInBounds_toArray, List.set_cons_zero, List.set_cons_succ]
            refine wpAnyH_take (i := 9) (v := ?_) rfl (by kernel_rfl) (by kernel_rfl) (by kernel_rfl) (fun _ _ _ h => h) (Or.inl ⟨by rfl, fun w hSw => ?_⟩) (by assumption) ?_
            rotate_left
            · (try dsimp only at hSw); go_simp; (try with_reducible rfl)
            try simp only [List.getElem_toArray, List.getElem_cons_succ, List.getElem_cons_zero, Act.put, List.setIfInBounds_toArray, List.set_cons_zero, List.set_cons_succ]
            refine wpAnyH_take (i := 10) (v := ?_) rfl (by kernel_rfl) (by kernel_rfl) (by kernel_rfl) (fun _ _ _ h => h) (Or.inl ⟨by rfl, fun w hSw => ?_⟩) (by assumption) ?_
            rotate_left
            · (try dsimp only at hSw); go_simp; (try with_reducible rfl)
            try simp only [List.getElem_toArray, List.getElem_cons_succ, List.getElem_cons_zero, Act.put, List.setIfInBounds_toArray, List.set_cons_zero, List.set_cons_succ]
            refine wpAnyH_ready (rs := [11]) (by kernel_rfl) (by simp) ?_
            refine AllReadyH.cons rfl (fun K hK => ?_) ?_
            rotate_left
            · exact AllReadyH.nil
            go_simp
            (go_at_call 9; (with_reducible refine CA.out.mono ?_); rintro E w3 ⟨t, ts, G, c', rfl, ht, hfit, hv, ho, hG, htk, hc'⟩; rw [← HEE.out]; have HB3 : Hid (Bt w.heap.size w G1 G g1 g2 (cellOf xa) (cellOf xb) (logOf xa) (logOf xb) (16 * n) (16 * i + 16) ca c' w3) := Lib.hid (by have := HB1.out.app2 hv ho hG; rw [(st_no (L := logOf xb) (id := (x1, x2)) HE.out).1, (st_no (C := cellOf xb) HE.out).2] at this; exact this); have HR3 := Lib.hid (HR1.out.app2 ho hG); have HO3 := Lib.hid (HO1.out.app2 ho hG); have HF3 := Lib.hid (HF.out.no HE.out hc'); clear ht hfit hv ho hG htk hc')
            refine hK.out _ _ ?_ (fun hHeld => ?_)
            · exact HS.out _ HB3.out.below
            clear hK K
            try simp only [List.getElem_toArray, List.getElem_cons_succ, List.getElem_cons_zero, Act.put, List.setIfInBounds_toArray, List.set_cons_zero, List.set_cons_succ]
            refine wpAnyH_take (i := 12) (v := ?_) rfl (by kernel_rfl) (by kernel_rfl) (by kernel_rfl) (fun _ _ _ h => h) (Or.inl ⟨by rfl, fun w hSw => ?_⟩) (by assumption) ?_
            rotate_left
            · (try dsimp only at hSw); go_simp; (try with_reducible rfl)
            try simp only [List.getElem_toArray, List.getElem_cons_succ, List.getElem_cons_zero, Act.put, List.setIfInBounds_toArray, List.set_cons_zero, List.set_cons_succ]
            refine wpAnyH_take (i := 13) (v := ?_) rfl (by kernel_rfl) (by kernel_rfl) (by kernel_rfl) (fun _ _ _ h => h) (Or.inl ⟨by rfl, fun w hSw => ?_⟩) (by assumption) ?_
            rotate_left
            · (try dsimp only at hSw); go_simp; (try with_reducible rfl)
            try simp only [List.getElem_toArray, List.getElem_cons_succ, List.getElem_cons_zero, Act.put, List.setIfInBounds_toArray, List.set_cons_zero, List.set_cons_succ]
            refine wpAnyH_take (i := 14) (v := ?_) rfl (by kernel_rfl) (by kernel_rfl) (by kernel_rfl) (fun _ _ _ h => h) (Or.inl ⟨by rfl, fun w hSw => ?_⟩) (by assumption) ?_
            rotate_left
            · (try dsimp only at hSw); go_simp; (try with_reducible rfl)
            try simp only [List.getElem_toArray, List.getElem_cons_succ, List.getElem_cons_zero, Act.put, List.setIfInBounds_toArray, List.set_cons_zero, List.set_cons_succ]
            refine wpAnyH_take (i := 15) (v := ?_) rfl (by kernel_rfl) (by kernel_rfl) (by kernel_rfl) (fun _ _ _ h => h) (Or.inl ⟨by rfl, fun w hSw => ?_⟩) (by assumption) ?_
            rotate_left
            · (try dsimp only at hSw); go_simp; (try with_reducible rfl)
            try simp only [List.getElem_toArray, List.getElem_cons_succ, List.getElem_cons_zero, Act.put, List.setIfInBounds_toArray, List.set_cons_zero, List.set_cons_succ]
            refine wpAnyH_take (i := 16) (v := ?_) rfl (by kernel_rfl) (by kernel_rfl) (by kernel_rfl) (fun _ _ _ h => h) (Or.inl ⟨by rfl, fun w hSw => ?_⟩) (by assumption) ?_
            rotate_left
            · (try dsimp only at hSw); go_simp; (try with_reducible rfl)
            try simp only [List.getElem_toArray, List.getElem_cons_succ, List.getElem_cons_zero, Act.put, List.setIfInBounds_toArray, List.set_cons_zero, List.set_cons_succ]
            refine wpAnyH_done (by kernel_rfl) ?_ _
            go_wp2_with fail
            go_roundw
            case rel => exact ⟨i + 1, _, _, _, _, by omega, by go_num, HB3, HR3, HO3, HA, HF3⟩
            case measure => simp [intOf]; omega
        · obtain rfl : i = m := by omega
          have kin : ¬ (i : Int) < i := by omega
          have BT := HB
          have RA := HO
          have RB := HR
          have HFB := HF
          clear HB HR HO HF HA gd
          have HSZ : Hid (w.heap.size ≤ wr.heap.size) := Lib.hid BT.out.size
          subst hva1
          obtain ⟨wz, hwz⟩ : ∃ wz, wz = wr := ⟨_, rfl⟩
          subst hwz
          have HM0 := Lib.hid (Wd.Own.made (D := wdQ) 30 wz (Nat.le_refl _))
          have hbm := Lib.hid (Cmd.below_one wz (.cells #[] 30))
          have HQA1 : Hid (([] : List Qt).length + qa.length ≤ 1000000) := Lib.hid (by have := RA.out.m.len; have := HFA.out.len; have := KN.out; simp; omega)
          have HQA2 : Hid ((([] : List Qt) ++ qa).length + qb.length ≤ 1000000) := Lib.hid (by have := RA.out.m.len; have := HFA.out.len; have := RB.out.m.len; have := HFB.out.len; have := KN.out; have := KM.out; simp; omega)
          have HRA1 := Lib.hid ((Wd.Own.row RA.out.own).on hbm.out)
          have HSM := Lib.hid hbm.out.size
          have HCL : Hid ((cmdsOf (xa ++ xb)).length ≤ 100000) := Lib.hid (by have h1 := cmds_few HFA.out.right; have h2 := cmds_few HFB.out.right; have := HFA.out.len; have := HFB.out.len; have := KN.out; have := KM.out; rw [cmdsOf_app', List.length_append]; omega)
          have HMT : Hid (Match w (([] : List Qt) ++ qa ++ qb) (xa ++ xb)) := Lib.hid (by rw [List.nil_append]; exact RA.out.m.app RB.out.m)
          have HSW : Hid (Below w.heap.size w wz) := Lib.hid BT.out.below
          go_wp2_with (first
            | (at_builtin; refine wp_wide wtQ rfl _ _ rfl wz.heap.size _ [] rfl HM0.out HSM.out _ qa rfl HRA1.out HQA1.out ?_; intro v1 z1 HV1 HB1 HG1; have HC1 := Lib.hid (hbm.out.trans HB1.out); have HRB1 := Lib.hid ((Wd.Own.row RB.out.own).on HC1.out); have HS1 := Lib.hid HC1.out.size)
            | (at_builtin; refine wp_wide wtQ rfl _ _ rfl wz.heap.size _ _ rfl HV1.out HS1.out _ qb rfl HRB1.out HQA2.out ?_; intro v2 z2 HV2 HB2 HG2; have HC2 := Lib.hid (HC1.out.trans HB2.out); have HRT : Hid (layT.Row z2 v2 (xa ++ xb)) := Lib.hid (Match.back (Wd.Own.row HV2.out) (HMT.out.on (HSW.out.trans (HC2.out.mono HSZ.out)))); have CAL := Lib.hid (rall_any v2 (xa ++ xb) z2 HRT.out HCL.out))
            | (go_at_call 15; ((with_reducible refine CAL.out.mono ?_); rintro E z3 ⟨v3, rfl, hr3, hb⟩; have HC3 := Lib.hid (HC2.out.trans (hb.mono HC2.out.size)); have HR3 := Lib.hid hr3; clear hr3 hb)))
          obtain ⟨pk, ck, rfl, hk1, hkd⟩ := HR3.out.parts
          have HALL : Hid ((allOf (xa ++ xb)).all (goodS xa xb) = (eqC (cellOf xa) (cellOf xb) && eqL (logOf xa) (logOf xb))) := Lib.hid (same_all xa xb).symm
          generalize allOf (xa ++ xb) = zs at HR3 hk1 hkd HALL ⊢
          obtain ⟨nz, hnz⟩ : ∃ nz, nz = zs.length := ⟨_, rfl⟩
          rw [← hnz] at hk1 hkd ⊢
          have HNZ := Lib.hid hnz
          clear hnz
          have HLF : Hid (∀ X, Below z3.heap.size z3 X → Below w.heap.size w X) := Lib.hid fun X hb => (HSW.out.trans (HC3.out.mono HSZ.out)).trans (hb.mono (Nat.le_trans HSZ.out HC3.out.size))
          have CCA : Hid (∀ X s, Below z3.heap.size z3 X → Calls Try.prog 21 #[va1, .string (str s)] X (GivesFold (cellOf xa s) X)) := Lib.hid fun X s hb => rcell_any va1 xa s X (((RA.out.on HC3.out).on hb).row (HLF.out X hb)) HFA.out.wf
          have CCB : Hid (∀ X s, Below z3.heap.size z3 X → Calls Try.prog 21 #[u8, .string (str s)] X (GivesFold (cellOf xb s) X)) := Lib.hid fun X s hb => rcell_any u8 xb s X (((RB.out.on HC3.out).on hb).row (HLF.out X hb)) HFB.out.wf
          have CLA : Hid (∀ X s, Below z3.heap.size z3 X → Calls Try.prog 23 #[va1, .string (str s)] X (layW.Gives (logOf xa s) X)) := Lib.hid fun X s hb => rlog_any va1 xa s X (((RA.out.on HC3.out).on hb).row (HLF.out X hb)) HFA.out.wf (by have := HCL.out; rw [cmdsOf_app', List.length_append] at this; omega)
          have CLB : Hid (∀ X s, Below z3.heap.size z3 X → Calls Try.prog 23 #[u8, .string (str s)] X (layW.Gives (logOf xb s) X)) := Lib.hid fun X s hb => rlog_any u8 xb s X (((RB.out.on HC3.out).on hb).row (HLF.out X hb)) HFB.out.wf (by have := HCL.out; rw [cmdsOf_app', List.length_append] at this; omega)
          obtain ⟨pa7, ca7, e7, -⟩ := Wd.Own.row RA.out.own
          obtain ⟨pb8, cb8, e8, -⟩ := Wd.Own.row RB.out.own
          subst e7; subst e8
          go_loopw [16, 17] (fun wt idx wr => ∃ k : Nat, k ≤ nz ∧ idx = .int .i64 k ∧ wt = .bool ((zs.take k).all (goodS xa xb)) ∧ Hid (Below z3.heap.size z3 wr)) (fun _ idx _ => nz - (intOf idx).toNat)
          case atStart => exact ⟨0, Nat.zero_le _, rfl, rfl, Lib.hid (Below.refl _ _)⟩
          case round =>
            obtain ⟨k, hk, rfl, rfl, HX⟩ := hrel
            have k00 : (0 : Int) ≤ k := by omega
            by_cases hkn : k < nz
            · have kkn : (k : Int) < nz := by omega
              obtain ⟨BK, offk, rfl, HCK⟩ := hkd.resolve_left (by omega)
              have hkz : k < zs.length := by rw [← HNZ.out]; exact hkn
              obtain ⟨s, hs⟩ : ∃ s, layS.at zs k = s := ⟨_, rfl⟩
              have HSK : Hid (∀ X, Below z3.heap.size z3 X → X.cell? ⟨BK, offk + k, none⟩ = some (.string (str s))) := Lib.hid fun X hb => cellS (HCK.out.on hb) hkz hs
              have HST : Hid ((zs.take (k + 1)).all (goodS xa xb) = ((zs.take k).all (goodS xa xb) && goodS xa xb s)) := Lib.hid (by rw [layS.take hkz, List.all_append, hs]; simp)
              have HX0 := Lib.hid (HX.out.trans ((Below.refl _ _).drew.mono HX.out.size))
              have HGS : Hid (goodS xa xb s = (sameC (cellOf xa s) (cellOf xb s) && decide (logOf xa s = logOf xb s))) := Lib.hid rfl
              generalize goodS xa xb s = gg at HST HGS
              generalize (zs.take k).all (goodS xa xb) = qq at HST ⊢
              clear hkz hs hkd
              cases qq with
              | false =>
                go_wp2_with fail
                refine wp_region_held_drew (S := (fun w' => w'.cell? ⟨BK, offk + k, none⟩ = some (.string (str s)))) (by kernel_rfl) (HSK.out _ HX0.out) (fun hHeld => ?_)
                generalize wr.drew = Y0 at HX0 hHeld ⊢
                refine wpAnyH_take (i := 0) (v := ?_) rfl (by kernel_rfl) (by kernel_rfl) (by kernel_rfl) (fun _ _ _ h => h) (Or.inl ⟨by rfl, fun w hSw => ?_⟩) (by assumption) ?_
                rotate_left
                · (try dsimp only at hSw); go_simp; (try with_reducible rfl)
                try simp only [List.getElem_toArray, List.getElem_cons_succ, List.getElem_cons_zero, Act.put, List.setIfInBounds_toArray, List.set_cons_zero, List.set_cons_succ]
                refine wpAnyH_take (i := 1) (v := ?_) rfl (by kernel_rfl) (by kernel_rfl) (by kernel_rfl) (fun _ _ _ h => h) (Or.inl ⟨by rfl, fun w hSw => ?_⟩) (by assumption) ?_
                rotate_left
                · (try dsimp only at hSw); go_simp; (try with_reducible rfl)
                try simp only [List.getElem_toArray, List.getElem_cons_succ, List.getElem_cons_zero, Act.put, List.setIfInBounds_toArray, List.set_cons_zero, List.set_cons_succ]
                refine wpAnyH_take (i := 2) (v := _) rfl (by kernel_rfl) (by kernel_rfl) (by kernel_rfl) (fun _ _ _ h => h) (Or.inr ⟨by rfl, rfl⟩) (by assumption) ?_
                try simp only [List.getElem_toArray, List.getElem_cons_succ, List.getElem_cons_zero, Act.put, List.setIfInBounds_toArray, List.set_cons_zero, List.set_cons_succ]
                refine wpAnyH_take (i := 3) (v := _) rfl (by kernel_rfl) (by kernel_rfl) (by kernel_rfl) (fun _ _ _ h => h) (Or.inr ⟨by rfl, rfl⟩) (by assumption) ?_
                try simp only [List.getElem_toArray, List.getElem_cons_succ, List.getElem_cons_zero, Act.put, List.setIfInBounds_toArray, List.set_cons_zero, List.set_cons_succ]
                refine wpAnyH_take (i := 4) (v := _) rfl (by kernel_rfl) (by kernel_rfl) (by kernel_rfl) (fun _ _ _ h => h) (Or.inr ⟨by rfl, rfl⟩) (by assumption) ?_
                try simp only [List.getElem_toArray, List.getElem_cons_succ, List.getElem_cons_zero, Act.put, List.setIfInBounds_toArray, List.set_cons_zero, List.set_cons_succ]
                refine wpAnyH_take (i := 5) (v := _) rfl (by kernel_rfl) (by kernel_rfl) (by kernel_rfl) (fun _ _ _ h => h) (Or.inr ⟨by rfl, rfl⟩) (by assumption) ?_
                try simp only [List.getElem_toArray, List.getElem_cons_succ, List.getElem_cons_zero, Act.put, List.setIfInBounds_toArray, List.set_cons_zero, List.set_cons_succ]
                refine wpAnyH_take (i := 6) (v := _) rfl (by kernel_rfl) (by kernel_rfl) (by kernel_rfl) (fun _ _ _ h => h) (Or.inr ⟨by rfl, rfl⟩) (by assumption) ?_
                try simp only [List.getElem_toArray, List.getElem_cons_succ, List.getElem_cons_zero, Act.put, List.setIfInBounds_toArray, List.set_cons_zero, List.set_cons_succ]
                refine wpAnyH_take (i := 7) (v := _) rfl (by kernel_rfl) (by kernel_rfl) (by kernel_rfl) (fun _ _ _ h => h) (Or.inr ⟨by rfl, rfl⟩) (by assumption) ?_
                try simp only [List.getElem_toArray, List.getElem_cons_succ, List.getElem_cons_zero, Act.put, List.setIfInBounds_toArray, List.set_cons_zero, List.set_cons_succ]
                refine wpAnyH_take (i := 8) (v := _) rfl (by kernel_rfl) (by kernel_rfl) (by kernel_rfl) (fun _ _ _ h => h) (Or.inr ⟨by rfl, rfl⟩) (by assumption) ?_
                try simp only [List.getElem_toArray, List.getElem_cons_succ, List.getElem_cons_zero, Act.put, List.setIfInBounds_toArray, List.set_cons_zero, List.set_cons_succ]
                refine wpAnyH_take (i := 9) (v := _) rfl (by kernel_rfl) (by kernel_rfl) (by kernel_rfl) (fun _ _ _ h => h) (Or.inr ⟨by rfl, rfl⟩) (by assumption) ?_
                try simp only [List.getElem_toArray, List.getElem_cons_succ, List.getElem_cons_zero, Act.put, List.setIfInBounds_toArray, List.set_cons_zero, List.set_cons_succ]
                refine wpAnyH_take (i := 10) (v := _) rfl (by kernel_rfl) (by kernel_rfl) (by kernel_rfl) (fun _ _ _ h => h) (Or.inr ⟨by rfl, rfl⟩) (by assumption) ?_
                try simp only [List.getElem_toArray, List.getElem_cons_succ, List.getElem_cons_zero, Act.put, List.setIfInBounds_toArray, List.set_cons_zero, List.set_cons_succ]
                refine wpAnyH_take (i := 11) (v := _) rfl (by kernel_rfl) (by kernel_rfl) (by kernel_rfl) (fun _ _ _ h => h) (Or.inr ⟨by rfl, rfl⟩) (by assumption) ?_
                try simp only [List.getElem_toArray, List.getElem_cons_succ, List.getElem_cons_zero, Act.put, List.setIfInBounds_toArray, List.set_cons_zero, List.set_cons_succ]
                refine wpAnyH_take (i := 12) (v := _) rfl (by kernel_rfl) (by kernel_rfl) (by kernel_rfl) (fun _ _ _ h => h) (Or.inr ⟨by rfl, rfl⟩) (by assumption) ?_
                try simp only [List.getElem_toArray, List.getElem_cons_succ, List.getElem_cons_zero, Act.put, List.setIfInBounds_toArray, List.set_cons_zero, List.set_cons_succ]
                refine wpAnyH_take (i := 13) (v := _) rfl (by kernel_rfl) (by kernel_rfl) (by kernel_rfl) (fun _ _ _ h => h) (Or.inr ⟨by rfl, rfl⟩) (by assumption) ?_
                try simp only [List.getElem_toArray, List.getElem_cons_succ, List.getElem_cons_zero, Act.put, List.setIfInBounds_toArray, List.set_cons_zero, List.set_cons_succ]
                refine wpAnyH_take (i := 14) (v := _) rfl (by kernel_rfl) (by kernel_rfl) (by kernel_rfl) (fun _ _ _ h => h) (Or.inr ⟨by rfl, rfl⟩) (by assumption) ?_
                try simp only [List.getElem_toArray, List.getElem_cons_succ, List.getElem_cons_zero, Act.put, List.setIfInBounds_toArray, List.set_cons_zero, List.set_cons_succ]
                refine wpAnyH_take (i := 15) (v := ?_) rfl (by kernel_rfl) (by kernel_rfl) (by kernel_rfl) (fun _ _ _ h => h) (Or.inl ⟨by rfl, fun w hSw => ?_⟩) (by assumption) ?_
                rotate_left
                · (try dsimp only at hSw); go_simp; (try with_reducible rfl)
                try simp only [List.getElem_toArray, List.getElem_cons_succ, List.getElem_cons_zero, Act.put, List.setIfInBounds_toArray, List.set_cons_zero, List.set_cons_succ]
                refine wpAnyH_take (i := 16) (v := ?_) rfl (by kernel_rfl) (by kernel_rfl) (by kernel_rfl) (fun _ _ _ h => h) (Or.inl ⟨by rfl, fun w hSw => ?_⟩) (by assumption) ?_
                rotate_left
                · (try dsimp only at hSw); go_simp; (try with_reducible rfl)
                try simp only [List.getElem_toArray, List.getElem_cons_succ, List.getElem_cons_zero, Act.put, List.setIfInBounds_toArray, List.set_cons_zero, List.set_cons_succ]
                refine wpAnyH_take (i := 17) (v := _) rfl (by kernel_rfl) (by kernel_rfl) (by kernel_rfl) (fun _ _ _ h => h) (Or.inr ⟨by rfl, rfl⟩) (by assumption) ?_
                try simp only [List.getElem_toArray, List.getElem_cons_succ, List.getElem_cons_zero, Act.put, List.setIfInBounds_toArray, List.set_cons_zero, List.set_cons_succ]
                refine wpAnyH_take (i := 18) (v := _) rfl (by kernel_rfl) (by kernel_rfl) (by kernel_rfl) (fun _ _ _ h => h) (Or.inr ⟨by rfl, rfl⟩) (by assumption) ?_
                try simp only [List.getElem_toArray, List.getElem_cons_succ, List.getElem_cons_zero, Act.put, List.setIfInBounds_toArray, List.set_cons_zero, List.set_cons_succ]
                refine wpAnyH_take (i := 19) (v := _) rfl (by kernel_rfl) (by kernel_rfl) (by kernel_rfl) (fun _ _ _ h => h) (Or.inr ⟨by rfl, rfl⟩) (by assumption) ?_
                try simp only [List.getElem_toArray, List.getElem_cons_succ, List.getElem_cons_zero, Act.put, List.setIfInBounds_toArray, List.set_cons_zero, List.set_cons_succ]
                refine wpAnyH_take (i := 20) (v := _) rfl (by kernel_rfl) (by kernel_rfl) (by kernel_rfl) (fun _ _ _ h => h) (Or.inr ⟨by rfl, rfl⟩) (by assumption) ?_
                try simp only [List.getElem_toArray, List.getElem_cons_succ, List.getElem_cons_zero, Act.put, List.setIfInBounds_toArray, List.set_cons_zero, List.set_cons_succ]
                refine wpAnyH_take (i := 21) (v := _) rfl (by kernel_rfl) (by kernel_rfl) (by kernel_rfl) (fun _ _ _ h => h) (Or.inr ⟨by rfl, rfl⟩) (by assumption) ?_
                try simp only [List.getElem_toArray, List.getElem_cons_succ, List.getElem_cons_zero, Act.put, List.setIfInBounds_toArray, List.set_cons_zero, List.set_cons_succ]
                refine wpAnyH_take (i := 22) (v := _) rfl (by kernel_rfl) (by kernel_rfl) (by kernel_rfl) (fun _ _ _ h => h) (Or.inr ⟨by rfl, rfl⟩) (by assumption) ?_
                try simp only [List.getElem_toArray, List.getElem_cons_succ, List.getElem_cons_zero, Act.put, List.setIfInBounds_toArray, List.set_cons_zero, List.set_cons_succ]
                refine wpAnyH_take (i := 23) (v := _) rfl (by kernel_rfl) (by kernel_rfl) (by kernel_rfl) (fun _ _ _ h => h) (Or.inr ⟨by rfl, rfl⟩) (by assumption) ?_
                try simp only [List.getElem_toArray, List.getElem_cons_succ, List.getElem_cons_zero, Act.put, List.setIfInBounds_toArray, List.set_cons_zero, List.set_cons_succ]
                refine wpAnyH_take (i := 24) (v := _) rfl (by kernel_rfl) (by kernel_rfl) (by kernel_rfl) (fun _ _ _ h => h) (Or.inr ⟨by rfl, rfl⟩) (by assumption) ?_
                try simp only [List.getElem_toArray, List.getElem_cons_succ, List.getElem_cons_zero, Act.put, List.setIfInBounds_toArray, List.set_cons_zero, List.set_cons_succ]
                refine wpAnyH_take (i := 25) (v := _) rfl (by kernel_rfl) (by kernel_rfl) (by kernel_rfl) (fun _ _ _ h => h) (Or.inr ⟨by rfl, rfl⟩) (by assumption) ?_
                try simp only [List.getElem_toArray, List.getElem_cons_succ, List.getElem_cons_zero, Act.put, List.setIfInBounds_toArray, List.set_cons_zero, List.set_cons_succ]
                refine wpAnyH_take (i := 26) (v := _) rfl (by kernel_rfl) (by kernel_rfl) (by kernel_rfl) (fun _ _ _ h => h) (Or.inr ⟨by rfl, rfl⟩) (by assumption) ?_
                try simp only [List.getElem_toArray, List.getElem_cons_succ, List.getElem_cons_zero, Act.put, List.setIfInBounds_toArray, List.set_cons_zero, List.set_cons_succ]
                refine wpAnyH_take (i := 27) (v := _) rfl (by kernel_rfl) (by kernel_rfl) (by kernel_rfl) (fun _ _ _ h => h) (Or.inr ⟨by rfl, rfl⟩) (by assumption) ?_
                try simp only [List.getElem_toArray, List.getElem_cons_succ, List.getElem_cons_zero, Act.put, List.setIfInBounds_toArray, List.set_cons_zero, List.set_cons_succ]
                refine wpAnyH_take (i := 28) (v := _) rfl (by kernel_rfl) (by kernel_rfl) (by kernel_rfl) (fun _ _ _ h => h) (Or.inr ⟨by rfl, rfl⟩) (by assumption) ?_
                try simp only [List.getElem_toArray, List.getElem_cons_succ, List.getElem_cons_zero, Act.put, List.setIfInBounds_toArray, List.set_cons_zero, List.set_cons_succ]
                refine wpAnyH_take (i := 29) (v := _) rfl (by kernel_rfl) (by kernel_rfl) (by kernel_rfl) (fun _ _ _ h => h) (Or.inr ⟨by rfl, rfl⟩) (by assumption) ?_
                try simp only [List.getElem_toArray, List.getElem_cons_succ, List.getElem_cons_zero, Act.put, List.setIfInBounds_toArray, List.set_cons_zero, List.set_cons_succ]
                refine wpAnyH_take (i := 30) (v := ?_) rfl (by kernel_rfl) (by kernel_rfl) (by kernel_rfl) (fun _ _ _ h => h) (Or.inl ⟨by rfl, fun w hSw => ?_⟩) (by assumption) ?_
                rotate_left
                · (try dsimp only at hSw); go_simp; (try with_reducible rfl)
                try simp only [List.getElem_toArray, List.getElem_cons_succ, List.getElem_cons_zero, Act.put, List.setIfInBounds_toArray, List.set_cons_zero, List.set_cons_succ]
                refine wpAnyH_take (i := 31) (v := ?_) rfl (by kernel_rfl) (by kernel_rfl) (by kernel_rfl) (fun _ _ _ h => h) (Or.inl ⟨by rfl, fun w hSw => ?_⟩) (by assumption) ?_
                rotate_left
                · (try dsimp only at hSw); go_simp; (try with_reducible rfl)
                try simp only [List.getElem_toArray, List.getElem_cons_succ, List.getElem_cons_zero, Act.put, List.setIfInBounds_toArray, List.set_cons_zero, List.set_cons_succ]
                refine wpAnyH_done (by kernel_rfl) ?_ _
                go_wp2_with fail
                go_roundw
                case rel => exact ⟨k + 1, by omega, by go_num, by rw [HST.out]; rfl, HX0⟩
                case measure => simp [intOf]; omega
              | true =>
                obtain ⟨cc, hcc⟩ : ∃ cc, cc = sameC (cellOf xa s) (cellOf xb s) := ⟨_, rfl⟩
                obtain ⟨ll, hll⟩ : ∃ ll, ll = decide (logOf xa s = logOf xb s) := ⟨_, rfl⟩
                have HCC := Lib.hid hcc
                have HLL := Lib.hid hll
                rw [← hcc, ← hll] at HGS
                clear hcc hll
                cases cc with
                | false =>
                  go_wp2_with fail
                  refine wp_region_held_drew (S := (fun w' => w'.cell? ⟨BK, offk + k, none⟩ = some (.string (str s)))) (by kernel_rfl) (HSK.out _ HX0.out) (fun hHeld => ?_)
                  generalize wr.drew = Y0 at HX0 hHeld ⊢
                  refine wpAnyH_take (i := 0) (v := ?_) rfl (by kernel_rfl) (by kernel_rfl) (by kernel_rfl) (fun _ _ _ h => h) (Or.inl ⟨by rfl, fun w hSw => ?_⟩) (by assumption) ?_
                  rotate_left
                  · (try dsimp only at hSw); go_simp; (try with_reducible rfl)
                  try simp only [List.getElem_toArray, List.getElem_cons_succ, List.getElem_cons_zero, Act.put, List.setIfInBounds_toArray, List.set_cons_zero, List.set_cons_succ]
                  refine wpAnyH_take (i := 1) (v := ?_) rfl (by kernel_rfl) (by kernel_rfl) (by kernel_rfl) (fun _ _ _ h => h) (Or.inl ⟨by rfl, fun w hSw => ?_⟩) (by assumption) ?_
                  rotate_left
                  · (try dsimp only at hSw); go_simp; (try with_reducible rfl)
                  try simp only [List.getElem_toArray, List.getElem_cons_succ, List.getElem_cons_zero, Act.put, List.setIfInBounds_toArray, List.set_cons_zero, List.set_cons_succ]
                  refine wpAnyH_take (i := 2) (v := ?_) rfl (by kernel_rfl) (by kernel_rfl) (by kernel_rfl) (fun _ _ _ h => h) (Or.inl ⟨by rfl, fun w hSw => ?_⟩) (by assumption) ?_
                  rotate_left
                  · (try dsimp only at hSw); go_simp; (try with_reducible rfl)
                  try simp only [List.getElem_toArray, List.getElem_cons_succ, List.getElem_cons_zero, Act.put, List.setIfInBounds_toArray, List.set_cons_zero, List.set_cons_succ]
                  refine wpAnyH_take (i := 3) (v := ?_) rfl (by kernel_rfl) (by kernel_rfl) (by kernel_rfl) (fun _ _ _ h => h) (Or.inl ⟨by rfl, fun w hSw => ?_⟩) (by assumption) ?_
                  rotate_left
                  · (try dsimp only at hSw); go_simp; (try with_reducible rfl)
                  try simp only [List.getElem_toArray, List.getElem_cons_succ, List.getElem_cons_zero, Act.put, List.setIfInBounds_toArray, List.set_cons_zero, List.set_cons_succ]
                  refine wpAnyH_take (i := 4) (v := ?_) rfl (by kernel_rfl) (by kernel_rfl) (by kernel_rfl) (fun _ _ _ h => h) (Or.inl ⟨by rfl, fun w hSw => ?_⟩) (by assumption) ?_
                  rotate_left
                  · (try dsimp only at hSw); go_simp; (try with_reducible rfl)
                  try simp only [List.getElem_toArray, List.getElem_cons_succ, List.getElem_cons_zero, Act.put, List.setIfInBounds_toArray, List.set_cons_zero, List.set_cons_succ]
                  refine wpAnyH_take (i := 5) (v := ?_) rfl (by kernel_rfl) (by kernel_rfl) (by kernel_rfl) (fun _ _ _ h => h) (Or.inl ⟨by rfl, fun w hSw => ?_⟩) (by assumption) ?_
                  rotate_left
                  · (try dsimp only at hSw); go_simp; (try with_reducible rfl)
                  try simp only [List.getElem_toArray, List.getElem_cons_succ, List.getElem_cons_zero, Act.put, List.setIfInBounds_toArray, List.set_cons_zero, List.set_cons_succ]
                  refine wpAnyH_take (i := 6) (v := ?_) rfl (by kernel_rfl) (by kernel_rfl) (by kernel_rfl) (fun _ _ _ h => h) (Or.inl ⟨by rfl, fun w hSw => ?_⟩) (by assumption) ?_
                  rotate_left
                  · (try dsimp only at hSw); go_simp; (try with_reducible rfl)
                  try simp only [List.getElem_toArray, List.getElem_cons_succ, List.getElem_cons_zero, Act.put, List.setIfInBounds_toArray, List.set_cons_zero, List.set_cons_succ]
                  refine wpAnyH_take (i := 8) (v := ?_) rfl (by kernel_rfl) (by kernel_rfl) (by kernel_rfl) (fun _ _ _ h => h) (Or.inl ⟨by rfl, fun w hSw => ?_⟩) (by assumption) ?_
                  rotate_left
                  · (try dsimp only at hSw); go_simp; (try with_reducible rfl)
                  try simp only [List.getElem_toArray, List.getElem_cons_succ, List.getElem_cons_zero, Act.put, List.setIfInBounds_toArray, List.set_cons_zero, List.set_cons_succ]
                  refine wpAnyH_take (i := 9) (v := ?_) rfl (by kernel_rfl) (by kernel_rfl) (by kernel_rfl) (fun _ _ _ h => h) (Or.inl ⟨by rfl, fun w hSw => ?_⟩) (by assumption) ?_
                  rotate_left
                  · (try dsimp only at hSw); go_simp; (try with_reducible rfl)
                  try simp only [List.getElem_toArray, List.getElem_cons_succ, List.getElem_cons_zero, Act.put, List.setIfInBounds_toArray, List.set_cons_zero, List.set_cons_succ]
                  refine wpAnyH_take (i := 10) (v := ?_) rfl (by kernel_rfl) (by kernel_rfl) (by kernel_rfl) (fun _ _ _ h => h) (Or.inl ⟨by rfl, fun w hSw => ?_⟩) (by assumption) ?_
                  rotate_left
                  · (try dsimp only at hSw); go_simp; (try with_reducible rfl)
                  try simp only [List.getElem_toArray, List.getElem_cons_succ, List.getElem_cons_zero, Act.put, List.setIfInBounds_toArray, List.set_cons_zero, List.set_cons_succ]
                  refine wpAnyH_take (i := 11) (v := ?_) rfl (by kernel_rfl) (by kernel_rfl) (by kernel_rfl) (fun _ _ _ h => h) (Or.inl ⟨by rfl, fun w hSw => ?_⟩) (by assumption) ?_
                  rotate_left
                  · (try dsimp only at hSw); go_simp; (try with_reducible rfl)
                  try simp only [List.getElem_toArray, List.getElem_cons_succ, List.getElem_cons_zero, Act.put, List.setIfInBounds_toArray, List.set_cons_zero, List.set_cons_succ]
                  refine wpAnyH_take (i := 12) (v := ?_) rfl (by kernel_rfl) (by kernel_rfl) (by kernel_rfl) (fun _ _ _ h => h) (Or.inl ⟨by rfl, fun w hSw => ?_⟩) (by assumption) ?_
                  rotate_left
                  · (try dsimp only at hSw); go_simp; (try with_reducible rfl)
                  try simp only [List.getElem_toArray, List.getElem_cons_succ, List.getElem_cons_zero, Act.put, List.setIfInBounds_toArray, List.set_cons_zero, List.set_cons_succ]
                  refine wpAnyH_ready (rs := [7]) (by kernel_rfl) (by simp) ?_
                  refine AllReadyH.cons rfl (fun K hK => ?_) ?_
                  rotate_left
                  · exact AllReadyH.nil
                  go_simp
                  (go_at_call 21; (with_reducible refine (CCA.out _ s HX0.out).mono ?_); rintro E Y1 ⟨f1, t1, rfl, hf, hb⟩; have F1 := Lib.hid hf; have HX1 := Lib.hid (HX0.out.trans (hb.mono HX0.out.size)); clear hf hb)
                  refine hK.out _ _ ?_ (fun hHeld => ?_)
                  · exact HSK.out _ HX1.out
                  clear hK K
                  try simp only [List.getElem_toArray, List.getElem_cons_succ, List.getElem_cons_zero, Act.put, List.setIfInBounds_toArray, List.set_cons_zero, List.set_cons_succ]
                  refine wpAnyH_ready (rs := [13]) (by kernel_rfl) (by simp) ?_
                  refine AllReadyH.cons rfl (fun K hK => ?_) ?_
                  rotate_left
                  · exact AllReadyH.nil
                  go_simp
                  (go_at_call 21; (with_reducible refine (CCB.out _ s HX1.out).mono ?_); rintro E Y2 ⟨f2, t2, rfl, hf, hb⟩; have HX2 := Lib.hid (HX1.out.trans (hb.mono HX1.out.size)); have CSM : Hid (∀ X, Calls Try.prog 20 #[.agg #[.bool f1, .float .f64 t1], .agg #[.bool f2, .float .f64 t2]] X (RetBelow (.bool false) X)) := Lib.hid (fun X => (rcsame (f1, t1) (f2, t2) X F1.out.lt hf.lt).mono fun E w' h => by rw [same_fit F1.out hf, ← HCC.out] at h; exact h); clear hf hb)
                  refine hK.out _ _ ?_ (fun hHeld => ?_)
                  · exact HSK.out _ HX2.out
                  clear hK K
                  try simp only [List.getElem_toArray, List.getElem_cons_succ, List.getElem_cons_zero, Act.put, List.setIfInBounds_toArray, List.set_cons_zero, List.set_cons_succ]
                  refine wpAnyH_ready (rs := [14]) (by kernel_rfl) (by simp) ?_
                  refine AllReadyH.cons rfl (fun K hK => ?_) ?_
                  rotate_left
                  · exact AllReadyH.nil
                  go_simp
                  (go_at_call 20; (with_reducible refine (CSM.out _).mono ?_); rintro E Y3 ⟨rfl, hb⟩; have HX3 := Lib.hid (HX2.out.trans (hb.mono HX2.out.size)); clear hb)
                  refine hK.out _ _ ?_ (fun hHeld => ?_)
                  · exact HSK.out _ HX3.out
                  clear hK K
                  try simp only [List.getElem_toArray, List.getElem_cons_succ, List.getElem_cons_zero, Act.put, List.setIfInBounds_toArray, List.set_cons_zero, List.set_cons_succ]
                  refine wpAnyH_take (i := 15) (v := ?_) rfl (by kernel_rfl) (by kernel_rfl) (by kernel_rfl) (fun _ _ _ h => h) (Or.inl ⟨by rfl, fun w hSw => ?_⟩) (by assumption) ?_
                  rotate_left
                  · (try dsimp only at hSw); go_simp; (try with_reducible rfl)
                  try simp only [List.getElem_toArray, List.getElem_cons_succ, List.getElem_cons_zero, Act.put, List.setIfInBounds_toArray, List.set_cons_zero, List.set_cons_succ]
                  refine wpAnyH_take (i := 16) (v := ?_) rfl (by kernel_rfl) (by kernel_rfl) (by kernel_rfl) (fun _ _ _ h => h) (Or.inl ⟨by rfl, fun w hSw => ?_⟩) (by assumption) ?_
                  rotate_left
                  · (try dsimp only at hSw); go_simp; (try with_reducible rfl)
                  try simp only [List.getElem_toArray, List.getElem_cons_succ, List.getElem_cons_zero, Act.put, List.setIfInBounds_toArray, List.set_cons_zero, List.set_cons_succ]
                  refine wpAnyH_take (i := 17) (v := _) rfl (by kernel_rfl) (by kernel_rfl) (by kernel_rfl) (fun _ _ _ h => h) (Or.inr ⟨by rfl, rfl⟩) (by assumption) ?_
                  try simp only [List.getElem_toArray, List.getElem_cons_succ, List.getElem_cons_zero, Act.put, List.setIfInBounds_toArray, List.set_cons_zero, List.set_cons_succ]
                  refine wpAnyH_take (i := 18) (v := _) rfl (by kernel_rfl) (by kernel_rfl) (by kernel_rfl) (fun _ _ _ h => h) (Or.inr ⟨by rfl, rfl⟩) (by assumption) ?_
                  try simp only [List.getElem_toArray, List.getElem_cons_succ, List.getElem_cons_zero, Act.put, List.setIfInBounds_toArray, List.set_cons_zero, List.set_cons_succ]
                  refine wpAnyH_take (i := 19) (v := _) rfl (by kernel_rfl) (by kernel_rfl) (by kernel_rfl) (fun _ _ _ h => h) (Or.inr ⟨by rfl, rfl⟩) (by assumption) ?_
                  try simp only [List.getElem_toArray, List.getElem_cons_succ, List.getElem_cons_zero, Act.put, List.setIfInBounds_toArray, List.set_cons_zero, List.set_cons_succ]
                  refine wpAnyH_take (i := 20) (v := _) rfl (by kernel_rfl) (by kernel_rfl) (by kernel_rfl) (fun _ _ _ h => h) (Or.inr ⟨by rfl, rfl⟩) (by assumption) ?_
                  try simp only [List.getElem_toArray, List.getElem_cons_succ, List.getElem_cons_zero, Act.put, List.setIfInBounds_toArray, List.set_cons_zero, List.set_cons_succ]
                  refine wpAnyH_take (i := 21) (v := _) rfl (by kernel_rfl) (by kernel_rfl) (by kernel_rfl) (fun _ _ _ h => h) (Or.inr ⟨by rfl, rfl⟩) (by assumption) ?_
                  try simp only [List.getElem_toArray, List.getElem_cons_succ, List.getElem_cons_zero, Act.put, List.setIfInBounds_toArray, List.set_cons_zero, List.set_cons_succ]
                  refine wpAnyH_take (i := 22) (v := _) rfl (by kernel_rfl) (by kernel_rfl) (by kernel_rfl) (fun _ _ _ h => h) (Or.inr ⟨by rfl, rfl⟩) (by assumption) ?_
                  try simp only [List.getElem_toArray, List.getElem_cons_succ, List.getElem_cons_zero, Act.put, List.setIfInBounds_toArray, List.set_cons_zero, List.set_cons_succ]
                  refine wpAnyH_take (i := 23) (v := _) rfl (by kernel_rfl) (by kernel_rfl) (by kernel_rfl) (fun _ _ _ h => h) (Or.inr ⟨by rfl, rfl⟩) (by assumption) ?_
                  try simp only [List.getElem_toArray, List.getElem_cons_succ, List.getElem_cons_zero, Act.put, List.setIfInBounds_toArray, List.set_cons_zero, List.set_cons_succ]
                  refine wpAnyH_take (i := 24) (v := _) rfl (by kernel_rfl) (by kernel_rfl) (by kernel_rfl) (fun _ _ _ h => h) (Or.inr ⟨by rfl, rfl⟩) (by assumption) ?_
                  try simp only [List.getElem_toArray, List.getElem_cons_succ, List.getElem_cons_zero, Act.put, List.setIfInBounds_toArray, List.set_cons_zero, List.set_cons_succ]
                  refine wpAnyH_take (i := 25) (v := _) rfl (by kernel_rfl) (by kernel_rfl) (by kernel_rfl) (fun _ _ _ h => h) (Or.inr ⟨by rfl, rfl⟩) (by assumption) ?_
                  try simp only [List.getElem_toArray, List.getElem_cons_succ, List.getElem_cons_zero, Act.put, List.setIfInBounds_toArray, List.set_cons_zero, List.set_cons_succ]
                  refine wpAnyH_take (i := 26) (v := _) rfl (by kernel_rfl) (by kernel_rfl) (by kernel_rfl) (fun _ _ _ h => h) (Or.inr ⟨by rfl, rfl⟩) (by assumption) ?_
                  try simp only [List.getElem_toArray, List.getElem_cons_succ, List.getElem_cons_zero, Act.put, List.setIfInBounds_toArray, List.set_cons_zero, List.set_cons_succ]
                  refine wpAnyH_take (i := 27) (v := _) rfl (by kernel_rfl) (by kernel_rfl) (by kernel_rfl) (fun _ _ _ h => h) (Or.inr ⟨by rfl, rfl⟩) (by assumption) ?_
                  try simp only [List.getElem_toArray, List.getElem_cons_succ, List.getElem_cons_zero, Act.put, List.setIfInBounds_toArray, List.set_cons_zero, List.set_cons_succ]
                  refine wpAnyH_take (i := 28) (v := _) rfl (by kernel_rfl) (by kernel_rfl) (by kernel_rfl) (fun _ _ _ h => h) (Or.inr ⟨by rfl, rfl⟩) (by assumption) ?_
                  try simp only [List.getElem_toArray, List.getElem_cons_succ, List.getElem_cons_zero, Act.put, List.setIfInBounds_toArray, List.set_cons_zero, List.set_cons_succ]
                  refine wpAnyH_take (i := 29) (v := _) rfl (by kernel_rfl) (by kernel_rfl) (by kernel_rfl) (fun _ _ _ h => h) (Or.inr ⟨by rfl, rfl⟩) (by assumption) ?_
                  try simp only [List.getElem_toArray, List.getElem_cons_succ, List.getElem_cons_zero, Act.put, List.setIfInBounds_toArray, List.set_cons_zero, List.set_cons_succ]
                  refine wpAnyH_take (i := 30) (v := ?_) rfl (by kernel_rfl) (by kernel_rfl) (by kernel_rfl) (fun _ _ _ h => h) (Or.inl ⟨by rfl, fun w hSw => ?_⟩) (by assumption) ?_
                  rotate_left
                  · (try dsimp only at hSw); go_simp; (try with_reducible rfl)
                  try simp only [List.getElem_toArray, List.getElem_cons_succ, List.getElem_cons_zero, Act.put, List.setIfInBounds_toArray, List.set_cons_zero, List.set_cons_succ]
                  refine wpAnyH_take (i := 31) (v := ?_) rfl (by kernel_rfl) (by kernel_rfl) (by kernel_rfl) (fun _ _ _ h => h) (Or.inl ⟨by rfl, fun w hSw => ?_⟩) (by assumption) ?_
                  rotate_left
                  · (try dsimp only at hSw); go_simp; (try with_reducible rfl)
                  try simp only [List.getElem_toArray, List.getElem_cons_succ, List.getElem_cons_zero, Act.put, List.setIfInBounds_toArray, List.set_cons_zero, List.set_cons_succ]
                  refine wpAnyH_done (by kernel_rfl) ?_ _
                  go_wp2_with fail
                  go_roundw
                  case rel => exact ⟨k + 1, by omega, by go_num, by rw [HST.out, HGS.out]; rfl, HX3⟩
                  case measure => simp [intOf]; omega
                | true =>
                  go_wp2_with fail
                  refine wp_region_held_drew (S := (fun w' => w'.cell? ⟨BK, offk + k, none⟩ = some (.string (str s)))) (by kernel_rfl) (HSK.out _ HX0.out) (fun hHeld => ?_)
                  generalize wr.drew = Y0 at HX0 hHeld ⊢
                  refine wpAnyH_take (i := 0) (v := ?_) rfl (by kernel_rfl) (by kernel_rfl) (by kernel_rfl) (fun _ _ _ h => h) (Or.inl ⟨by rfl, fun w hSw => ?_⟩) (by assumption) ?_
                  rotate_left
                  · (try dsimp only at hSw); go_simp; (try with_reducible rfl)
                  try simp only [List.getElem_toArray, List.getElem_cons_succ, List.getElem_cons_zero, Act.put, List.setIfInBounds_toArray, List.set_cons_zero, List.set_cons_succ]
                  refine wpAnyH_take (i := 1) (v := ?_) rfl (by kernel_rfl) (by kernel_rfl) (by kernel_rfl) (fun _ _ _ h => h) (Or.inl ⟨by rfl, fun w hSw => ?_⟩) (by assumption) ?_
                  rotate_left
                  · (try dsimp only at hSw); go_simp; (try with_reducible rfl)
                  try simp only [List.getElem_toArray, List.getElem_cons_succ, List.getElem_cons_zero, Act.put, List.setIfInBounds_toArray, List.set_cons_zero, List.set_cons_succ]
                  refine wpAnyH_take (i := 2) (v := ?_) rfl (by kernel_rfl) (by kernel_rfl) (by kernel_rfl) (fun _ _ _ h => h) (Or.inl ⟨by rfl, fun w hSw => ?_⟩) (by assumption) ?_
                  rotate_left
                  · (try dsimp only at hSw); go_simp; (try with_reducible rfl)
                  try simp only [List.getElem_toArray, List.getElem_cons_succ, List.getElem_cons_zero, Act.put, List.setIfInBounds_toArray, List.set_cons_zero, List.set_cons_succ]
                  refine wpAnyH_take (i := 3) (v := ?_) rfl (by kernel_rfl) (by kernel_rfl) (by kernel_rfl) (fun _ _ _ h => h) (Or.inl ⟨by rfl, fun w hSw => ?_⟩) (by assumption) ?_
                  rotate_left
                  · (try dsimp only at hSw); go_simp; (try with_reducible rfl)
                  try simp only [List.getElem_toArray, List.getElem_cons_succ, List.getElem_cons_zero, Act.put, List.setIfInBounds_toArray, List.set_cons_zero, List.set_cons_succ]
                  refine wpAnyH_take (i := 4) (v := ?_) rfl (by kernel_rfl) (by kernel_rfl) (by kernel_rfl) (fun _ _ _ h => h) (Or.inl ⟨by rfl, fun w hSw => ?_⟩) (by assumption) ?_
                  rotate_left
                  · (try dsimp only at hSw); go_simp; (try with_reducible rfl)
                  try simp only [List.getElem_toArray, List.getElem_cons_succ, List.getElem_cons_zero, Act.put, List.setIfInBounds_toArray, List.set_cons_zero, List.set_cons_succ]
                  refine wpAnyH_take (i := 5) (v := ?_) rfl (by kernel_rfl) (by kernel_rfl) (by kernel_rfl) (fun _ _ _ h => h) (Or.inl ⟨by rfl, fun w hSw => ?_⟩) (by assumption) ?_
                  rotate_left
                  · (try dsimp only at hSw); go_simp; (try with_reducible rfl)
                  try simp only [List.getElem_toArray, List.getElem_cons_succ, List.getElem_cons_zero, Act.put, List.setIfInBounds_toArray, List.set_cons_zero, List.set_cons_succ]
                  refine wpAnyH_take (i := 6) (v := ?_) rfl (by kernel_rfl) (by kernel_rfl) (by kernel_rfl) (fun _ _ _ h => h) (Or.inl ⟨by rfl, fun w hSw => ?_⟩) (by assumption) ?_
                  rotate_left
                  · (try dsimp only at hSw); go_simp; (try with_reducible rfl)
                  try simp only [List.getElem_toArray, List.getElem_cons_succ, List.getElem_cons_zero, Act.put, List.setIfInBounds_toArray, List.set_cons_zero, List.set_cons_succ]
                  refine wpAnyH_take (i := 8) (v := ?_) rfl (by kernel_rfl) (by kernel_rfl) (by kernel_rfl) (fun _ _ _ h => h) (Or.inl ⟨by rfl, fun w hSw => ?_⟩) (by assumption) ?_
                  rotate_left
                  · (try dsimp only at hSw); go_simp; (try with_reducible rfl)
                  try simp only [List.getElem_toArray, List.getElem_cons_succ, List.getElem_cons_zero, Act.put, List.setIfInBounds_toArray, List.set_cons_zero, List.set_cons_succ]
                  refine wpAnyH_take (i := 9) (v := ?_) rfl (by kernel_rfl) (by kernel_rfl) (by kernel_rfl) (fun _ _ _ h => h) (Or.inl ⟨by rfl, fun w hSw => ?_⟩) (by assumption) ?_
                  rotate_left
                  · (try dsimp only at hSw); go_simp; (try with_reducible rfl)
                  try simp only [List.getElem_toArray, List.getElem_cons_succ, List.getElem_cons_zero, Act.put, List.setIfInBounds_toArray, List.set_cons_zero, List.set_cons_succ]
                  refine wpAnyH_take (i := 10) (v := ?_) rfl (by kernel_rfl) (by kernel_rfl) (by kernel_rfl) (fun _ _ _ h => h) (Or.inl ⟨by rfl, fun w hSw => ?_⟩) (by assumption) ?_
                  rotate_left
                  · (try dsimp only at hSw); go_simp; (try with_reducible rfl)
                  try simp only [List.getElem_toArray, List.getElem_cons_succ, List.getElem_cons_zero, Act.put, List.setIfInBounds_toArray, List.set_cons_zero, List.set_cons_succ]
                  refine wpAnyH_take (i := 11) (v := ?_) rfl (by kernel_rfl) (by kernel_rfl) (by kernel_rfl) (fun _ _ _ h => h) (Or.inl ⟨by rfl, fun w hSw => ?_⟩) (by assumption) ?_
                  rotate_left
                  · (try dsimp only at hSw); go_simp; (try with_reducible rfl)
                  try simp only [List.getElem_toArray, List.getElem_cons_succ, List.getElem_cons_zero, Act.put, List.setIfInBounds_toArray, List.set_cons_zero, List.set_cons_succ]
                  refine wpAnyH_take (i := 12) (v := ?_) rfl (by kernel_rfl) (by kernel_rfl) (by kernel_rfl) (fun _ _ _ h => h) (Or.inl ⟨by rfl, fun w hSw => ?_⟩) (by assumption) ?_
                  rotate_left
                  · (try dsimp only at hSw); go_simp; (try with_reducible rfl)
                  try simp only [List.getElem_toArray, List.getElem_cons_succ, List.getElem_cons_zero, Act.put, List.setIfInBounds_toArray, List.set_cons_zero, List.set_cons_succ]
                  refine wpAnyH_ready (rs := [7]) (by kernel_rfl) (by simp) ?_
                  refine AllReadyH.cons rfl (fun K hK => ?_) ?_
                  rotate_left
                  · exact AllReadyH.nil
                  go_simp
                  (go_at_call 21; (with_reducible refine (CCA.out _ s HX0.out).mono ?_); rintro E Y1 ⟨f1, t1, rfl, hf, hb⟩; have F1 := Lib.hid hf; have HX1 := Lib.hid (HX0.out.trans (hb.mono HX0.out.size)); clear hf hb)
                  refine hK.out _ _ ?_ (fun hHeld => ?_)
                  · exact HSK.out _ HX1.out
                  clear hK K
                  try simp only [List.getElem_toArray, List.getElem_cons_succ, List.getElem_cons_zero, Act.put, List.setIfInBounds_toArray, List.set_cons_zero, List.set_cons_succ]
                  refine wpAnyH_ready (rs := [13]) (by kernel_rfl) (by simp) ?_
                  refine AllReadyH.cons rfl (fun K hK => ?_) ?_
                  rotate_left
                  · exact AllReadyH.nil
                  go_simp
                  (go_at_call 21; (with_reducible refine (CCB.out _ s HX1.out).mono ?_); rintro E Y2 ⟨f2, t2, rfl, hf, hb⟩; have HX2 := Lib.hid (HX1.out.trans (hb.mono HX1.out.size)); have CSM : Hid (∀ X, Calls Try.prog 20 #[.agg #[.bool f1, .float .f64 t1], .agg #[.bool f2, .float .f64 t2]] X (RetBelow (.bool true) X)) := Lib.hid (fun X => (rcsame (f1, t1) (f2, t2) X F1.out.lt hf.lt).mono fun E w' h => by rw [same_fit F1.out hf, ← HCC.out] at h; exact h); clear hf hb)
                  refine hK.out _ _ ?_ (fun hHeld => ?_)
                  · exact HSK.out _ HX2.out
                  clear hK K
                  try simp only [List.getElem_toArray, List.getElem_cons_succ, List.getElem_cons_zero, Act.put, List.setIfInBounds_toArray, List.set_cons_zero, List.set_cons_succ]
                  refine wpAnyH_ready (rs := [14]) (by kernel_rfl) (by simp) ?_
                  refine AllReadyH.cons rfl (fun K hK => ?_) ?_
                  rotate_left
                  · exact AllReadyH.nil
                  go_simp
                  (go_at_call 20; (with_reducible refine (CSM.out _).mono ?_); rintro E Y3 ⟨rfl, hb⟩; have HX3 := Lib.hid (HX2.out.trans (hb.mono HX2.out.size)); clear hb)
                  refine hK.out _ _ ?_ (fun hHeld => ?_)
                  · exact HSK.out _ HX3.out
                  clear hK K
                  try simp only [List.getElem_toArray, List.getElem_cons_succ, List.getElem_cons_zero, Act.put, List.setIfInBounds_toArray, List.set_cons_zero, List.set_cons_succ]
                  refine wpAnyH_take (i := 15) (v := ?_) rfl (by kernel_rfl) (by kernel_rfl) (by kernel_rfl) (fun _ _ _ h => h) (Or.inl ⟨by rfl, fun w hSw => ?_⟩) (by assumption) ?_
                  rotate_left
                  · (try dsimp only at hSw); go_simp; (try with_reducible rfl)
                  try simp only [List.getElem_toArray, List.getElem_cons_succ, List.getElem_cons_zero, Act.put, List.setIfInBounds_toArray, List.set_cons_zero, List.set_cons_succ]
                  refine wpAnyH_take (i := 16) (v := ?_) rfl (by kernel_rfl) (by kernel_rfl) (by kernel_rfl) (fun _ _ _ h => h) (Or.inl ⟨by rfl, fun w hSw => ?_⟩) (by assumption) ?_
                  rotate_left
                  · (try dsimp only at hSw); go_simp; (try with_reducible rfl)
                  try simp only [List.getElem_toArray, List.getElem_cons_succ, List.getElem_cons_zero, Act.put, List.setIfInBounds_toArray, List.set_cons_zero, List.set_cons_succ]
                  refine wpAnyH_take (i := 17) (v := ?_) rfl (by kernel_rfl) (by kernel_rfl) (by kernel_rfl) (fun _ _ _ h => h) (Or.inl ⟨by rfl, fun w hSw => ?_⟩) (by assumption) ?_
                  rotate_left
                  · (try dsimp only at hSw); go_simp; (try with_reducible rfl)
                  try simp only [List.getElem_toArray, List.getElem_cons_succ, List.getElem_cons_zero, Act.put, List.setIfInBounds_toArray, List.set_cons_zero, List.set_cons_succ]
                  refine wpAnyH_take (i := 18) (v := ?_) rfl (by kernel_rfl) (by kernel_rfl) (by kernel_rfl) (fun _ _ _ h => h) (Or.inl ⟨by rfl, fun w hSw => ?_⟩) (by assumption) ?_
                  rotate_left
                  · (try dsimp only at hSw); go_simp; (try with_reducible rfl)
                  try simp only [List.getElem_toArray, List.getElem_cons_succ, List.getElem_cons_zero, Act.put, List.setIfInBounds_toArray, List.set_cons_zero, List.set_cons_succ]
                  refine wpAnyH_take (i := 19) (v := ?_) rfl (by kernel_rfl) (by kernel_rfl) (by kernel_rfl) (fun _ _ _ h => h) (Or.inl ⟨by rfl, fun w hSw => ?_⟩) (by assumption) ?_
                  rotate_left
                  · (try dsimp only at hSw); go_simp; (try with_reducible rfl)
                  try simp only [List.getElem_toArray, List.getElem_cons_succ, List.getElem_cons_zero, Act.put, List.setIfInBounds_toArray, List.set_cons_zero, List.set_cons_succ]
                  refine wpAnyH_take (i := 20) (v := ?_) rfl (by kernel_rfl) (by kernel_rfl) (by kernel_rfl) (fun _ _ _ h => h) (Or.inl ⟨by rfl, fun w hSw => ?_⟩) (by assumption) ?_
                  rotate_left
                  · (try dsimp only at hSw); go_simp; (try with_reducible rfl)
                  try simp only [List.getElem_toArray, List.getElem_cons_succ, List.getElem_cons_zero, Act.put, List.setIfInBounds_toArray, List.set_cons_zero, List.set_cons_succ]
                  refine wpAnyH_take (i := 21) (v := ?_) rfl (by kernel_rfl) (by kernel_rfl) (by kernel_rfl) (fun _ _ _ h => h) (Or.inl ⟨by rfl, fun w hSw => ?_⟩) (by assumption) ?_
                  rotate_left
                  · (try dsimp only at hSw); go_simp; (try with_reducible rfl)
                  try simp only [List.getElem_toArray, List.getElem_cons_succ, List.getElem_cons_zero, Act.put, List.setIfInBounds_toArray, List.set_cons_zero, List.set_cons_succ]
                  refine wpAnyH_take (i := 23) (v := ?_) rfl (by kernel_rfl) (by kernel_rfl) (by kernel_rfl) (fun _ _ _ h => h) (Or.inl ⟨by rfl, fun w hSw => ?_⟩) (by assumption) ?_
                  rotate_left
                  · (try dsimp only at hSw); go_simp; (try with_reducible rfl)
                  try simp only [List.getElem_toArray, List.getElem_cons_succ, List.getElem_cons_zero, Act.put, List.setIfInBounds_toArray, List.set_cons_zero, List.set_cons_succ]
                  refine wpAnyH_take (i := 24) (v := ?_) rfl (by kernel_rfl) (by kernel_rfl) (by kernel_rfl) (fun _ _ _ h => h) (Or.inl ⟨by rfl, fun w hSw => ?_⟩) (by assumption) ?_
                  rotate_left
                  · (try dsimp only at hSw); go_simp; (try with_reducible rfl)
                  try simp only [List.getElem_toArray, List.getElem_cons_succ, List.getElem_cons_zero, Act.put, List.setIfInBounds_toArray, List.set_cons_zero, List.set_cons_succ]
                  refine wpAnyH_take (i := 25) (v := ?_) rfl (by kernel_rfl) (by kernel_rfl) (by kernel_rfl) (fun _ _ _ h => h) (Or.inl ⟨by rfl, fun w hSw => ?_⟩) (by assumption) ?_
                  rotate_left
                  · (try dsimp only at hSw); go_simp; (try with_reducible rfl)
                  try simp only [List.getElem_toArray, List.getElem_cons_succ, List.getElem_cons_zero, Act.put, List.setIfInBounds_toArray, List.set_cons_zero, List.set_cons_succ]
                  refine wpAnyH_take (i := 26) (v := ?_) rfl (by kernel_rfl) (by kernel_rfl) (by kernel_rfl) (fun _ _ _ h => h) (Or.inl ⟨by rfl, fun w hSw => ?_⟩) (by assumption) ?_
                  rotate_left
                  · (try dsimp only at hSw); go_simp; (try with_reducible rfl)
                  try simp only [List.getElem_toArray, List.getElem_cons_succ, List.getElem_cons_zero, Act.put, List.setIfInBounds_toArray, List.set_cons_zero, List.set_cons_succ]
                  refine wpAnyH_take (i := 27) (v := ?_) rfl (by kernel_rfl) (by kernel_rfl) (by kernel_rfl) (fun _ _ _ h => h) (Or.inl ⟨by rfl, fun w hSw => ?_⟩) (by assumption) ?_
                  rotate_left
                  · (try dsimp only at hSw); go_simp; (try with_reducible rfl)
                  try simp only [List.getElem_toArray, List.getElem_cons_succ, List.getElem_cons_zero, Act.put, List.setIfInBounds_toArray, List.set_cons_zero, List.set_cons_succ]
                  refine wpAnyH_ready (rs := [22]) (by kernel_rfl) (by simp) ?_
                  refine AllReadyH.cons rfl (fun K hK => ?_) ?_
                  rotate_left
                  · exact AllReadyH.nil
                  go_simp
                  (go_at_call 23; (with_reducible refine (CLA.out _ s HX3.out).mono ?_); rintro E Y4 ⟨l4, rfl, hr4, hb⟩; have R4 := Lib.hid hr4; have HX4 := Lib.hid (HX3.out.trans (hb.mono HX3.out.size)); clear hr4 hb)
                  refine hK.out _ _ ?_ (fun hHeld => ?_)
                  · exact HSK.out _ HX4.out
                  clear hK K
                  try simp only [List.getElem_toArray, List.getElem_cons_succ, List.getElem_cons_zero, Act.put, List.setIfInBounds_toArray, List.set_cons_zero, List.set_cons_succ]
                  refine wpAnyH_ready (rs := [28]) (by kernel_rfl) (by simp) ?_
                  refine AllReadyH.cons rfl (fun K hK => ?_) ?_
                  rotate_left
                  · exact AllReadyH.nil
                  go_simp
                  (go_at_call 23; (with_reducible refine (CLB.out _ s HX4.out).mono ?_); rintro E Y5 ⟨l5, rfl, hr5, hb⟩; have CSL : Hid (Calls Try.prog 22 #[l4, l5] Y5 (RetBelow (.bool ll) Y5)) := Lib.hid (by rw [HLL.out]; exact slog_any l4 l5 _ _ Y5 (R4.out.on hb) hr5); have HX5 := Lib.hid (HX4.out.trans (hb.mono HX4.out.size)); clear hr5 hb)
                  refine hK.out _ _ ?_ (fun hHeld => ?_)
                  · exact HSK.out _ HX5.out
                  clear hK K
                  try simp only [List.getElem_toArray, List.getElem_cons_succ, List.getElem_cons_zero, Act.put, List.setIfInBounds_toArray, List.set_cons_zero, List.set_cons_succ]
                  refine wpAnyH_ready (rs := [29]) (by kernel_rfl) (by simp) ?_
                  refine AllReadyH.cons rfl (fun K hK => ?_) ?_
                  rotate_left
                  · exact AllReadyH.nil
                  go_simp
                  (go_at_call 22; (with_reducible refine CSL.out.mono ?_); rintro E Y6 ⟨rfl, hb⟩; have HX6 := Lib.hid (HX5.out.trans (hb.mono HX5.out.size)); clear hb)
                  refine hK.out _ _ ?_ (fun hHeld => ?_)
                  · exact HSK.out _ HX6.out
                  clear hK K
                  try simp only [List.getElem_toArray, List.getElem_cons_succ, List.getElem_cons_zero, Act.put, List.setIfInBounds_toArray, List.set_cons_zero, List.set_cons_succ]
                  refine wpAnyH_take (i := 30) (v := ?_) rfl (by kernel_rfl) (by kernel_rfl) (by kernel_rfl) (fun _ _ _ h => h) (Or.inl ⟨by rfl, fun w hSw => ?_⟩) (by assumption) ?_
                  rotate_left
                  · (try dsimp only at hSw); go_simp; (try with_reducible rfl)
                  try simp only [List.getElem_toArray, List.getElem_cons_succ, List.getElem_cons_zero, Act.put, List.setIfInBounds_toArray, List.set_cons_zero, List.set_cons_succ]
                  refine wpAnyH_take (i := 31) (v := ?_) rfl (by kernel_rfl) (by kernel_rfl) (by kernel_rfl) (fun _ _ _ h => h) (Or.inl ⟨by rfl, fun w hSw => ?_⟩) (by assumption) ?_
                  rotate_left
                  · (try dsimp only at hSw); go_simp; (try with_reducible rfl)
                  try simp only [List.getElem_toArray, List.getElem_cons_succ, List.getElem_cons_zero, Act.put, List.setIfInBounds_toArray, List.set_cons_zero, List.set_cons_succ]
                  refine wpAnyH_done (by kernel_rfl) ?_ _
                  go_wp2_with fail
                  go_roundw
                  case rel => exact ⟨k + 1, by omega, by go_num, by rw [HST.out, HGS.out]; rfl, HX6⟩
                  case measure => simp [intOf]; omega
            · obtain rfl : k = nz := by omega
              have kkn : ¬ (k : Int) < k := by omega
              have HEND : Hid ((zs.take k).all (goodS xa xb) = (eqC (cellOf xa) (cellOf xb) && eqL (logOf xa) (logOf xb))) := Lib.hid (by rw [← HALL.out, HNZ.out, List.take_length])
              rw [HEND.out]
              have BTX : Hid (Bt w.heap.size w G1 G2 g1 g2 (cellOf xa) (cellOf xb) (logOf xa) (logOf xb) (16 * n) (16 * i) ca cnt wr) := Lib.hid ((BT.out.on HC3.out).on HX.out)
              have HCM : Hid ((eqC (cellOf xb) (cellOf xa) && eqL (logOf xb) (logOf xa)) = (eqC (cellOf xa) (cellOf xb) && eqL (logOf xa) (logOf xb))) := Lib.hid (by rw [eqC_comm, eqL_comm])
              have CS1 : Hid (Calls Try.prog 14 #[.pointer (some ⟨g1, 0, none⟩), .pointer (some ⟨g2, 0, none⟩)] wr (RetBelow (.bool (eqC (cellOf xa) (cellOf xb) && eqL (logOf xa) (logOf xb))) wr)) := Lib.hid (vsame_any BTX.out.v1 BTX.out.v2)
              have CS2 : Hid (∀ X, Below wr.heap.size wr X → Calls Try.prog 14 #[.pointer (some ⟨g2, 0, none⟩), .pointer (some ⟨g1, 0, none⟩)] X (RetBelow (.bool (eqC (cellOf xa) (cellOf xb) && eqL (logOf xa) (logOf xb))) X)) := Lib.hid fun X hb => by rw [← HCM.out]; exact vsame_any (BTX.out.on hb).v2 (BTX.out.on hb).v1
              have HWX2 : Hid (Below w.heap.size w wr) := Lib.hid BTX.out.below
              have HZX : Hid (w.heap.size ≤ wr.heap.size) := Lib.hid BTX.out.size
              generalize (eqC (cellOf xa) (cellOf xb) && eqL (logOf xa) (logOf xb)) = rr at CS1 CS2 ⊢
              clear hkd HEND HCM HALL
              cases rr
              all_goals
                go_wp2_with (first
                  | (go_at_call 14; ((with_reducible refine CS1.out.mono ?_); rintro E y1 ⟨rfl, hb⟩; have Y1 := Lib.hid hb; have CS3 := Lib.hid (CS2.out y1 Y1.out); clear hb))
                  | (go_at_call 14; ((with_reducible refine CS3.out.mono ?_); rintro E y2 ⟨rfl, hb⟩; have Y2 := Lib.hid (Y1.out.trans (hb.mono Y1.out.size)); clear hb))
                  | (go_at_call 6; (with_reducible refine (CP.out _).mono ?_); rintro E y3 ⟨rfl, hb⟩; have Y3 := Lib.hid (Y2.out.trans (hb.mono Y2.out.size)); clear hb))
                go_ret
                exact ⟨rfl, HWX2.out.trans (Y3.out.mono HZX.out)⟩
end Go.Proofs.Ytacgmhnalbbgbaa.Vau
