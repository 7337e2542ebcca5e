/- Plain facts and memory facts for link (layer 15, edges): whose Deps have an id; a map of lists in which one list grows by one. Conditions: those in each statement. -/
import Derived.Test.YtnekajpoheipiaaGreatGrbT
import Derived.Test.YtnekajpoheipiaaGreatGrbD
import Derived.Deep.QuietTactic
import Derived.BigQuiet
namespace Go.Proofs.YtnekajpoheipiaaGreat.Gra
open Go.RowKit Cmd Bat Ids Rec Wid Mpg Itr Go.Maps
set_option linter.unusedVariables false
set_option linter.unusedSimpArgs false

/-! ### Plain: whose Deps have an id -/
def Ul (rs : List Rcd) (L : List Idn) (k : Nat) (x : Idn) : List Idn := (L.take k).filter fun i => decide (x ∈ dpG rs i)
def Uj (rs : List Rcd) (L : List Idn) (k j : Nat) (x : Idn) : List Idn := Ul rs L k x ++ if x ∈ (dpG rs (nth L k)).take j then [nth L k] else []
theorem uj_zero (rs : List Rcd) (L : List Idn) (k : Nat) : Uj rs L k 0 = Ul rs L k := by funext x; unfold Uj; simp
theorem nth_get {L : List Idn} {k : Nat} (h : k < L.length) : nth L k = L[k] := by unfold nth; rw [List.getD_eq_getElem?_getD, List.getElem?_eq_getElem h]; rfl
theorem uj_all {rs : List Rcd} {L : List Idn} {k j : Nat} (hk : k < L.length) (hj : (dpG rs (nth L k)).length ≤ j) : Uj rs L k j = Ul rs L (k + 1) := by
  funext x
  unfold Uj Ul
  rw [List.take_of_length_le hj, List.take_succ_eq_append_getElem hk, List.filter_append, nth_get hk]
  congr 1
  by_cases hm : x ∈ dpG rs L[k]
  · rw [if_pos hm]; simp [hm]
  · rw [if_neg hm]; simp [hm]
theorem uj_step {rs : List Rcd} {L : List Idn} {k j : Nat} (hn : (dpG rs (nth L k)).Nodup) (hj : j < (dpG rs (nth L k)).length) (x : Idn) :
    Uj rs L k (j + 1) x = if x = nth (dpG rs (nth L k)) j then Uj rs L k j x ++ [nth L k] else Uj rs L k j x := by
  have e : (dpG rs (nth L k)).take (j + 1) = (dpG rs (nth L k)).take j ++ [nth (dpG rs (nth L k)) j] := by rw [List.take_succ_eq_append_getElem hj, nth_get hj]
  have hno : nth (dpG rs (nth L k)) j ∉ (dpG rs (nth L k)).take j := by
    rw [nth_get hj]
    intro hm
    obtain ⟨i, hi, hie⟩ := List.getElem_of_mem hm
    rw [List.length_take] at hi
    rw [List.getElem_take] at hie
    have hi2 : i < (dpG rs (nth L k)).length := by omega
    have h2 := (List.getElem?_inj hi2 hn (j := j)).1 (by rw [List.getElem?_eq_getElem hi2, List.getElem?_eq_getElem hj, hie])
    omega
  unfold Uj
  rw [e]
  by_cases hx : x = nth (dpG rs (nth L k)) j
  · rw [if_pos hx, hx, if_neg hno, if_pos (by simp)]; simp
  · rw [if_neg hx]
    congr 1
    by_cases hm : x ∈ (dpG rs (nth L k)).take j
    · rw [if_pos hm, if_pos (List.mem_append_left _ hm)]
    · rw [if_neg hm, if_neg (by rw [List.mem_append, List.mem_singleton]; exact fun h => h.elim hm hx)]
theorem ul_users {rs : List Rcd} (hd : (idsG rs).Nodup) {k : Nat} (hk : (gIds rs).length ≤ k) : Ul rs (gIds rs) k = gUsers rs := by
  funext x
  unfold Ul gUsers
  rw [List.take_of_length_le hk]
  refine rise_eq (List.Pairwise.filter _ (srt_rise _)) (srt_rise _) fun i => ?_
  rw [List.mem_filter, srt_mem]
  unfold gIds usersL
  rw [srt_mem]
  constructor
  · rintro ⟨h1, h2⟩
    obtain ⟨r, hr, rfl⟩ := List.mem_map.1 h1
    rw [dp_of hd hr] at h2
    exact List.mem_map.2 ⟨r, List.mem_filter.2 ⟨hr, h2⟩, rfl⟩
  · intro h
    obtain ⟨r, hr, rfl⟩ := List.mem_map.1 h
    obtain ⟨h1, h2⟩ := List.mem_filter.1 hr
    exact ⟨List.mem_map.2 ⟨r, h1, rfl⟩, by rw [dp_of hd h1]; exact h2⟩
theorem deps_ok {x : Idn} {ds : List Idn} (h : depsErr x ds = 0) : ∀ j, j < ds.length → depErr x ds j = 0 := by
  cases hf : (List.range ds.length).find? (fun j => decide (depErr x ds j ≠ 0)) with
  | some k =>
    unfold depsErr at h
    rw [hf] at h
    rw [List.find?_range_eq_some] at hf
    exact absurd h (of_decide_eq_true hf.1)
  | none =>
    rw [List.find?_eq_none] at hf
    intro j hj
    have := hf j (List.mem_range.2 hj)
    exact Classical.byContradiction fun hn => this (decide_eq_true hn)
/-- The Deps of a record that may be rise, and are sixteen at most. -/
theorem one_ok {a b q : Int} {ds : List Idn} {cs : List Cmdn} (h : oneErr ((a, b), q, ds, cs) = 0) : Rise ds ∧ ds.length ≤ 16 := by
  unfold oneErr rErr at h
  simp only at h
  split at h
  · rename_i e; exact absurd h e
  · split at h
    · rename_i e; exact absurd h e
    · split at h
      · rename_i e; exact absurd h e
      · split at h
        · rename_i e; exact absurd h e
        · rename_i e3 e4
          have e3 : cntErr ds.length = 0 := Classical.byContradiction e3
          have e4 : depsErr (a, b) ds = 0 := Classical.byContradiction e4
          constructor
          · rw [← rises_rise, rises_iff]
            intro j hj
            have := deps_ok e4 (j + 1) hj
            unfold depErr at this
            split at this
            · rename_i e; exact absurd this e
            · split at this
              · cases this
              · split at this
                · cases this
                · rename_i e
                  cases hl : idLt (nth ds j) (nth ds (j + 1)) with
                  | true => rfl
                  | false => exact absurd ⟨Nat.succ_pos j, hl⟩ e
          · unfold cntErr at e3
            split at e3
            · cases e3
            · omega
theorem rise_nodup {l : List Idn} (h : Rise l) : l.Nodup := by
  refine List.Pairwise.imp (fun {a b} hab e => ?_) h
  subst e
  rw [lt_irr] at hab; cases hab
theorem lot_ok {rs : List Rcd} (h : gErr rs = 0) {r : Rcd} (hr : r ∈ rs) : Rise r.2.2.1 ∧ r.2.2.1.length ≤ 16 := by
  obtain ⟨j, hj, e⟩ := (Lay.mem (L := layG)).1 hr
  have := (gerr_at h hj).1
  rw [e] at this
  obtain ⟨⟨a, b⟩, q, ds, cs⟩ := r
  exact one_ok this

/-! ### In memory -/
/-- Some blocks are as they were. -/
def Sm (ks : List Nat) (A B : World) : Prop := ∀ k ∈ ks, B.heap[k]? = A.heap[k]?
theorem Sm.refl (ks : List Nat) (A : World) : Sm ks A A := fun _ _ => rfl
theorem Sm.trans {ks : List Nat} {A B C : World} (h : Sm ks A B) (k : Sm ks B C) : Sm ks A C := fun i hi => (k i hi).trans (h i hi)
theorem Sm.grown {ks : List Nat} {A B : World} {row : Option Nat} (h : A.grownBy B row) (hl : ∀ k ∈ ks, k < A.heap.size) (hr : ∀ k ∈ ks, some k ≠ row) : Sm ks A B := fun k hk => h.block k (hl k hk) (hr k hk)
set_option maxRecDepth 100000 in
/-- A row of ids of the call's own grows by one. -/
theorem grow_ids (w : World) (ty : TypeId) (base : Nat) (v : Value) (zs : List Idn) (hv : Owns w base v zs) (hb : base ≤ w.heap.size) (eb : Nat) (x y : Int) (he : w.heap[eb]? = some (.cells #[.int .i64 x, .int .i64 y] 25 (0, 0))) (hl : zs.length + 1 ≤ 1000000) :
    ∃ v' w', (Builtin.append_ #[23, 23] ty #[v, .slice (some ⟨eb, 0, none⟩) 1 1]).run Tryz.prog w = .ok v' w' ∧ Owns w' base v' (zs ++ [(x, y)]) ∧ w.grownBy w' v.ownBlock ∧ (v'.ownBlock = v.ownBlock ∨ v'.ownBlock = some w.heap.size) := by
  obtain ⟨i0, hi, hz0, hz1, hz2⟩ := info_parts info_id
  have hc : ∀ j u, [Value.int .i64 x, Value.int .i64 y][j]? = some u → w.cell? ((⟨eb, 0, none⟩ : Addr).add j) = some u := fun j u hu => by
    rw [Bat.add_lit]
    match j, hu with
    | 0, hu => injection hu with hu; subst hu; exact cell_row he rfl
    | 1, hu => injection hu with hu; subst hu; exact cell_row he rfl
    | j + 2, hu => simp at hu
  obtain ⟨v', w', hr, r1, r2, -, r3⟩ := run_append_own_at (P := Tryz.prog) (w := w) base 23 ty 25 i0 (.agg #[.int .i64 0, .int .i64 0]) 2 16 Tryz.underlying23 hi hz0 hz1 hz2 rfl (by decide) v zs.length (flat zs) hv ⟨eb, 0, none⟩ 1 1 [.int .i64 x, .int .i64 y] rfl hc (by simp [Value.oneCell']) (by unfold maxLen; omega) (by omega) hb
  exact ⟨v', w', hr, Owns.snoc r1, r2, r3⟩
set_option maxRecDepth 100000 in
theorem step_ids {ops : Array Oper} {o : Oper} {a : Act} {w : World} {K : Act → World → Prop} {Q : Exit → Act → World → Prop} {E : Prop}
    (hw : Region.wanted o (yielded ops a.tmps) = true) (s x : Operand) (ho : o.op = .call { callee := .builtin .append, args := #[s, x], argTypes := #[23, 23] })
    (base : Nat) (v : Value) (zs : List Idn) (hs : a.eval s = v) (hv : Owns w base v zs) (hb : base ≤ w.heap.size) (eb : Nat) (y z : Int) (hx : a.eval x = .slice (some ⟨eb, 0, none⟩) 1 1) (he : w.heap[eb]? = some (.cells #[.int .i64 y, .int .i64 z] 25 (0, 0))) (hl : zs.length + 1 ≤ 1000000)
    (hK : ∀ v' w', Hid (Owns w' base v' (zs ++ [(y, z)])) → Hid (w.grownBy w' v.ownBlock) → Hid (v'.ownBlock = v.ownBlock ∨ v'.ownBlock = some w.heap.size) → K (a.put o.dst v') w') : if Region.wanted o (yielded ops a.tmps) = true then Oper.wp Tryz.prog o a w K Q else E := by
  rw [if_pos hw]
  obtain ⟨v', w', hr, r1, r2, r3⟩ := grow_ids w o.type base v zs hv hb eb y z he hl
  unfold Oper.wp
  simp [execOp, ho, resolve, invoke, builtin, hs, hx, hr, Result.andThen]
  exact hK v' w' (Lib.hid r1) (Lib.hid r2) (Lib.hid r3)
end Go.Proofs.YtnekajpoheipiaaGreat.Gra

/- What link's rounds leave in memory (layer 15, edges). Conditions: those in each statement. -/
namespace Go.Proofs.YtnekajpoheipiaaGreat.Gra
open Go.RowKit Cmd Bat Ids Rec Wid Mpg Itr Go.Maps Go.ChangeMaps
set_option linter.unusedVariables false
set_option linter.unusedSimpArgs false

/-- Between two rounds of link's outer loop. -/
structure LkO (w1 : World) (mu K : Nat) (U : Idn → List Idn) (h : Idn → Option Value) (X : World) : Prop where
  um : MapG kyI X mu K h
  uf : Uf X w1.heap.size U h
  link : w1.grownBy X (some mu)
  mlt : mu < w1.heap.size
/-- Between two rounds of its inner loop: the id lies in a box. -/
structure LkI (w1 : World) (mu b3 : Nat) (x y : Int) (K : Nat) (U : Idn → List Idn) (h : Idn → Option Value) (X : World) : Prop where
  o : LkO w1 mu K U h X
  box : X.heap[b3]? = some (.cells #[.int .i64 x, .int .i64 y] 25 (0, 0))
  far : ∀ d v, h d = some v → v.ownBlock ≠ some b3
  ge : w1.heap.size ≤ b3
/-- The entry of d is there, and may be stored into. -/
structure LkM (w1 : World) (mu b3 : Nat) (x y : Int) (K : Nat) (U : Idn → List Idn) (h : Idn → Option Value) (d : Idn) (st : Int) (X : World) : Prop where
  uf : Uf X w1.heap.size U h
  link : w1.grownBy X (some mu)
  mlt : mu < w1.heap.size
  box : X.heap[b3]? = some (.cells #[.int .i64 x, .int .i64 y] 25 (0, 0))
  far : ∀ d v, h d = some v → v.ownBlock ≠ some b3
  ge : w1.heap.size ≤ b3
  ism : ∃ es c, X.heap[mu]? = some (.map es c)
  ent : ∀ (X2 : World) (v : Value), X2.heap[mu]? = X.heap[mu]? → ∃ X3, (Instr.entryStore 51 (.map (some mu)) (.int .i64 st) v).run Tryz.prog X2 = .ok () X3 ∧ MapG kyI X3 mu (K + 1) (setF h d (some v)) ∧ X2.mapTurned X3 mu
section
variable {w1 : World} {mu b3 : Nat} {x y : Int} {K : Nat} {U : Idn → List Idn} {h : Idn → Option Value} {d : Idn} {st : Int} {X X' : World}
theorem LkO.on (L : LkO w1 mu K U h X) (hb : Below X.heap.size X X') : LkO w1 mu K U h X' := ⟨L.um.on hb, L.uf.keep (keeps_below hb), grown_two L.link (grown_low mu hb), L.mlt⟩
theorem LkO.mono {K' : Nat} (L : LkO w1 mu K U h X) (hk : K ≤ K') : LkO w1 mu K' U h X := ⟨L.um.mono hk, L.uf, L.link, L.mlt⟩
theorem uf_lt {base : Nat} (u : Uf X base U h) {d : Idn} {v : Value} {k : Nat} (hv : h d = some v) (hk : v.ownBlock = some k) : base ≤ k ∧ k < X.heap.size := World.ownsRow.lt (u.yes d v hv).1 k hk
theorem LkO.box (L : LkO w1 mu K U h X) (x y : Int) : LkI w1 mu X.heap.size x y K U h (X.alloc (.cells #[.int .i64 x, .int .i64 y] 25)) :=
  ⟨L.on (Cmd.below_one _ _), heap_alloc_new X _, fun d v hv e => by have := (uf_lt L.uf hv e).2; omega, L.link.size⟩
theorem LkI.on (L : LkI w1 mu b3 x y K U h X) (hb : Below X.heap.size X X') : LkI w1 mu b3 x y K U h X' := ⟨L.o.on hb, keeps_below hb _ _ _ L.box, L.far, L.ge⟩
theorem LkM.on (L : LkM w1 mu b3 x y K U h d st X) (hb : Below X.heap.size X X') : LkM w1 mu b3 x y K U h d st X' := by
  have hmu : X'.heap[mu]? = X.heap[mu]? := by obtain ⟨es, c, e⟩ := L.ism; exact hb.block mu (Array.getElem?_eq_some_iff.1 e).1
  exact ⟨L.uf.keep (keeps_below hb), grown_two L.link (grown_low mu hb), L.mlt, keeps_below hb _ _ _ L.box, L.far, L.ge, by obtain ⟨es, c, e⟩ := L.ism; exact ⟨es, c, hmu.trans e⟩, fun X2 v e => L.ent X2 v (e.trans hmu)⟩
theorem zero_ids (w : World) : (zeroValue 23).run Tryz.prog w = .ok (.slice none 0 0) w := by kernel_rfl
theorem LkI.entry (L : LkI w1 mu b3 x y K U h X) (hK : K ≤ 1000000) (d1 d2 : Int) (hd : wfId (d1, d2)) :
    ∃ st X2, (Instr.mapEntry 51 (.map (some mu)) (.agg #[.int .i64 d1, .int .i64 d2])).run Tryz.prog X = .ok (.tuple #[(h (d1, d2)).getD (.slice none 0 0), .int .i64 st]) X2 ∧ LkM w1 mu b3 x y K U h (d1, d2) st X2 ∧ X.mapTurned X2 mu := by
  obtain ⟨st, X2, h1, h2, h3⟩ := L.o.um.entry klaw_id Tryz.underlying51 zero_ids hK (x := (d1, d2)) hd
  have kk := keeps_turn h2
  exact ⟨st, X2, h1, ⟨L.o.uf.keep kk, grown_two L.o.link h2.grown, L.o.mlt, kk _ _ _ L.box, L.far, L.ge, by obtain ⟨es, c, es', c', e, rfl⟩ := h2; exact ⟨es', c', heap_setBlock_same e _⟩, h3⟩, h2⟩
/-- The list of d has grown, and is stored. -/
theorem LkM.put (L : LkM w1 mu b3 x y K U h d st X) {v' : Value} (ho : Owns X' w1.heap.size v' (U d ++ [(x, y)])) (hg : X.grownBy X' ((h d).getD (.slice none 0 0)).ownBlock) (hn : v'.ownBlock = ((h d).getD (.slice none 0 0)).ownBlock ∨ v'.ownBlock = some X.heap.size) :
    ∃ X4, (Instr.entryStore 51 (.map (some mu)) (.int .i64 st) v').run Tryz.prog X' = .ok () X4 ∧ LkI w1 mu b3 x y (K + 1) (fun z => if z = d then U d ++ [(x, y)] else U z) (setF h d (some v')) X4 ∧ X'.mapTurned X4 mu := by
  obtain ⟨v, hv⟩ : ∃ v, v = (h d).getD (.slice none 0 0) := ⟨_, rfl⟩
  rw [← hv] at hg hn
  have hblk : ∀ k, v.ownBlock = some k → h d = some v ∧ w1.heap.size ≤ k ∧ k < X.heap.size ∧ k ≠ mu ∧ k ≠ b3 := fun k hk => by
    cases hd : h d with
    | none => rw [hd] at hv; rw [hv] at hk; cases hk
    | some u =>
      rw [hd] at hv
      have hvu : v = u := hv
      subst hvu
      obtain ⟨h1, h2⟩ := uf_lt L.uf hd hk
      exact ⟨rfl, h1, h2, by have := L.mlt; omega, fun e => L.far d v hd (by rw [hk, e])⟩
  have b3lt : b3 < X.heap.size := (Array.getElem?_eq_some_iff.1 L.box).1
  have hb3 : X'.heap[b3]? = X.heap[b3]? := hg.block b3 b3lt (fun e => (hblk b3 e.symm).2.2.2.2 rfl)
  have mult : mu < X.heap.size := Nat.lt_of_lt_of_le L.mlt L.link.size
  have hmu : X'.heap[mu]? = X.heap[mu]? := hg.block mu mult (fun e => (hblk mu e.symm).2.2.2.1 rfl)
  obtain ⟨X4, h1, h2, h3⟩ := L.ent X' v' hmu
  have kk := keeps_turn h3
  have hne : mu ≠ b3 := by have := L.mlt; have := L.ge; omega
  have hfar : ∀ z u, z ≠ d → h z = some u → Owns X4 w1.heap.size u (U z) := fun z u hz hu => by
    refine owns_keep ?_ kk
    have ho' := (L.uf.yes z u hu).1
    refine ⟨ho'.1, ho'.2.imp id fun ⟨g, cap, cur, e1, e2, e3, e4⟩ => ⟨g, cap, cur, e1, e2, ?_, e4⟩⟩
    refine (hg.block g (Array.getElem?_eq_some_iff.1 e3).1 (fun e => ?_)).trans e3
    have hd := (hblk g e.symm).1
    exact hz (L.uf.apart z d u v g hu hd (by rw [e1]; rfl) e.symm)
  have hap : ∀ z u k, z ≠ d → h z = some u → u.ownBlock = some k → v'.ownBlock = some k → False := fun z u k hz hu hk hk' => by
    rcases hn with e | e
    · rw [hk'] at e
      exact hz (L.uf.apart z d u v k hu (hblk k e.symm).1 hk e.symm)
    · rw [hk'] at e
      have := (uf_lt L.uf hu hk).2
      have := Option.some.inj e
      omega
  refine ⟨X4, h1, ⟨⟨h2, ⟨fun z hz => ?_, fun z u hu => ?_, fun z1 z2 u1 u2 k h1 h2 k1 k2 => ?_⟩, ?_, L.mlt⟩, kk _ _ _ (hb3.trans L.box), fun z u hu => ?_, L.ge⟩, h3⟩
  · by_cases e : z = d
    · rw [e, setF_same] at hz; cases hz
    · rw [setF_other h _ e] at hz; rw [if_neg e]; exact L.uf.no z hz
  · by_cases e : z = d
    · rw [e, setF_same] at hu; cases hu
      rw [if_pos e]
      exact ⟨owns_keep ho kk, by simp⟩
    · rw [setF_other h _ e] at hu; rw [if_neg e]; exact ⟨hfar z u e hu, (L.uf.yes z u hu).2⟩
  · by_cases e1 : z1 = d
    · by_cases e2 : z2 = d
      · rw [e1, e2]
      · rw [e1, setF_same] at h1; cases h1
        rw [setF_other h _ e2] at h2
        exact (hap z2 u2 k e2 h2 k2 k1).elim
    · by_cases e2 : z2 = d
      · rw [e2, setF_same] at h2; cases h2
        rw [setF_other h _ e1] at h1
        exact (hap z1 u1 k e1 h1 k1 k2).elim
      · rw [setF_other h _ e1] at h1
        rw [setF_other h _ e2] at h2
        exact L.uf.apart z1 z2 u1 u2 k h1 h2 k1 k2
  · have g4 := h3.grown
    refine ⟨g4.os.trans (hg.os.trans L.link.os), g4.tape.trans (hg.tape.trans L.link.tape), g4.output.trans (hg.output.trans L.link.output), Nat.le_trans L.link.size (Nat.le_trans hg.size g4.size), fun i hi hr => ?_⟩
    have hiX := Nat.lt_of_lt_of_le hi L.link.size
    exact (g4.block i (Nat.lt_of_lt_of_le hiX hg.size) hr).trans ((hg.block i hiX (fun e => by have := (hblk i e.symm).2.1; omega)).trans (L.link.block i hi hr))
  · by_cases e : z = d
    · rw [e, setF_same] at hu; cases hu
      intro e2
      rcases hn with e3 | e3
      · rw [e2] at e3; exact (hblk b3 e3.symm).2.2.2.2 rfl
      · rw [e2] at e3; have := Option.some.inj e3; omega
    · rw [setF_other h _ e] at hu; exact L.far z u hu
end
end Go.Proofs.YtnekajpoheipiaaGreat.Gra

/- What the developers' link gives (layer 15, edges): each Dep's users, in order. Conditions: those in each statement; SortIs: what ident.Sorted gives. (Written by tools/gen_grbm.py.) -/
namespace Go.Proofs.YtnekajpoheipiaaGreat.Gra
open Go.RowKit Cmd Bat Ids Rec Wid Mpg Itr Go.Maps
set_option linter.unusedVariables false
set_option linter.unusedSimpArgs false

theorem f_deps (a b q : Int) (v u : Value) (W : World) : (Instr.field 45 (.agg #[.int .i64 a, .int .i64 b, .int .i64 q, v, u]) 2).run Tryz.prog W = .ok v W := by kernel_rfl
theorem cell_link {A B : World} {m : Nat} {es : Array MapEntry} {c : Nat} (hg : A.grownBy B (some m)) (hm : A.heap[m]? = some (.map es c)) {a : Addr} {v : Value} (h : A.cell? a = some v) : B.cell? a = some v := by
  obtain ⟨o, ho, hw⟩ := not_walk_of_cell h
  have hb := hg.block a.block (Array.getElem?_eq_some_iff.1 ho).1 (fun e => by
    have := Option.some.inj e
    rw [this, hm] at ho
    cases ho; cases hw)
  unfold World.cell? at *
  rw [hb]; exact h
theorem LkM.own {w1 : World} {mu b3 : Nat} {x y : Int} {K : Nat} {U : Idn → List Idn} {h : Idn → Option Value} {d : Idn} {st : Int} {X : World} (L : LkM w1 mu b3 x y K U h d st X) : Owns X w1.heap.size ((h d).getD (.slice none 0 0)) (U d) := by
  cases hd : h d with
  | none => rw [L.uf.no d hd]; exact World.ownsRow_nil _ _ _ _
  | some v => exact (L.uf.yes d v hd).1
theorem map_is {X : World} {b N : Nat} {f : Idn → Option Value} (M : MapG kyI X b N f) : ∃ es c, X.heap[b]? = some (.map es c) := by
  obtain ⟨D, ks, ⟨es, c, hb, _⟩, _⟩ := M
  exact ⟨es, c, hb⟩
set_option maxRecDepth 100000 in
set_option maxHeartbeats 16000000 in
theorem link_any (SO : SortIs) : LinkIs := by
  intro g mr mu N f rs W hblk M0 U0 R0 L0 err hne
  have hnd := gerr_nodup err
  obtain ⟨L, hL⟩ : ∃ L, L = gIds rs := ⟨_, rfl⟩
  obtain ⟨n, hn⟩ : ∃ n, n = L.length := ⟨_, rfl⟩
  have hn1 : n ≤ 1000 := by
    have h1 := srt_length (idsG rs)
    rw [idsG_len] at h1
    have h2 := L0.few
    rw [hn, hL]
    unfold gIds
    omega
  have M0' : MapG kyI W mr 1000 f := by
    obtain ⟨D, ks, h1, h2, h3⟩ := M0
    refine ⟨D, ks, h1, h2, ?_⟩
    have := nodup_len h2.nodup (fun x hx => (R0.has x).1 ((h2.mem x).1 hx))
    rw [idsG_len] at this
    have := L0.few
    omega
  have HI : Hid (Calls Tryz.prog 42 #[.agg #[.map (some mr)]] W fun E w' => ∃ p cap, E = .returned (.slice p n cap) ∧ (n = 0 ∨ ∃ B off, p = some ⟨B, off, none⟩ ∧ Hid (Row2 w' B off L)) ∧ Below W.heap.size W w') := Lib.hid <| by
    refine (ids_run (some mr) (gIds rs) W SO (coll_some W mr 1000 rs f M0' (by omega) R0 L0.few hnd)).mono ?_
    rintro E w' ⟨v, rfl, hr, hb⟩
    rw [← hL] at hr
    obtain ⟨p, cap, rfl, -, h2⟩ := Rec.RowAt.parts hr
    rw [hn]
    exact ⟨p, cap, rfl, h2, hb⟩
  have c0 : W.cell? ⟨g, 0, none⟩ = some (.map (some mr)) := cell_row (i := 0) hblk rfl
  have HBK := Lib.hid hblk
  have HM := Lib.hid M0'
  have HU0 := Lib.hid U0
  have HR := Lib.hid R0
  have HL0 := Lib.hid L0
  have HER := Lib.hid err
  have HND := Lib.hid hnd
  have HLL := Lib.hid hL
  have HN := Lib.hid hn
  have HNE := Lib.hid hne
  clear SO M0 M0' U0 R0 L0 err hnd hL hn hblk hne
  go_enter Tryz.func21, Tryz.ntmps21
  go_wp2_with (first
    | (go_at_call 42; (with_reducible refine HI.out.mono ?_); rintro E w1 ⟨p, cap, rfl, hdata, hb⟩; have HB1 := Lib.hid hb; have HDT := Lib.hid hdata; clear hb hdata))
  clear c0
  have HBK1 : Hid (w1.heap[g]? = some (.cells #[.map (some mr), .map (some mu)] 53 (0, 0))) := Lib.hid (keeps_below HB1.out _ _ _ HBK.out)
  have HU1 := Lib.hid (HU0.out.on HB1.out)
  have HM1 := Lib.hid (HM.out.on HB1.out)
  have HR1 := Lib.hid (HR.out.keep (keeps_below HB1.out))
  have HMUL : Hid (mu < w1.heap.size) := Lib.hid HU1.out.lt
  go_loopw [12] (fun i wr => ∃ (k : Nat) (h : Idn → Option Value), k ≤ n ∧ i = .int .i64 k ∧ Hid (LkO w1 mu (k * 16) (Ul rs L k) h wr)) (fun i _ => n - (intOf i).toNat)
  case atStart =>
    exact ⟨0, fun _ => none, Nat.zero_le _, rfl, Lib.hid ⟨HU1.out, ⟨fun x _ => by unfold Ul; simp, fun x v e => (by cases e), fun x y u v k e => (by cases e)⟩, grown_low mu (Below.refl _ _), HMUL.out⟩⟩
  case round =>
    obtain ⟨k, h, hk, rfl, hO⟩ := hrel
    by_cases hkn : k < n
    · obtain ⟨B, off, rfl, HC⟩ : ∃ B off, p = some ⟨B, off, none⟩ ∧ Hid (Row2 w1 B off L) := HDT.out.resolve_left (by omega)
      have hkl : k < L.length := by rw [← HN.out]; exact hkn
      obtain ⟨es1, cl1, hmu1⟩ := map_is HU1.out
      obtain ⟨⟨x, y⟩, hxy⟩ : ∃ z, nth L k = z := ⟨_, rfl⟩
      have e1 := cell_link hO.out.link hmu1 (HC.out.fst k hkl)
      have e2 := cell_link hO.out.link hmu1 (HC.out.snd k hkl)
      rw [hxy] at e1 e2
      have hmem : (x, y) ∈ idsG rs := by
        have : nth L k ∈ L := by rw [nth_get hkl]; exact List.getElem_mem hkl
        rw [hxy, HLL.out] at this
        exact (srt_mem _ _).1 this
      obtain ⟨r, hr, hrx⟩ := List.mem_map.1 hmem
      obtain ⟨⟨a', b'⟩, q, ds, cs⟩ := r
      have hrx : (a', b') = (x, y) := hrx
      obtain ⟨rfl, rfl⟩ : a' = x ∧ b' = y := ⟨congrArg Prod.fst hrx, congrArg Prod.snd hrx⟩
      have hdp : dpG rs (a', b') = ds := dp_of HND.out hr
      have hok := lot_ok HER.out hr
      have hwf := HL0.out.wf _ hr
      obtain ⟨v0, hf0, G, H, hv0, hG1, -⟩ := HR1.out.val _ hr
      have HIW : Hid (wfId (a', b')) := Lib.hid hwf.id
      have X0I := hO.out.box a' b'
      have hb0 := Cmd.below_one wr (.cells #[.int .i64 a', .int .i64 b'] 25)
      have mrX := ((map_far HM1.out hO.out.link HNE.out).on hb0)
      have LK : ∀ m, (Instr.lookup 48 (.map (some mr)) (.agg #[.int .i64 a', .int .i64 b']) false).run Tryz.prog ((wr.alloc (.cells #[.int .i64 a', .int .i64 b'] 25)).drewN m) = .ok (.agg #[.int .i64 a', .int .i64 b', .int .i64 q, .slice (some ⟨G, 0, none⟩) ds.length ds.length, .slice (some ⟨H, 0, none⟩) cs.length cs.length]) ((wr.alloc (.cells #[.int .i64 a', .int .i64 b'] 25)).drewN m) := fun m => by
        have := (MapG.block (w' := (wr.alloc (.cells #[.int .i64 a', .int .i64 b'] 25)).drewN m) mrX rfl).look Tryz.underlying48 zero_rec (x := (a', b')) HIW.out
        rw [hf0, hv0] at this
        exact this
      have hgX : (wr.alloc (.cells #[.int .i64 a', .int .i64 b'] 25)).heap[g]? = some (.cells #[.map (some mr), .map (some mu)] 53 (0, 0)) := keeps_below hb0 _ _ _ (keeps_map HU1.out hO.out.link _ _ _ HBK1.out)
      have g0 : (wr.alloc (.cells #[.int .i64 a', .int .i64 b'] 25)).cell? ⟨g, 0, none⟩ = some (.map (some mr)) := cell_row (i := 0) hgX rfl
      have i0 : (wr.alloc (.cells #[.int .i64 a', .int .i64 b'] 25)).cell? ⟨wr.heap.size, 0, none⟩ = some (.int .i64 a') := cell_row (i := 0) X0I.box rfl
      have i1 : (wr.alloc (.cells #[.int .i64 a', .int .i64 b'] 25)).cell? ⟨wr.heap.size, 1, none⟩ = some (.int .i64 b') := cell_row (i := 1) X0I.box rfl
      have hfd := f_deps a' b' q
      have k0 : (0 : Int) ≤ k := by omega
      have kn : (k : Int) < n := by omega
      obtain ⟨nd, hnd⟩ : ∃ nd, nd = ds.length := ⟨_, rfl⟩
      obtain ⟨nc, hnc⟩ : ∃ nc, nc = cs.length := ⟨_, rfl⟩
      rw [← hnd, ← hnc] at LK
      have HX0 := Lib.hid X0I
      have HG := Lib.hid hG1
      have HDP := Lib.hid hdp
      have HOK := Lib.hid hok
      have HDW : Hid (∀ d ∈ ds, wfId d) := Lib.hid hwf.deps
      have HDN := Lib.hid hnd
      have HXY := Lib.hid hxy
      have HKL := Lib.hid hkl
      have hnd16 : nd ≤ 16 := by rw [hnd]; exact hok.2
      clear hkl hxy hmem hr hrx hdp hok hwf hf0 hv0 hG1 hgX mrX hb0 X0I hmu1 hnd hnc
      go_wp2
      go_quiet (fail)
      clear LK g0 i0 i1 hfd e1 e2
      obtain ⟨X1, hX1⟩ : ∃ X1, X1 = (wr.alloc (.cells #[.int .i64 a', .int .i64 b'] 25)).drewN nq := ⟨_, rfl⟩
      have HX1 : Hid (LkI w1 mu wr.heap.size a' b' (k * 16) (Ul rs L k) h X1) := Lib.hid (by rw [hX1]; exact HX0.out.on (Bat.below_draws _ _))
      go_wp2
      try rw [← hX1]
      clear hX1 HX0
      obtain ⟨wO, hwO⟩ : ∃ wO, wO = wr := ⟨_, rfl⟩
      subst hwO
      go_loopw [25] (fun j wr => ∃ (jj : Nat) (h : Idn → Option Value), jj ≤ nd ∧ j = .int .i64 jj ∧ Hid (LkI w1 mu wO.heap.size a' b' (k * 16 + jj) (Uj rs L k jj) h wr)) (fun j _ => nd - (intOf j).toNat)
      case atStart =>
        exact ⟨0, h, Nat.zero_le _, rfl, Lib.hid (by rw [uj_zero]; exact HX1.out)⟩
      case round =>
        clear hO HX1
        obtain ⟨jj, h, hj, rfl, hI⟩ := hrel
        by_cases hjn : jj < nd
        · have hjl : jj < ds.length := by rw [← HDN.out]; exact hjn
          obtain ⟨⟨d1, d2⟩, hd12⟩ : ∃ z, nth ds jj = z := ⟨_, rfl⟩
          have hGr := keeps_map HU1.out hI.out.o.link _ _ _ HG.out
          obtain ⟨f1, f2⟩ := flat_at ds jj hjl
          rw [hd12] at f1 f2
          have q1 : wr.cell? ⟨G, jj * 2, none⟩ = some (.int .i64 d1) := cell_row hGr (by simpa using f1)
          have q2 : wr.cell? ⟨G, jj * 2 + 1, none⟩ = some (.int .i64 d2) := cell_row hGr (by simpa using f2)
          have HD : Hid (wfId (d1, d2)) := Lib.hid (HDW.out _ (by rw [← hd12, nth_get hjl]; exact List.getElem_mem hjl))
          have j0 : (0 : Int) ≤ jj := by omega
          have jn : (jj : Int) < nd := by omega
          obtain ⟨x, hx⟩ : ∃ x, x = a' := ⟨_, rfl⟩
          obtain ⟨y, hy⟩ : ∃ y, y = b' := ⟨_, rfl⟩
          have HU : Hid (Uj rs L k (jj + 1) = fun z => if z = (d1, d2) then Uj rs L k jj (d1, d2) ++ [(x, y)] else Uj rs L k jj z) := Lib.hid (by
            funext z
            rw [uj_step (by rw [HXY.out, HDP.out]; exact rise_nodup HOK.out.1) (by rw [HXY.out, HDP.out]; exact hjl) z, HXY.out, HDP.out, hd12, hx, hy]
            by_cases e : z = (d1, d2)
            · rw [if_pos e, if_pos e, e]
            · rw [if_neg e, if_neg e])
          have HLN : Hid ((Uj rs L k jj (d1, d2)).length + 1 ≤ 1000000) := Lib.hid (by
            have h1 : (Ul rs L k (d1, d2)).length ≤ L.length := Nat.le_trans (List.length_filter_le _ _) (by rw [List.length_take]; omega)
            have h2 : (Uj rs L k jj (d1, d2)).length ≤ L.length + 1 := by
              unfold Uj
              rw [List.length_append]
              split
              · simp; omega
              · simp; omega
            have := HN.out
            omega)
          have HK : Hid (k * 16 + jj ≤ 1000000) := Lib.hid (by omega)
          obtain ⟨v, hv⟩ : ∃ v, v = (h (d1, d2)).getD (.slice none 0 0) := ⟨_, rfl⟩
          have HV := Lib.hid hv
          have hb5 := (Cmd.below_one wr (.cells #[.int .i64 d1, .int .i64 d2] 25)).drew
          have MY0 := Lib.hid (hI.out.on hb5)
          have hblkY := keeps_below hb5 _ _ _ (keeps_map HU1.out hI.out.o.link _ _ _ HBK1.out)
          have hbx5 : (wr.alloc (.cells #[.int .i64 d1, .int .i64 d2] 25)).drew.heap[wr.heap.size]? = some (.cells #[.int .i64 d1, .int .i64 d2] 25 (0, 0)) := heap_alloc_new wr _
          have hglt : g < w1.heap.size := (Array.getElem?_eq_some_iff.1 HBK1.out).1
          have hsz1 : w1.heap.size ≤ wr.heap.size := hI.out.o.link.size
          have hb3lt : wO.heap.size < wr.heap.size := (Array.getElem?_eq_some_iff.1 hI.out.box).1
          have hge := hI.out.ge
          have HFR : Hid (∀ k ∈ [g, wr.heap.size, wO.heap.size], some k ≠ v.ownBlock) := Lib.hid fun kk hkk e => by
            have hsome : h (d1, d2) = some v := by
              cases hd : h (d1, d2) with
              | none => rw [hd] at hv; rw [hv] at e; cases e
              | some u => rw [hd] at hv; rw [hv]; rfl
            have hlt := uf_lt hI.out.o.uf hsome e.symm
            rcases List.mem_cons.1 hkk with e1 | hkk
            · omega
            · rcases List.mem_cons.1 hkk with e1 | hkk
              · omega
              · have e1 := List.mem_singleton.1 hkk
                rw [e1] at e
                exact hI.out.far _ v hsome e.symm
          have HMU : Hid (∀ k ∈ [g, wr.heap.size, wO.heap.size], k ≠ mu) := Lib.hid fun kk hkk e => by
            have := HMUL.out
            rcases List.mem_cons.1 hkk with e1 | hkk
            · obtain ⟨es1, cl1, hmu1⟩ := map_is HU1.out
              have hb := HBK1.out
              rw [← e1, e, hmu1] at hb; cases hb
            · rcases List.mem_cons.1 hkk with e1 | hkk
              · omega
              · have e1 := List.mem_singleton.1 hkk; omega
          rw [← hx, ← hy] at MY0
          obtain ⟨Y0, hY0⟩ : ∃ Y0, Y0 = (wr.alloc (.cells #[.int .i64 d1, .int .i64 d2] 25)).drew := ⟨_, rfl⟩
          have HS : Hid (∀ w', Sm [g, wr.heap.size, wO.heap.size] Y0 w' → w'.cell? ⟨g, 1, none⟩ = some (.map (some mu)) ∧ w'.cell? ⟨wr.heap.size, 0, none⟩ = some (.int .i64 d1) ∧ w'.cell? ⟨wr.heap.size, 1, none⟩ = some (.int .i64 d2) ∧ w'.cell? ⟨wO.heap.size, 0, none⟩ = some (.int .i64 x) ∧ w'.cell? ⟨wO.heap.size, 1, none⟩ = some (.int .i64 y)) := Lib.hid fun w' hs => by
            rw [hY0] at hs
            have h1 := (hs g (by simp)).trans hblkY
            have h2 := (hs wr.heap.size (by simp)).trans hbx5
            have h3 := (hs wO.heap.size (by simp)).trans MY0.out.box
            exact ⟨cell_row (i := 1) h1 rfl, cell_row (i := 0) h2 rfl, cell_row (i := 1) h2 rfl, cell_row (i := 0) h3 rfl, cell_row (i := 1) h3 rfl⟩
          have HZ : Hid (∀ w', Sm [g, wr.heap.size, wO.heap.size] Y0 w' → ∀ k ∈ [g, wr.heap.size, wO.heap.size], k < w'.heap.size) := Lib.hid fun w' hs kk hkk => by
            have h0 := hs kk hkk
            have : ∃ o, Y0.heap[kk]? = some o := by
              rw [hY0]
              rcases List.mem_cons.1 hkk with e1 | hkk
              · rw [e1]; exact ⟨_, hblkY⟩
              · rcases List.mem_cons.1 hkk with e1 | hkk
                · rw [e1]; exact ⟨_, hbx5⟩
                · rw [List.mem_singleton.1 hkk]; exact ⟨_, MY0.out.box⟩
            obtain ⟨o, ho⟩ := this
            rw [ho] at h0
            exact (Array.getElem?_eq_some_iff.1 h0).1
          have QY0 : Hid (Sm [g, wr.heap.size, wO.heap.size] Y0 Y0) := Lib.hid (Sm.refl _ _)
          rw [← hY0] at MY0
          have HXE := Lib.hid (And.intro hx hy)
          clear hx hy hv hd12 f1 f2 hGr hjl hblkY hbx5 hglt hsz1 hb3lt hge hb5 hI
          go_wp2
          refine wp_region_held_drew (S := (fun w' => w'.cell? ⟨g, 1, none⟩ = some (.map (some mu)) ∧ w'.cell? ⟨wr.heap.size, 0, none⟩ = some (.int .i64 d1) ∧ w'.cell? ⟨wr.heap.size, 1, none⟩ = some (.int .i64 d2) ∧ w'.cell? ⟨wO.heap.size, 0, none⟩ = some (.int .i64 x) ∧ w'.cell? ⟨wO.heap.size, 1, none⟩ = some (.int .i64 y))) (by kernel_rfl) (by rw [← hY0]; exact HS.out _ QY0.out) (fun hHeld => ?_)
          rw [← hY0] at hHeld ⊢
          clear hY0
          refine wpAnyH_take (i := 0) (v := ?_) rfl (by kernel_rfl) (by kernel_rfl) (by kernel_rfl) (fun _ _ _ h => h) (Or.inl ⟨by rfl, fun w hSw => ?_⟩) (by assumption) ?_
          rotate_left
          · (try dsimp only at hSw); go_simp; (try with_reducible rfl)
          try simp only [List.getElem_toArray, List.getElem_cons_succ, List.getElem_cons_zero, Act.put, List.setIfInBounds_toArray, List.set_cons_zero, List.set_cons_succ]
          refine wpAnyH_take (i := 1) (v := ?_) rfl (by kernel_rfl) (by kernel_rfl) (by kernel_rfl) (fun _ _ _ h => h) (Or.inl ⟨by rfl, fun w hSw => ?_⟩) (by assumption) ?_
          rotate_left
          · (try dsimp only at hSw); go_simp; (try with_reducible rfl)
          try simp only [List.getElem_toArray, List.getElem_cons_succ, List.getElem_cons_zero, Act.put, List.setIfInBounds_toArray, List.set_cons_zero, List.set_cons_succ]
          refine wpAnyH_take (i := 2) (v := ?_) rfl (by kernel_rfl) (by kernel_rfl) (by kernel_rfl) (fun _ _ _ h => h) (Or.inl ⟨by rfl, fun w hSw => ?_⟩) (by assumption) ?_
          rotate_left
          · (try dsimp only at hSw); go_simp; (try with_reducible rfl)
          try simp only [List.getElem_toArray, List.getElem_cons_succ, List.getElem_cons_zero, Act.put, List.setIfInBounds_toArray, List.set_cons_zero, List.set_cons_succ]
          refine wpAnyH_take (i := 3) (v := ?_) rfl (by kernel_rfl) (by kernel_rfl) (by kernel_rfl) (fun _ _ _ h => h) (Or.inl ⟨by rfl, fun w hSw => ?_⟩) (by assumption) ?_
          rotate_left
          · (try dsimp only at hSw); go_simp; (try with_reducible rfl)
          try simp only [List.getElem_toArray, List.getElem_cons_succ, List.getElem_cons_zero, Act.put, List.setIfInBounds_toArray, List.set_cons_zero, List.set_cons_succ]
          refine wpAnyH_take (i := 4) (v := ?_) rfl (by kernel_rfl) (by kernel_rfl) (by kernel_rfl) (fun _ _ _ h => h) (Or.inl ⟨by rfl, fun w hSw => ?_⟩) (by assumption) ?_
          rotate_left
          · (try dsimp only at hSw); go_simp; (try with_reducible rfl)
          try simp only [List.getElem_toArray, List.getElem_cons_succ, List.getElem_cons_zero, Act.put, List.setIfInBounds_toArray, List.set_cons_zero, List.set_cons_succ]
          refine wpAnyH_take (i := 5) (v := ?_) rfl (by kernel_rfl) (by kernel_rfl) (by kernel_rfl) (fun _ _ _ h => h) (Or.inl ⟨by rfl, fun w hSw => ?_⟩) (by assumption) ?_
          rotate_left
          · (try dsimp only at hSw); go_simp; (try with_reducible rfl)
          try simp only [List.getElem_toArray, List.getElem_cons_succ, List.getElem_cons_zero, Act.put, List.setIfInBounds_toArray, List.set_cons_zero, List.set_cons_succ]
          refine wpAnyH_ready (rs := [6]) (by kernel_rfl) (by simp) ?_
          refine AllReadyH.cons rfl (fun K hK => ?_) ?_
          · go_simp
            have MY1 := Lib.hid (MY0.out.on (Cmd.below_one Y0 (.cells #[.int .i64 x, .int .i64 y] 25)))
            have EY1 := Lib.hid (heap_alloc_new Y0 (.cells #[.int .i64 x, .int .i64 y] 25))
            have QY1 := Lib.hid (QY0.out.trans (Sm.grown (World.grownBy_alloc Y0 (.cells #[.int .i64 x, .int .i64 y] 25) none) (fun k hk => HZ.out _ QY0.out k hk) (fun k hk => by simp)))
            refine hK.out _ _ ?_ (fun hHeld => ?_)
            · exact HS.out _ QY1.out
            clear hK K
            generalize Y0.alloc (.cells #[.int .i64 x, .int .i64 y] 25) = Y1 at MY1 EY1 QY1 hHeld ⊢
            try simp only [List.getElem_toArray, List.getElem_cons_succ, List.getElem_cons_zero, Act.put, List.setIfInBounds_toArray, List.set_cons_zero, List.set_cons_succ]
            refine wpAnyH_ready (rs := [7]) (by kernel_rfl) (by simp) ?_
            refine AllReadyH.cons rfl (fun K hK => ?_) ?_
            · obtain ⟨st, Y2, hrun, hm, ht⟩ := MY1.out.entry HK.out d1 d2 HD.out
              rw [← HV.out] at hrun
              have MY2 := Lib.hid hm
              have QY2 := Lib.hid (QY1.out.trans (Sm.grown ht.grown (fun k hk => HZ.out _ QY1.out k hk) (fun k hk e => HMU.out k hk (Option.some.inj e))))
              have EY2 := Lib.hid (keeps_turn ht _ _ _ EY1.out)
              clear hm ht
              go_simp
              clear hrun
              refine hK.out _ _ ?_ (fun hHeld => ?_)
              · exact HS.out _ QY2.out
              clear hK K
              try simp only [List.getElem_toArray, List.getElem_cons_succ, List.getElem_cons_zero, Act.put, List.setIfInBounds_toArray, List.set_cons_zero, List.set_cons_succ]
              refine wpAnyH_take (i := 8) (v := ?_) rfl (by kernel_rfl) (by kernel_rfl) (by kernel_rfl) (fun _ _ _ h => h) (Or.inl ⟨by rfl, fun w hSw => ?_⟩) (by assumption) ?_
              rotate_left
              · (try dsimp only at hSw); go_simp; (try with_reducible rfl)
              try simp only [List.getElem_toArray, List.getElem_cons_succ, List.getElem_cons_zero, Act.put, List.setIfInBounds_toArray, List.set_cons_zero, List.set_cons_succ]
              refine wpAnyH_take (i := 10) (v := ?_) rfl (by kernel_rfl) (by kernel_rfl) (by kernel_rfl) (fun _ _ _ h => h) (Or.inl ⟨by rfl, fun w hSw => ?_⟩) (by assumption) ?_
              rotate_left
              · (try dsimp only at hSw); go_simp; (try with_reducible rfl)
              try simp only [List.getElem_toArray, List.getElem_cons_succ, List.getElem_cons_zero, Act.put, List.setIfInBounds_toArray, List.set_cons_zero, List.set_cons_succ]
              refine wpAnyH_ready (rs := [9]) (by kernel_rfl) (by simp) ?_
              refine AllReadyH.cons rfl (fun K hK => ?_) ?_
              · refine step_ids (by rfl) (.tmp 34) (.tmp 36) (by rfl) w1.heap.size v (Uj rs L k jj (d1, d2)) (by rfl) (by rw [HV.out]; exact MY2.out.own) (Nat.le_trans MY2.out.link.size (Nat.le_refl _)) Y0.heap.size x y (by rfl) EY2.out HLN.out (fun v4 Y8 o1 o2 o3 => ?_)
                obtain ⟨Y9, hst, hl4, ht4⟩ := MY2.out.put o1.out (by rw [← HV.out]; exact o2.out) (by rw [← HV.out]; exact o3.out)
                have Q8 := Lib.hid (QY2.out.trans (Sm.grown o2.out (fun k hk => HZ.out _ QY2.out k hk) (fun k hk e => HFR.out k hk e)))
                have Q9 := Lib.hid (Q8.out.trans (Sm.grown ht4.grown (fun k hk => HZ.out _ Q8.out k hk) (fun k hk e => HMU.out k hk (Option.some.inj e))))
                have M9 := Lib.hid hl4
                clear hl4 ht4 o1 o2 o3
                refine hK.out _ _ ?_ (fun hHeld => ?_)
                · exact HS.out _ Q8.out
                clear hK K
                try simp only [List.getElem_toArray, List.getElem_cons_succ, List.getElem_cons_zero, Act.put, List.setIfInBounds_toArray, List.set_cons_zero, List.set_cons_succ]
                refine wpAnyH_ready (rs := [11]) (by kernel_rfl) (by simp) ?_
                refine AllReadyH.cons rfl (fun K hK => ?_) ?_
                · go_simp
                  clear hst
                  refine hK.out _ _ ?_ (fun hHeld => ?_)
                  · exact HS.out _ Q9.out
                  clear hK K
                  try simp only [List.getElem_toArray, List.getElem_cons_succ, List.getElem_cons_zero, Act.put, List.setIfInBounds_toArray, List.set_cons_zero, List.set_cons_succ]
                  refine wpAnyH_done (by kernel_rfl) ?_ _
                  go_wp2_with fail
                  go_roundw
                  case rel => exact ⟨jj + 1, _, by omega, by go_num, Lib.hid (by have h9 := M9.out; obtain ⟨q8, q9⟩ := HXE.out; rw [HU.out, q8, q9]; rw [q8, q9] at h9; exact h9)⟩
                  case measure => simp [intOf]; omega
                exact AllReadyH.nil
              exact AllReadyH.nil
            exact AllReadyH.nil
          exact AllReadyH.nil
        · have jn : ¬ (jj : Int) < nd := by omega
          have HE : Hid (LkO w1 mu ((k + 1) * 16) (Ul rs L (k + 1)) h wr) := Lib.hid (by
            have h1 := hI.out.o
            rw [uj_all HKL.out (by rw [HXY.out, HDP.out, ← HDN.out]; omega)] at h1
            exact h1.mono (by omega))
          clear hI
          go_wp2
          go_roundw
          case rel => exact ⟨k + 1, h, by omega, by go_num, HE⟩
          case measure => simp [intOf]; omega
    · have kn : ¬ (k : Int) < n := by omega
      have hke : k = n := by omega
      go_wp2
      go_end0
      have hU : Ul rs L k = gUsers rs := by rw [HLL.out]; exact ul_users HND.out (by rw [← HLL.out, ← HN.out]; omega)
      have hO2 := hO.out
      rw [hU] at hO2
      refine ⟨rfl, grown_two (grown_low mu HB1.out) hO2.link, h, hO2.um.mono (by omega), ⟨hO2.uf.no, fun z u hu => ⟨own_mono (hO2.uf.yes z u hu).1 (Nat.zero_le _), (hO2.uf.yes z u hu).2⟩, hO2.uf.apart⟩⟩
end Go.Proofs.YtnekajpoheipiaaGreat.Gra
