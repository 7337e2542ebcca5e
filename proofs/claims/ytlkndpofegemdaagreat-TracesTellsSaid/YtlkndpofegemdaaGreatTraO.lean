/- What the program's places gives: where each list of one order stands in another one (layer 19, traces). Conditions: those in each statement. -/
import Derived.Test.YtlkndpofegemdaaGreatTraK
import Derived.Test.YtlkndpofegemdaaGreatTraC
import Derived.WideKeyEntry
namespace Go.Proofs.YtlkndpofegemdaaGreat.Tra
open Go.RowKit Cmd Bat Ids Rec Wid Gra Rea Cps Mpg Go.Maps Go.WideElems Go.ChangeMaps
set_option linter.unusedVariables false
set_option linter.unusedSimpArgs false

/-! ### An entry that is there, over keys of any kind: read, and stored into later -/
set_option maxRecDepth 100000 in
theorem entryN {K : Type} [DecidableEq K] {kt t e : TypeId} {Y : Ky K kt} {w : World} {b N : Nat} {f : K → Option Value} (h : MapG Y w b N f) (ht : Tryz.prog.underlying t = some (.map kt e)) {z : Value} (hz : ∀ w, (zeroValue e).run Tryz.prog w = .ok z w) (hN : N ≤ 1000000) {x : K} (hx : Y.ok x) {u : Value} (hu : f x = some u) :
    ∃ (st : Int) (w1 : World), (Instr.mapEntry t (.map (some b)) (Y.val x)).run Tryz.prog w = .ok (.tuple #[u, .int .i64 st]) w1 ∧ w.mapTurned w1 b ∧
      ∀ (w2 : World) (v : Value), w2.heap[b]? = w1.heap[b]? → ∃ w3, (Instr.entryStore t (.map (some b)) (.int .i64 st) v).run Tryz.prog w2 = .ok () w3 ∧ MapG Y w3 b (N + 1) (setF f x (some v)) ∧ w2.mapTurned w3 b := by
  have h' := h
  have hlk := h.look_ok ht hz hx
  rw [hu] at hlk
  obtain ⟨D, ks, ⟨es, clock, hb, F, hs, hD⟩, S, hk⟩ := h
  obtain ⟨s1, s2, -⟩ := F.stamped
  rcases Y.law.find w (Y.key hx) es.toList F.keys with ⟨h1, h2⟩ | ⟨j, e0, h1, h2, h3⟩
  · exfalso
    simp [Instr.lookup, run_underlying ht, MapKept.run_getObj_map hb, Y.law.check w es.isEmpty (Y.key hx), h1, hz, Result.andThen] at hlk
  · have hv : e0.val = u := by
      simp [Instr.lookup, run_underlying ht, MapKept.run_getObj_map hb, Y.law.check w es.isEmpty (Y.key hx), h1, hz, Result.andThen] at hlk
      exact hlk
    have hj : es[j]? = some e0 := by simpa using h2
    have hsame : es.modify j (fun e => { e with key := Y.val x }) = es := Array.ext' (by
      rw [Array.toList_modify, modify_eq_set _ _ _ _ h2, show ({ e0 with key := Y.val x } : MapEntry) = e0 by rw [← h3]]
      exact set_self _ _ _ h2)
    refine ⟨(e0.born : Int), setBlock w b (.map es clock), ?_, ⟨es, clock, es, clock, hb, rfl⟩, fun w2 v e2 => ?_⟩
    · rw [← hv]
      simp [Instr.mapEntry, run_underlying ht, MapKept.run_getObj_map hb, Y.law.check w false (Y.key hx), h1, hj, h3, Y.law.stays w (Y.key hx), hsame, MapKept.run_setObj_map _ hb, Result.andThen, setBlock, goInt]
    · have hw2 : w2.heap[b]? = some (.map es clock) := e2.trans (heap_setBlock_same hb _)
      have hidx : es.findIdx? (fun e => ((e.born : Nat) : Int) == ((e0.born : Nat) : Int)) = some j := (findIdx_arr es _).trans (findIdx_born s2 h2)
      have hmod : es.modify j (fun e => { e with val := v }) = es.modify j (fun e => { e with key := Y.val x, val := v }) := Array.ext' (by
        rw [Array.toList_modify, Array.toList_modify, modify_eq_set _ _ _ _ h2, modify_eq_set _ _ _ _ h2, ← h3])
      obtain ⟨w', r3, m3, -⟩ := MapG.store h' ht hN hx v
      have r2 : (Instr.mapUpdate t (.map (some b)) (Y.val x) v).run Tryz.prog w = .ok () (setBlock w b (.map (es.modify j (fun e => { e with key := Y.val x, val := v })) clock)) := by
        simp [Instr.mapUpdate, run_underlying ht, MapKept.run_getObj_map hb, Y.law.check w false (Y.key hx), h1, hj, h3, Y.law.stays w (Y.key hx), MapKept.run_setObj_map _ hb, Result.andThen, setBlock]
      rw [r2] at r3
      have e4 : setBlock w b (.map (es.modify j (fun e => { e with key := Y.val x, val := v })) clock) = w' := by injection r3
      refine ⟨setBlock w2 b (.map (es.modify j (fun e => { e with key := Y.val x, val := v })) clock), ?_, m3.block ((heap_setBlock_same hw2 _).trans (by rw [← e4]; exact (heap_setBlock_same hb _).symm)), ⟨es, clock, _, clock, hw2, rfl⟩⟩
      simp [Instr.entryStore, MapKept.run_getObj_map hw2, asInt, asIntOf, hidx, hmod, MapKept.run_setObj_map _ hw2, Result.andThen, setBlock]

/-! ### What stands in memory while the lists of b are gone over -/
abbrev OwnJ (W : World) (base : Nat) (v : Value) (xs : List Nat) : Prop := wdN.Own 3 W base v xs
abbrev nilS : Value := .slice none 0 0
theorem rowN_block {X X' : World} {v : Value} {zs : List Nat} (h : layN.Row X v zs) (hs : X.heap.size ≤ X'.heap.size) (hk : ∀ g off n c, v = .slice (some ⟨g, off, none⟩) n c → X'.heap[g]? = X.heap[g]?) : layN.Row X' v zs := by
  obtain ⟨p, c, rfl, h1, h2, h3⟩ := h
  exact ⟨p, c, rfl, h1, h2, fun hz => by
    obtain ⟨b, off, rfl, hi⟩ := h3 hz
    have e := hk b off _ c rfl
    exact ⟨b, off, rfl, Nat.lt_of_lt_of_le hi.lt hs, fun j hj => (World.cell?_of_block (w := X) (a := ⟨b, layN.pos off j, none⟩) e).trans (hi.cell j hj)⟩⟩
structure PlS (W : World) (ob : Nat) (b : List (List Idn)) (k M : Nat) (T : List (Nat × Idn)) (fo : Int → Option Value) (X : World) : Prop where
  below : Below W.heap.size W X
  lt : W.heap.size + 1 < ob
  num : NumAt X W.heap.size (W.heap.size + 1) T
  map : MapG kyN X ob k fo
  len : T.length ≤ M
  yes : ∀ (n : Nat) v, n ≤ T.length → fo n = some v → OwnJ X (ob + 1) v (queTo b k (wd T n))
  no : ∀ (n : Nat), n ≤ T.length → fo n = none → queTo b k (wd T n) = []
  range : ∀ z, (fo z).isSome = true → ∃ n : Nat, n ≤ T.length ∧ z = n
  apart : ∀ n m v u, fo n = some v → fo m = some u → n ≠ m → ∀ g, v.ownBlock = some g → u.ownBlock ≠ some g
  words : ∀ j, j < k → ∃ n, n ≤ T.length ∧ wd T n = nthL b j
section
variable {W X Y : World} {ob k M : Nat} {b : List (List Idn)} {T : List (Nat × Idn)} {fo : Int → Option Value}
theorem PlS.on (h : PlS W ob b k M T fo X) (hb : Below X.heap.size X Y) : PlS W ob b k M T fo Y :=
  ⟨h.below.trans (hb.mono h.below.size), h.lt, h.num.on hb, h.map.on hb, h.len, fun n v hn hv => (h.yes n v hn hv).below hb, h.no, h.range, h.apart, h.words⟩
theorem PlS.numbered (h : PlS W ob b k M T fo X) {T' : List (Nat × Idn)} {c : Nat} (hx : Ext T T') (hn : NumAt Y W.heap.size (W.heap.size + 1) T') (hl : T'.length ≤ T.length + c) (hg : X.grownBy Y (some W.heap.size)) : PlS W ob b k (M + c) T' fo Y := by
  have hle := hx.le
  have hold : ∀ n : Nat, (fo n).isSome = true → n ≤ T.length := fun n hs => by obtain ⟨m, hm, e⟩ := h.range n hs; omega
  refine ⟨h.below.trans (turn_below hg (Nat.le_refl _) h.below.size), h.lt, hn, h.map.block (hg.block ob h.map.lt (by have := h.lt; intro e; injection e with e; omega)), by have := h.len; omega, fun n v hn' hv => ?_, fun n hn' hv => ?_, fun z hz => ?_, h.apart, fun j hj => ?_⟩
  · have hn1 := hold n (by rw [hv]; rfl)
    rw [hx.wd hn1]
    refine World.ownsRow.kept (h.yes n v hn1 hv) hg ?_
    cases e : v.ownBlock with
    | none => exact .inl rfl
    | some g => exact .inr (by have h1 := (World.ownsRow.lt (h.yes n v hn1 hv) g e).1; have := h.lt; intro e2; injection e2 with e2; omega)
  · by_cases hn1 : n ≤ T.length
    · rw [hx.wd hn1]; exact h.no n hn1 hv
    · unfold queTo
      rw [List.filter_eq_nil_iff]
      intro j hj
      rw [decide_eq_true_iff]
      intro e
      obtain ⟨m, hm, e2⟩ := h.words j (List.mem_range.1 hj)
      have := hn.num.inj n m hn' (by omega) (by rw [hx.wd hm, e2, e])
      omega
  · obtain ⟨n, h1, h2⟩ := h.range z hz
    exact ⟨n, by omega, h2⟩
  · obtain ⟨n, h1, h2⟩ := h.words j hj
    exact ⟨n, by omega, by rw [hx.wd h1, h2]⟩
theorem PlS.row (h : PlS W ob b k M T fo X) {n : Nat} (hn : n ≤ T.length) : OwnJ X (ob + 1) ((fo n).getD nilS) (queTo b k (wd T n)) := by
  cases e : fo n with
  | none => rw [h.no n hn e]; exact Wd.Own.void _ _ _
  | some v => exact h.yes n v hn e
theorem PlS.put (h : PlS W ob b k M T fo X) (hk : k ≤ 1000) (hM : M ≤ 4611686018427387904) {n : Nat} (hn : n ≤ T.length) (hw : wd T n = nthL b k) {v' : Value} {X2 : World} (ho : OwnJ X2 (ob + 1) v' (queTo b k (wd T n) ++ [k])) (hg : X.grownBy X2 ((fo n).getD nilS).ownBlock) (hv : v'.ownBlock = ((fo n).getD nilS).ownBlock ∨ v'.ownBlock = some X.heap.size) :
    ∃ X3, (Instr.mapUpdate 79 (.map (some ob)) (.int .i64 (n : Int)) v').run Tryz.prog X2 = .ok () X3 ∧ PlS W ob b (k + 1) M T (setF fo n (some v')) X3 := by
  have hrow := h.row hn
  have hlow : ∀ j, j < ob + 1 → X2.heap[j]? = X.heap[j]? := fun j hj => hg.block j (by have := h.map.lt; omega) (fun e => by
    have := (World.ownsRow.lt hrow j e.symm).1
    omega)
  have hlt := h.lt
  have hlen := h.len
  have hbX : Below W.heap.size X X2 := ⟨hg.os, hg.tape, hg.output, hg.size, fun j hj => hlow j (by omega)⟩
  have hm2 := h.map.block (hlow ob (by omega))
  obtain ⟨X3, h1, h2, h3⟩ := hm2.store Tryz.underlying79 (by omega) (x := (n : Int)) (show wfI (n : Int) by constructor <;> omega) v'
  have hg3 := h3.grown
  have keep3 : ∀ {u : Value} {xs : List Nat}, OwnJ X2 (ob + 1) u xs → OwnJ X3 (ob + 1) u xs := fun {u xs} hu => World.ownsRow.kept hu hg3 (by
    cases e : u.ownBlock with
    | none => exact .inl rfl
    | some g => exact .inr (by have h1 := (World.ownsRow.lt hu g e).1; intro e2; injection e2 with e2; omega))
  have hb2 := h.below.trans hbX
  refine ⟨X3, h1, ⟨hb2.trans (turn_below hg3 (by omega) hb2.size), h.lt, (h.num.keep (hlow _ (by omega)) (hlow _ (by omega))).keep (hg3.block _ (by have := hb2.size; have := hm2.lt; omega) (by intro e; injection e with e; omega)) (hg3.block _ (by have := hm2.lt; omega) (by intro e; injection e with e; omega)), h2, h.len, fun m u hm hu => ?_, fun m hm hu => ?_, fun z hz => ?_, fun z y v u hv' hu hne g hvg hug => ?_, fun j hj => ?_⟩⟩
  · by_cases e : (m : Int) = (n : Int)
    · have e' : m = n := by omega
      subst e'
      rw [setF_same] at hu
      injection hu with hu
      subst hu
      rw [hw] at ho ⊢
      rw [que_yes]
      exact keep3 ho
    · rw [setF_other _ _ e] at hu
      rw [que_no (fun e2 => e (by have := h.num.num.inj m n hm hn (by rw [hw, e2]); omega))]
      have hu0 := h.yes m u hm hu
      refine keep3 (World.ownsRow.kept hu0 hg ?_)
      cases eu : u.ownBlock with
      | none => exact .inl rfl
      | some g =>
        refine .inr ?_
        cases ef : fo (n : Int) with
        | none => intro e2; cases e2
        | some v0 => exact fun e2 => h.apart m n u v0 hu ef e g eu e2.symm
  · by_cases e : (m : Int) = (n : Int)
    · rw [e, setF_same] at hu; cases hu
    · rw [setF_other _ _ e] at hu
      rw [que_no (fun e2 => e (by have := h.num.num.inj m n hm hn (by rw [hw, e2]); omega))]
      exact h.no m hm hu
  · by_cases e : z = (n : Int)
    · exact ⟨n, hn, e⟩
    · rw [setF_other _ _ e] at hz; exact h.range z hz
  · -- whose blocks are whose
    have new : ∀ (y : Int) (u : Value), fo y = some u → y ≠ (n : Int) → ∀ g, v'.ownBlock = some g → u.ownBlock ≠ some g := fun y u hu hy g hg' hug => by
      rcases hv with e | e
      · cases ef : fo (n : Int) with
        | none => rw [ef] at e; rw [hg'] at e; cases e
        | some v0 =>
          rw [ef] at e
          exact h.apart n y v0 u ef hu (fun e => hy e.symm) g (by rw [← hg', e]; rfl) hug
      · rw [hg'] at e
        injection e with e
        obtain ⟨q, hq, rfl⟩ := h.range y (by rw [hu]; rfl)
        have := (World.ownsRow.lt (h.yes q u hq hu) g hug).2
        omega
    by_cases e1 : z = (n : Int)
    · subst e1
      rw [setF_same] at hv'
      injection hv' with hv'
      subst hv'
      rw [setF_other _ _ (fun e => hne e.symm)] at hu
      exact new y u hu (fun e => hne e.symm) g hvg hug
    · rw [setF_other _ _ e1] at hv'
      by_cases e2 : y = (n : Int)
      · subst e2
        rw [setF_same] at hu
        injection hu with hu
        subst hu
        exact new z v hv' e1 g hug hvg
      · rw [setF_other _ _ e2] at hu
        exact h.apart z y v u hv' hu hne g hvg hug
  · by_cases e : j = k
    · exact ⟨n, hn, by rw [hw, e]⟩
    · exact h.words j (by omega)
end

/-! ### The row of places -/
def PP (n : Nat) (ps : List Nat) : List Value := (List.range n).map fun j => Value.int .i64 (nthN ps j : Int)
theorem pp_len (n : Nat) (ps : List Nat) : (PP n ps).length = n := by unfold PP; rw [List.length_map, List.length_range]
theorem pp_at {n k : Nat} (ps : List Nat) (h : k < n) : (PP n ps)[k]? = some (.int .i64 (nthN ps k : Int)) := by unfold PP; rw [List.getElem?_map, List.getElem?_range h]; rfl
theorem pp_nil (n : Nat) : PP n [] = List.replicate n (.int .i64 0) := by
  refine List.ext_getElem? fun j => ?_
  by_cases hj : j < n
  · rw [pp_at _ hj, List.getElem?_replicate, if_pos hj]; rfl
  · rw [List.getElem?_eq_none (by rw [pp_len]; omega), List.getElem?_eq_none (by rw [List.length_replicate]; omega)]
theorem nthN_snoc (ps : List Nat) (q j : Nat) : nthN (ps ++ [q]) j = if j = ps.length then q else nthN ps j := by
  unfold nthN
  rw [List.getD_eq_getElem?_getD, List.getD_eq_getElem?_getD]
  by_cases h : j < ps.length
  · rw [List.getElem?_append_left h, if_neg (by omega)]
  · rw [List.getElem?_append_right (by omega)]
    by_cases e : j = ps.length
    · rw [if_pos e, e, Nat.sub_self]; rfl
    · rw [if_neg e, List.getElem?_eq_none (by simp; omega), List.getElem?_eq_none (by omega)]
theorem pp_set {n : Nat} (ps : List Nat) (q : Nat) (h : ps.length < n) : (PP n ps).set ps.length (.int .i64 (q : Int)) = PP n (ps ++ [q]) := by
  refine List.ext_getElem? fun j => ?_
  by_cases hj : j < n
  · rw [List.getElem?_set, pp_len, pp_at _ hj, pp_at _ hj, nthN_snoc]
    by_cases e : ps.length = j
    · rw [if_pos e, if_pos h, if_pos e.symm]
    · rw [if_neg e, if_neg (fun e' => e e'.symm)]
  · rw [List.getElem?_eq_none (by rw [List.length_set, pp_len]; omega), List.getElem?_eq_none (by rw [pp_len]; omega)]
theorem pp_all (ps : List Nat) : PP ps.length ps = wdN.flat ps := by
  have hf : ∀ l : List Nat, wdN.flat l = l.map fun (x : Nat) => Value.int .i64 (x : Int) := fun l => by
    induction l with
    | nil => rfl
    | cons x l ih => show [Value.int .i64 (x : Int)] ++ wdN.flat l = _; rw [ih]; rfl
  rw [hf]
  refine List.ext_getElem? fun j => ?_
  by_cases hj : j < ps.length
  · rw [pp_at _ hj, List.getElem?_map, List.getElem?_eq_getElem hj, nthN_get hj]; rfl
  · rw [List.getElem?_eq_none (by rw [pp_len]; omega), List.getElem?_eq_none (by rw [List.length_map]; omega)]
theorem mk_row {t e : TypeId} {z : Value} {bytes : Nat} (ht : Tryz.prog.underlying t = some (.slice e)) (hi : (Tryz.prog.info? e).map (fun i => (i.zero, i.size, i.bytes)) = some (some z, 1, bytes)) (hz : z.cells = #[z]) (hb : bytes ≤ 100) (n : Nat) (hn : n ≤ 1000000) (W : World) :
    (Instr.makeSlice t (.int .i64 (n : Int)) (.int .i64 (n : Int))).run Tryz.prog W = .ok (.slice (some ⟨W.heap.size, 0, none⟩) n n) (W.alloc (.cells (madeCells #[z] n) e)) := by
  obtain ⟨i0, hi, hz0, hz1, hz2⟩ := info_parts hi
  have h1 : bytes * n ≤ 100 * 1000000 := Nat.mul_le_mul hb hn
  have h3 : (i0.bytes : Int) * (n : Int) ≤ 281474976710656 := by
    have h2 : ((bytes * n : Nat) : Int) ≤ 100000000 := by omega
    rw [Int.natCast_mul] at h2
    rw [hz2]; omega
  have := run_make (P := Tryz.prog) W t e i0 z ht hi hz0 .i64 .i64 n n (by omega) (by omega) h3 (by omega)
  rw [Int.toNat_natCast, hz1, hz, Nat.mul_one] at this
  exact this
theorem mk_own {e : TypeId} {z : Value} (n : Nat) (hn : n ≤ 1000000) {W : World} {base : Nat} (hb : base ≤ W.heap.size) : (W.alloc (.cells (madeCells #[z] n) e)).ownsRow base e 1 (.slice (some ⟨W.heap.size, 0, none⟩) n n) n (List.replicate n z) :=
  ⟨by rw [List.length_replicate, Nat.mul_one], .inr ⟨W.heap.size, n, _, rfl, hb, heap_alloc_new _ _, Nat.le_refl _, by unfold maxLen; omega, by rw [size_madeCells, Nat.mul_one], by rw [toList_madeCells_one, List.take_of_length_le (by rw [List.length_replicate, Nat.mul_one]; exact Nat.le_refl _)]⟩⟩
theorem own_free {w : World} {base pb n k : Nat} {e : TypeId} {xs : List Value} (h : w.ownsRow base e 1 (.slice (some ⟨pb, 0, none⟩) n n) n xs) : w.frozen? ⟨pb, k, none⟩ = false := by
  rcases h.2 with ⟨e1, -⟩ | ⟨g, cap, cur, e1, -, hg, -⟩
  · cases e1
  · injection e1 with e1 e2 e3
    injection e1 with e1
    injection e1 with e1 e4
    subst e1
    exact free_row hg
theorem own_cellP {w : World} {base pb n k : Nat} {e : TypeId} {xs : List Value} (h : w.ownsRow base e 1 (.slice (some ⟨pb, 0, none⟩) n n) n xs) {u : Value} (hk : xs[k]? = some u) : w.cell? ⟨pb, k, none⟩ = some u := by
  have := World.ownsRow.cells h (g := pb) rfl k _ hk
  rw [Bat.add_lit] at this
  exact this

/-! ### What stands in memory while the lists of a are gone over -/
structure PlR (W : World) (ob : Nat) (b : List (List Idn)) (L : List Int) (n pb : Nat) (ps : List Nat) (M : Nat) (T : List (Nat × Idn)) (fo : Int → Option Value) (X : World) : Prop where
  below : Below W.heap.size W X
  lt : W.heap.size + 1 < ob
  pbl : ob < pb
  num : NumAt X W.heap.size (W.heap.size + 1) T
  map : MapG kyN X ob 1000 fo
  keys : ∀ z, (fo z).isSome = true → z ∈ L
  len : T.length ≤ M
  row : ∀ (m : Nat) v, m ≤ T.length → fo m = some v → layN.Row X v (queue b ps (wd T m))
  far : ∀ z v g off n c, fo z = some v → v = .slice (some ⟨g, off, none⟩) n c → ob < g ∧ g < pb
  no : ∀ (m : Nat), m ≤ T.length → fo m = none → queue b ps (wd T m) = []
  range : ∀ z, (fo z).isSome = true → ∃ m : Nat, m ≤ T.length ∧ z = m
  words : ∀ j, j < b.length → ∃ m, m ≤ T.length ∧ wd T m = nthL b j
  place : X.ownsRow (ob + 1) 3 1 (.slice (some ⟨pb, 0, none⟩) n n) n (PP n ps)
section
variable {W X Y : World} {ob n pb M : Nat} {b : List (List Idn)} {L : List Int} {ps : List Nat} {T : List (Nat × Idn)} {fo : Int → Option Value}
theorem PlR.on (h : PlR W ob b L n pb ps M T fo X) (hb : Below X.heap.size X Y) : PlR W ob b L n pb ps M T fo Y :=
  ⟨h.below.trans (hb.mono h.below.size), h.lt, h.pbl, h.num.on hb, h.map.on hb, h.keys, h.len, fun m v hm hv => (h.row m v hm hv).on hb, h.far, h.no, h.range, h.words, own_below h.place hb⟩
theorem PlR.numbered (h : PlR W ob b L n pb ps M T fo X) {T' : List (Nat × Idn)} {c : Nat} (hx : Ext T T') (hn : NumAt Y W.heap.size (W.heap.size + 1) T') (hl : T'.length ≤ T.length + c) (hg : X.grownBy Y (some W.heap.size)) : PlR W ob b L n pb ps (M + c) T' fo Y := by
  have hle := hx.le
  have hlt := h.lt
  have hold : ∀ m : Nat, (fo m).isSome = true → m ≤ T.length := fun m hs => by obtain ⟨m', hm, e⟩ := h.range m hs; omega
  refine ⟨h.below.trans (turn_below hg (Nat.le_refl _) h.below.size), h.lt, h.pbl, hn, h.map.block (hg.block ob h.map.lt (by intro e; injection e with e; omega)), h.keys, by have := h.len; omega, fun m v hm hv => ?_, h.far, fun m hm hv => ?_, fun z hz => ?_, fun j hj => ?_, ?_⟩
  · have hm1 := hold m (by rw [hv]; rfl)
    rw [hx.wd hm1]
    have hr := h.row m v hm1 hv
    refine rowN_block hr hg.size fun g off k c e => ?_
    have hf := h.far m v g off k c hv e
    by_cases hg' : g < X.heap.size
    · exact hg.block g hg' (by intro e; injection e with e; omega)
    · exact absurd (Nat.lt_trans hf.2 (World.ownsRow.lt h.place pb rfl).2) hg'
  · by_cases hm1 : m ≤ T.length
    · rw [hx.wd hm1]; exact h.no m hm1 hv
    · refine List.eq_nil_iff_forall_not_mem.2 fun j hj => ?_
      obtain ⟨hj1, -, e⟩ := queue_mem.1 hj
      obtain ⟨q, hq, e2⟩ := h.words j hj1
      have := hn.num.inj m q hm (by omega) (by rw [hx.wd hq, e2, e])
      omega
  · obtain ⟨m, h1, h2⟩ := h.range z hz
    exact ⟨m, by omega, h2⟩
  · obtain ⟨m, h1, h2⟩ := h.words j hj
    exact ⟨m, by omega, by rw [hx.wd h1, h2]⟩
  · exact World.ownsRow.kept h.place hg (.inr (by have := h.pbl; intro e; injection e with e; dsimp only at e; omega))
theorem PlR.look (h : PlR W ob b L n pb ps M T fo X) {m : Nat} (hm : m ≤ T.length) : ∃ p c, (fo m).getD nilS = .slice p (queue b ps (wd T m)).length c := by
  cases e : fo m with
  | none => rw [h.no m hm e]; exact ⟨none, 0, rfl⟩
  | some v => obtain ⟨p, c, e2, -⟩ := h.row m v hm e; exact ⟨p, c, e2⟩
theorem cutl_far {p : Option Addr} {g off l cap c g' off' : Nat} (h : cutl (some ⟨g, off, none⟩) l cap c = some ⟨g', off', none⟩) : g' = g := by
  unfold cutl at h
  split at h
  · injection h with h; injection h with h; exact h.symm
  · simp only [Option.map_some, Addr.add_lit] at h
    injection h with h; injection h with h; exact h.symm
theorem PlR.take (h : PlR W ob b L n pb ps M T fo X) (hL : L.length ≤ 1000) (hM : M ≤ 4611686018427387904) {m q : Nat} {r : List Nat} (hm : m ≤ T.length) (hq : queue b ps (wd T m) = q :: r) (hn : ps.length < n) :
    ∃ g off cap, (fo m).getD nilS = .slice (some ⟨g, off, none⟩) (r.length + 1) cap ∧ X.cell? ⟨g, off, none⟩ = some (.int .i64 (q : Int)) ∧ ∃ (st : Int) (W1 W2 : World),
      (Instr.mapEntry 79 (.map (some ob)) (.int .i64 (m : Int))).run Tryz.prog (X.drew.setCell ⟨pb, ps.length, none⟩ (.int .i64 (q : Int))) = .ok (.tuple #[.slice (some ⟨g, off, none⟩) (r.length + 1) cap, .int .i64 st]) W1 ∧
      (Instr.entryStore 79 (.map (some ob)) (.int .i64 st) (.slice (cutl (some ⟨g, off, none⟩) 1 cap 1) r.length (cap - 1))).run Tryz.prog W1 = .ok () W2 ∧
      PlR W ob b L n pb (ps ++ [q]) M T (setF fo m (some (.slice (cutl (some ⟨g, off, none⟩) 1 cap 1) r.length (cap - 1)))) W2 := by
  have hlt := h.lt
  have hpl := h.pbl
  have hlen := h.len
  cases ef : fo (m : Int) with
  | none => rw [h.no m hm ef] at hq; cases hq
  | some v =>
    have hr := h.row m v hm ef
    rw [hq] at hr
    have hr' := hr
    obtain ⟨p, cap, rfl, c1, c2, c3⟩ := hr'
    obtain ⟨g, off, rfl, hi⟩ := c3 (by simp)
    have hcell := hi.cell 0 (by simp)
    have hcell : X.cell? ⟨g, off, none⟩ = some (.int .i64 (q : Int)) := hcell
    have hf := h.far m _ g off _ _ ef rfl
    have hst := World.ownsRow.stored (show X.drew.ownsRow (ob + 1) 3 1 (.slice (some ⟨pb, 0, none⟩) n n) n (PP n ps) from h.place) ps.length (.int .i64 (q : Int))
    rw [pp_set ps q hn] at hst
    obtain ⟨ho, hg⟩ := hst
    have hg : X.grownBy (X.drew.setCell ⟨pb, ps.length, none⟩ (.int .i64 (q : Int))) (some pb) := ⟨hg.os, hg.tape, hg.output, hg.size, hg.block⟩
    obtain ⟨Z, hZ⟩ : ∃ Z, Z = X.drew.setCell ⟨pb, ps.length, none⟩ (.int .i64 (q : Int)) := ⟨_, rfl⟩
    rw [← hZ] at ho hg ⊢
    have low : ∀ j, j < X.heap.size → j ≠ pb → Z.heap[j]? = X.heap[j]? := fun j hj hne => hg.block j hj (by intro e; injection e with e; exact hne e)
    have hXp := (World.ownsRow.lt h.place pb rfl).2
    have hmZ := h.map.block (low ob (by omega) (by omega))
    obtain ⟨st, W1, e1, t1, hs⟩ := entryN hmZ Tryz.underlying79 (z := nilS) (fun w => by kernel_rfl) (by decide) (x := (m : Int)) (show wfI (m : Int) by constructor <;> omega) ef
    obtain ⟨W2, e2, m2, t2⟩ := hs W1 (.slice (cutl (some ⟨g, off, none⟩) 1 cap 1) r.length (cap - 1)) rfl
    have g1 := t1.grown
    have g2 := t2.grown
    have s1 := g1.size
    have low2 : ∀ j, j < X.heap.size → j ≠ pb → j ≠ ob → W2.heap[j]? = X.heap[j]? := fun j hj h1 h2 => by
      have hz := hg.size
      exact (g2.block j (by omega) (by intro e; injection e with e; omega)).trans ((g1.block j (by omega) (by intro e; injection e with e; omega)).trans (low j hj h1))
    have hsz : X.heap.size ≤ W2.heap.size := Nat.le_trans hg.size (Nat.le_trans g1.size g2.size)
    have keep : ∀ (z : Int) (u : Value) (zs : List Nat), fo z = some u → layN.Row X u zs → layN.Row W2 u zs := fun z u zs hu hr => rowN_block hr hsz fun g' off' k c e => by
      have hf' := h.far z u g' off' k c hu e
      exact low2 g' (by omega) (by omega) (by omega)
    have hbl : Below W.heap.size X W2 := ⟨g2.os.trans (g1.os.trans hg.os), g2.tape.trans (g1.tape.trans hg.tape), g2.output.trans (g1.output.trans hg.output), hsz, fun j hj => low2 j (by omega) (by omega) (by omega)⟩
    refine ⟨g, off, cap, rfl, hcell, st, W1, W2, e1, e2, ⟨h.below.trans hbl, h.lt, h.pbl, h.num.keep (low2 _ (by omega) (by omega) (by omega)) (low2 _ (by omega) (by omega) (by omega)), tightG m2 L (fun z hz => ?_) hL, fun z hz => ?_, h.len, fun k u hk hu => ?_, fun z u g' off' k c hu e => ?_, fun k hk hu => ?_, fun z hz => ?_, h.words, ?_⟩⟩
    · by_cases e : z = (m : Int)
      · exact h.keys z (by rw [e, ef]; rfl)
      · rw [setF_other _ _ e] at hz; exact h.keys z hz
    · by_cases e : z = (m : Int)
      · exact h.keys z (by rw [e, ef]; rfl)
      · rw [setF_other _ _ e] at hz; exact h.keys z hz
    · by_cases e : (k : Int) = (m : Int)
      · have e' : k = m := by omega
        subst e'
        rw [setF_same] at hu
        injection hu with hu
        subst hu
        rw [queue_tail hq]
        exact row_drop (D := wdN) (keep k _ _ ef hr) 1 (by simp)
      · rw [setF_other _ _ e] at hu
        have hne : wd T m ≠ wd T k := fun e2 => e (by have := h.num.num.inj m k hm hk e2; omega)
        rw [queue_other (queue_mem.1 (by rw [hq]; exact List.mem_cons_self)).2.2 hne]
        exact keep k u _ hu (h.row k u hk hu)
    · by_cases e' : z = (m : Int)
      · subst e'
        rw [setF_same] at hu
        injection hu with hu
        subst hu
        injection e with e _ _
        rw [cutl_far (p := none) e]
        exact hf
      · rw [setF_other _ _ e'] at hu
        exact h.far z u g' off' k c hu e
    · by_cases e : (k : Int) = (m : Int)
      · rw [e, setF_same] at hu; cases hu
      · rw [setF_other _ _ e] at hu
        have hne : wd T m ≠ wd T k := fun e2 => e (by have := h.num.num.inj m k hm hk e2; omega)
        rw [queue_other (queue_mem.1 (by rw [hq]; exact List.mem_cons_self)).2.2 hne]
        exact h.no k hk hu
    · by_cases e : z = (m : Int)
      · exact ⟨m, hm, e⟩
      · rw [setF_other _ _ e] at hz; exact h.range z hz
    · exact World.ownsRow.kept (World.ownsRow.kept ho g1 (.inr (by intro e; injection e with e; dsimp only at e; omega))) g2 (.inr (by intro e; injection e with e; dsimp only at e; omega))
end
end Go.Proofs.YtlkndpofegemdaaGreat.Tra

/- What the program's places gives, its walk (layer 19, traces). Conditions: the lists lie in memory as their cells say; at most 1000 lists in each, each of at most 2^50 ids; ids are words of 64 bits. -/
namespace Go.Proofs.YtlkndpofegemdaaGreat.Tra
open Go.RowKit Cmd Bat Ids Rec Wid Gra Rea Cps Mpg
set_option linter.unusedVariables false
set_option linter.unusedSimpArgs false

abbrev numFn (B : Nat) : Value := .func (.func 58) #[] #[.pointer (some ⟨B, 0, none⟩)]
set_option maxRecDepth 100000 in
set_option maxHeartbeats 16000000 in
theorem places_any (v u : Value) (a b : List (List Idn)) (w : World) (h : layLL.Row w v a) (g : layLL.Row w u b) (ha : a.length ≤ 1000) (hb : b.length ≤ 1000) (haw : ∀ c ∈ a, ∀ x ∈ c, wfId x) (hbw : ∀ c ∈ b, ∀ x ∈ c, wfId x) (hal : ∀ c ∈ a, c.length ≤ 1125899906842624) (hbl : ∀ c ∈ b, c.length ≤ 1125899906842624) :
    Calls Tryz.prog 21 #[v, u] w (GivesPlaces b a w) := by
  have hmm := @run_makeMap Tryz.prog
  obtain ⟨p, cap, rfl, h1, hd⟩ := h.parts
  obtain ⟨q, cap', rfl, g1, hd'⟩ := g.parts
  obtain ⟨n, hn⟩ : ∃ n, n = a.length := ⟨_, rfl⟩
  obtain ⟨m, hm⟩ : ∃ m, m = b.length := ⟨_, rfl⟩
  rw [← hn] at h1 hd ha
  rw [← hm] at g1 hd' hb
  have HN := Lib.hid hn
  have HM := Lib.hid hm
  have HAW := Lib.hid haw
  have HBW := Lib.hid hbw
  have HAL := Lib.hid hal
  have HBL := Lib.hid hbl
  rw [show a.length = n from HN.out.symm, show b.length = m from HM.out.symm]
  have CN := Lib.hid (numbers_any w)
  clear h g hn hm haw hbw hal hbl
  by_cases hnm : n = m
  · subst hnm
    have hq : ((n : Int) != (n : Int)) = false := by simp
    have hmk := mk_row (t := 58) (e := 3) (z := .int .i64 0) (bytes := 8) Tryz.underlying58 (by kernel_rfl) (by kernel_rfl) (by decide) n (by omega)
    obtain ⟨MC, hMC⟩ : ∃ MC, MC = madeCells #[Value.int .i64 0] n := ⟨_, rfl⟩
    have HMade : Hid (∀ (W : World) (base : Nat), base ≤ W.heap.size → (W.alloc (.cells MC 3)).ownsRow base 3 1 (.slice (some ⟨W.heap.size, 0, none⟩) n n) n (PP n [])) := Lib.hid fun W base hb => by rw [hMC, pp_nil]; exact mk_own n (by omega) hb
    simp only [← hMC] at hmk
    clear hMC
    go_enter Tryz.func21, Tryz.ntmps21
    go_wp2_with (first
      | (go_at_call 36; ((with_reducible refine CN.out.mono ?_); rintro E w1 ⟨rfl, hna, hsz, hb1⟩; have HNA := Lib.hid hna; have HSZ := Lib.hid hsz; have HB1 := Lib.hid hb1; clear hna hsz hb1)))
    clear CN
    have P0 : Hid (PlS w w1.heap.size b 0 (0 * 1125899906842624) [] (fun _ => none) (w1.alloc (.map #[] 0))) := Lib.hid ⟨HB1.out.trans ((Cmd.below_one w1 (.map #[] 0)).mono HB1.out.size), by rw [HSZ.out]; omega, HNA.out.on (Cmd.below_one w1 (.map #[] 0)), MapG.made w1, Nat.zero_le _, fun k v hk hv => (by cases hv), fun k hk hv => rfl, fun z hz => (by cases hz), fun _ _ _ _ h => (by cases h), fun j hj => absurd hj (Nat.not_lt_zero _)⟩
    clear hmm HB1 HNA
    generalize w1.heap.size = ob at P0 HSZ ⊢
    go_loopw [24] (fun i X => ∃ (k : Nat) (T : List (Nat × Idn)) (fo : Int → Option Value), i = .int .i64 k ∧ k ≤ n ∧ Hid (PlS w ob b k (k * 1125899906842624) T fo X)) (fun i _ => n - (intOf i).toNat)
    case atStart => exact ⟨0, [], _, rfl, Nat.zero_le _, P0⟩
    case round =>
      clear P0
      obtain ⟨k, T, fo, rfl, hk, HP⟩ := hrel
      have k0 : (0 : Int) ≤ k := by omega
      by_cases hkm : k < n
      · have km : (k : Int) < n := by omega
        obtain ⟨B, off, rfl, HC⟩ := hd'.resolve_left (by omega)
        have hkl : k < b.length := by rw [← HM.out]; exact hkm
        obtain ⟨p0, c0, e00, r00⟩ := llAt (HC.out.on HP.out.below) hkl
        have e0 : wr.cell? ⟨B, off + k, none⟩ = some (.slice p0 (nthL b k).length c0) := e00
        have r0 : RowAt wr (.slice p0 (nthL b k).length c0) (nthL b k) := r00
        clear e00 r00
        have hwf := HBW.out _ (nthL_in hkl)
        have hcl := HBL.out _ (nthL_in hkl)
        have hlen := HP.out.len
        have HCL := Lib.hid hcl
        have HMB : Hid (k * 1125899906842624 + (nthL b k).length ≤ 4611686018427387904) := Lib.hid (by omega)
        have HK1 : Hid (k ≤ 1000) := Lib.hid (by omega)
        obtain ⟨cl, hcl'⟩ : ∃ cl, cl = (nthL b k).length := ⟨_, rfl⟩
        rw [← hcl'] at e0 r0
        have CC := Lib.hid (number_any HP.out.num _ _ r0 hwf (by omega) (by omega))
        clear hd' hkl hwf hcl hlen r0 hcl'
        go_wp2_with (first
          | (go_at_call 58; ((with_reducible refine CC.out.mono ?_); rintro E w2 ⟨nn, T2, rfl, hx, hle, hwd, hl2, hna, hg2⟩; have H2 := Lib.hid (HP.out.numbered hx hna hl2 hg2); have HLE := Lib.hid hle; have HWD := Lib.hid hwd; have hlk := H2.out.map.look Tryz.underlying79 (z := nilS) (fun w => by kernel_rfl) (x := (nn : Int)) (show wfI (nn : Int) by (have h1 := H2.out.len; have h2 := HCL.out; constructor <;> omega)); have hlk2 : (Instr.lookup 79 (.map (some ob)) (.int .i64 (nn : Int)) false).run Tryz.prog w2 = .ok ((fo nn).getD nilS) w2 := hlk; have H3 := Lib.hid (H2.out.on (Cmd.below_one w2 (.cells #[.int .i64 (k : Int)] 3))); have HA := Lib.hid (grow_wd wtN (w2.alloc (.cells #[.int .i64 (k : Int)] 3)) 58 (ob + 1) ((fo nn).getD nilS) _ (H3.out.row hle) (by have := H3.out.map.lt; omega) w2.heap.size k #[.int .i64 (k : Int)] rfl (heap_alloc_new w2 _) (by have := que_len b k (wd T2 nn); omega)); clear hx hle hwd hl2 hna hg2 hlk CC))
          | (at_builtin; refine wp_app rfl _ _ 58 rfl _ _ rfl rfl HA.out ?_; intro v8 w8 HV8; obtain ⟨X3, hst, h5⟩ := H3.out.put HK1.out HMB.out HLE.out HWD.out HV8.out.1 HV8.out.2.1 HV8.out.2.2; have H5 := Lib.hid h5; clear h5 hlk2)
          | fail)
        go_roundw
        case rel => exact ⟨k + 1, T2, _, by go_num, by omega, Lib.hid ⟨H5.out.below, H5.out.lt, H5.out.num, H5.out.map, by have h1 := H5.out.len; have h2 := HCL.out; rw [Nat.succ_mul]; omega, H5.out.yes, H5.out.no, H5.out.range, H5.out.apart, H5.out.words⟩⟩
        case measure => simp [intOf]; omega
      · have km : ¬ (k : Int) < n := by omega
        have hke : k = n := by omega
        have hkb : k = b.length := by rw [hke, HM.out]
        obtain ⟨L, hL, hLk⟩ : ∃ L : List Int, L.length ≤ 1000 ∧ ∀ z, (fo z).isSome = true → z ∈ L := by
          obtain ⟨D, ks, -, S, hl⟩ := HP.out.map
          exact ⟨ks, by omega, fun z hz => (S.mem z).2 hz⟩
        have HL := Lib.hid hL
        have hb1 := Cmd.below_one wr (.cells MC 3)
        have R0 : Hid (PlR w ob b L n wr.heap.size [] ((n + 0) * 1125899906842624) T fo (wr.alloc (.cells MC 3))) := Lib.hid
          { below := HP.out.below.trans (hb1.mono HP.out.below.size)
            lt := HP.out.lt
            pbl := HP.out.map.lt
            num := HP.out.num.on hb1
            map := (HP.out.map.on hb1).mono (by omega)
            keys := hLk
            len := by rw [Nat.add_zero, ← hke]; exact HP.out.len
            row := fun n v hm hv => by
              have h1 := ((HP.out.yes n v hm hv).below hb1).row
              rw [hkb, que_all] at h1
              exact h1
            far := fun z v g off n' c hz e => by
              obtain ⟨m', hm', rfl⟩ := HP.out.range z (by rw [hz]; rfl)
              rcases (HP.out.yes m' v hm' hz).2 with ⟨e1, -⟩ | ⟨g', c', cur, e1, hg1, hg2, -⟩
              · rw [e1] at e; cases e
              · rw [e1] at e
                injection e with e _ _
                injection e with e
                injection e with e _ _
                subst e
                exact ⟨by omega, (Array.getElem?_eq_some_iff.1 hg2).1⟩
            no := fun n hm hv => by rw [← que_all, ← hkb]; exact HP.out.no n hm hv
            range := HP.out.range
            words := fun j hj => HP.out.words j (by omega)
            place := HMade.out wr (ob + 1) HP.out.map.lt }
        have S0 : Hid (placesN b (a.drop 0) [] = placesN b a [] ∧ ([] : List Nat).length = 0) := Lib.hid ⟨by rw [List.drop_zero], rfl⟩
        clear hkb hL hLk hb1 HP HMade hd' hk
        go_wp2
        clear hmk
        generalize wr.heap.size = pb at R0 ⊢
        go_loopw [46] (fun i X => ∃ (k : Nat) (ps : List Nat) (T : List (Nat × Idn)) (fo : Int → Option Value), i = .int .i64 k ∧ k ≤ n ∧ Hid (PlR w ob b L n pb ps ((n + k) * 1125899906842624) T fo X) ∧ Hid (placesN b (a.drop k) ps = placesN b a [] ∧ ps.length = k)) (fun i _ => n - (intOf i).toNat)
        case atStart => exact ⟨0, [], T, fo, rfl, Nat.zero_le _, R0, S0⟩
        case round =>
          clear R0 S0
          obtain ⟨k, ps, T, fo, rfl, hk, HP, HS⟩ := hrel
          have k0 : (0 : Int) ≤ k := by omega
          by_cases hkn : k < n
          · have kn : (k : Int) < n := by omega
            obtain ⟨B, off, rfl, HC⟩ := hd.resolve_left (by omega)
            have hkl : k < a.length := by rw [← HN.out]; exact hkn
            obtain ⟨p0, c0, e00, r00⟩ := llAt (HC.out.on HP.out.below) hkl
            have e0 : wr.cell? ⟨B, off + k, none⟩ = some (.slice p0 (nthL a k).length c0) := e00
            have r0 : RowAt wr (.slice p0 (nthL a k).length c0) (nthL a k) := r00
            clear e00 r00
            have hwf := HAW.out _ (nthL_in hkl)
            have hcl := HAL.out _ (nthL_in hkl)
            have hlen := HP.out.len
            have HCL := Lib.hid hcl
            have HMB : Hid ((n + k) * 1125899906842624 + (nthL a k).length ≤ 4611686018427387904) := Lib.hid (by omega)
            have HYES := Lib.hid (fun q (hq : firstAt b ps (nthL a k) = some q) => places_yes (ps := ps) hkl hq)
            have HNO := Lib.hid (fun (hq : firstAt b ps (nthL a k) = none) => places_no (ps := ps) hkl hq)
            obtain ⟨cl, hcl'⟩ : ∃ cl, cl = (nthL a k).length := ⟨_, rfl⟩
            rw [← hcl'] at e0 r0
            have CC := Lib.hid (number_any HP.out.num _ _ r0 hwf (by omega) (by omega))
            clear hd hkl hwf hcl hlen r0 hcl'
            go_wp2_with (first
              | (go_at_call 58; ((with_reducible refine CC.out.mono ?_); rintro E w2 ⟨nn, T2, rfl, hx, hle, hwd, hl2, hna, hg2⟩; have H2 := Lib.hid (HP.out.numbered hx hna hl2 hg2); have HLE := Lib.hid hle; have HWD := Lib.hid hwd; have hlk := H2.out.map.look Tryz.underlying79 (z := nilS) (fun w => by kernel_rfl) (x := (nn : Int)) (show wfI (nn : Int) by (have h1 := H2.out.len; have h2 := HMB.out; constructor <;> omega)); obtain ⟨pl, cl2, hsl⟩ := H2.out.look hle; rw [hsl] at hlk; have HSL := Lib.hid hsl; obtain ⟨ql, hql⟩ : ∃ ql, ql = (queue b ps (wd T2 nn)).length := ⟨_, rfl⟩; rw [← hql] at hlk; have HQL := Lib.hid hql; have hlk2 : (Instr.lookup 79 (.map (some ob)) (.int .i64 (nn : Int)) false).run Tryz.prog w2 = .ok (.slice pl ql cl2) w2 := hlk; clear hx hle hwd hl2 hna hg2 hlk CC hsl hql)))
            · have hz : ql = 0 := by
                have h1 : ((ql : Int) == 0) = true := by assumption
                rw [beq_iff_eq] at h1
                omega
              have hq0 : queue b ps (nthL a k) = [] := by
                rw [← HWD.out]
                exact List.eq_nil_of_length_eq_zero (by rw [← HQL.out, hz])
              have hno := HNO.out (by rw [queue_head, hq0]; rfl)
              have HF : Hid (placesG b a = none) := Lib.hid (by
                have h1 := HS.out.1
                rw [hno] at h1
                unfold placesG
                rw [← h1]
                split <;> rfl)
              clear hz hq0 hno
              go_wp2
              go_ret2
              exact ⟨_, _, rfl, H2.out.below, fun h => (by cases h), fun _ => HF.out⟩
            · have hz : ql ≠ 0 := by
                have h1 : ((ql : Int) == 0) = false := by assumption
                rw [beq_eq_false_iff_ne] at h1
                omega
              cases hq : queue b ps (wd T2 nn) with
              | nil => exact absurd (by rw [HQL.out, hq]; rfl) hz
              | cons qh r =>
                have hps := HS.out.2
                obtain ⟨g, ofg, cap2, hv, hcell, st, W1, W2, e00, e2, hR⟩ := H2.out.take HL.out HMB.out HLE.out hq (by rw [hps]; exact hkn)
                rw [HSL.out] at hv
                injection hv with hv1 hv2 hv3
                subst hv1
                subst hv3
                have hql : ql = r.length + 1 := by rw [HQL.out, hq]; rfl
                subst hql
                have HY := Lib.hid (HYES.out qh (by rw [queue_head, ← HWD.out, hq]; rfl))
                have HR := Lib.hid hR
                rw [hps] at e00
                have hpc : w2.drew.cell? ⟨pb, k, none⟩ = some (.int .i64 (nthN ps k : Int)) := own_cellP (show w2.drew.ownsRow (ob + 1) 3 1 (.slice (some ⟨pb, 0, none⟩) n n) n (PP n ps) from H2.out.place) (pp_at ps hkn)
                have hpf : w2.drew.frozen? ⟨pb, k, none⟩ = false := own_free (show w2.drew.ownsRow (ob + 1) 3 1 (.slice (some ⟨pb, 0, none⟩) n n) n (PP n ps) from H2.out.place)
                have hcd : w2.drew.cell? ⟨g, ofg, none⟩ = some (.int .i64 (qh : Int)) := hcell
                have hld : (Instr.lookup 79 (.map (some ob)) (.int .i64 (nn : Int)) false).run Tryz.prog w2.drew = .ok (.slice (some ⟨g, ofg, none⟩) (r.length + 1) cl2) w2.drew := by
                  have h1 := H2.out.map.drew.look Tryz.underlying79 (z := nilS) (fun w => by kernel_rfl) (x := (nn : Int)) (show wfI (nn : Int) by (have h1 := H2.out.len; have h2 := HMB.out; have h3 := HLE.out; constructor <;> omega))
                  rw [HSL.out, hq] at h1
                  exact h1
                have e1 : (Instr.mapEntry 79 (.map (some ob)) (.int .i64 (nn : Int))).run Tryz.prog (w2.setCell ⟨pb, k, none⟩ (.int .i64 (qh : Int))).drew = .ok (.tuple #[.slice (some ⟨g, ofg, none⟩) (r.length + 1) cl2, .int .i64 st]) W1 := e00
                clear e00
                have hcut : ∀ w, (Instr.slice 58 (.slice (some ⟨g, ofg, none⟩) (r.length + 1) cl2) (some (.int .i64 1)) none none).run Tryz.prog w = .ok (.slice (cutl (some ⟨g, ofg, none⟩) 1 cl2 1) r.length (cl2 - 1)) w := fun w => from_wide wtN (some ⟨g, ofg, none⟩) (r.length + 1) cl2 1 (by omega) w
                have HSP : Hid (placesN b (a.drop (k + 1)) (ps ++ [qh]) = placesN b a [] ∧ (ps ++ [qh]).length = k + 1) := Lib.hid ⟨HY.out.symm.trans HS.out.1, by simp [hps]⟩
                have HKE := Lib.hid HCL.out
                clear hz hps hcell hR hlk2 hq
                generalize cutl (some ⟨g, ofg, none⟩) 1 cl2 1 = pt at e2 hcut HR
                generalize cl2 - 1 = ct at e2 hcut HR
                generalize r.length = rl at e1 e2 hcut HR hld ⊢
                have rl0 : 0 < rl + 1 := by omega
                have rl1 : (0 : Int) < (rl : Int) + 1 := by omega
                go_region
                all_goals (
                  go_wp2
                  go_roundw
                  case rel => exact ⟨k + 1, ps ++ [qh], T2, _, by go_num, by omega, Lib.hid ⟨HR.out.below, HR.out.lt, HR.out.pbl, HR.out.num, HR.out.map, HR.out.keys, by have h1 := HR.out.len; have h2 := HKE.out; omega, HR.out.row, HR.out.far, HR.out.no, HR.out.range, HR.out.words, HR.out.place⟩, HSP⟩
                  case measure => simp [intOf]; omega)
          · have kn : ¬ (k : Int) < n := by omega
            have hke2 : k = n := by omega
            go_wp2
            go_ret2
            have hs := HS.out
            rw [hke2, HN.out, List.drop_length, placesN] at hs
            refine ⟨_, _, rfl, HP.out.below, fun _ => ⟨ps, ?_, ?_⟩, fun h => (by cases h)⟩
            · unfold placesG
              rw [if_pos (by rw [← HN.out, ← HM.out]), ← hs.1]
            · have h1 := HP.out.place
              have hn : n = ps.length := by rw [hs.2, HN.out]
              have e : PP n ps = wdN.flat ps := by rw [hn]; exact pp_all ps
              rw [e] at h1
              have h2 : wdN.Own 3 wr (ob + 1) (.slice (some ⟨pb, 0, none⟩) n n) ps := by unfold Wd.Own; rw [← hn]; exact h1
              exact h2.lower (show w.heap.size ≤ ob + 1 by have := HP.out.lt; omega)
  · have hq : ((n : Int) != (m : Int)) = true := bne_iff_ne.2 (by omega)
    go_enter Tryz.func21, Tryz.ntmps21
    go_wp2
    go_ret2
    exact ⟨_, _, rfl, Below.refl _ _, fun h => (by cases h), fun _ => by unfold placesG; rw [if_neg (by rw [← HN.out, ← HM.out]; exact fun e => hnm e.symm)]⟩
end Go.Proofs.YtlkndpofegemdaaGreat.Tra
