/- What the document's Put and Sorted give (layer 3, ident): the list with one more id in its place; the list in order, each id once. Conditions: the list lies in memory as its cells say, and is not longer than 100000. -/
import Derived.Test.YtimkkelnakamkaaIdP
import Derived.WalkSmall
namespace Go.Proofs.Ytimkkelnakamkaa.Ids
open Go.RowKit
set_option linter.unusedVariables false

/-! ### Rows of the call's own -/
def flat (zs : List Idn) : List Value := zs.flatMap ids
theorem flat_len : ∀ zs : List Idn, (flat zs).length = zs.length * 2
  | [] => rfl
  | x :: t => by
    have := flat_len t
    unfold flat at *
    rw [List.flatMap_cons, List.length_append, this, List.length_cons]
    show 2 + _ = _
    omega
theorem flat_app (a b : List Idn) : flat (a ++ b) = flat a ++ flat b := by unfold flat; rw [List.flatMap_append]
theorem flat_at : ∀ (zs : List Idn) (j : Nat), j < zs.length → (flat zs)[j * 2]? = some (.int .i64 (nth zs j).1) ∧ (flat zs)[j * 2 + 1]? = some (.int .i64 (nth zs j).2)
  | x :: t, 0, _ => ⟨rfl, rfl⟩
  | x :: t, j + 1, h => by
    have ih := flat_at t j (by simpa using h)
    have e : flat (x :: t) = .int .i64 x.1 :: .int .i64 x.2 :: flat t := rfl
    rw [e, nth_cons_succ, show (j + 1) * 2 = j * 2 + 2 by omega, show j * 2 + 2 + 1 = j * 2 + 1 + 2 by omega]
    exact ih
abbrev Owns (w : World) (base : Nat) (v : Value) (zs : List Idn) : Prop := w.ownsRow base 24 2 v zs.length (flat zs)
theorem add_lit (g j : Nat) : ((⟨g, 0, none⟩ : Addr).add j) = ⟨g, j, none⟩ := by unfold Addr.add; split <;> simp_all
theorem Owns.row {w : World} {base : Nat} {v : Value} {zs : List Idn} (h : Owns w base v zs) : RowAt w v zs := by
  have hc := fun g hg => World.ownsRow.cells h (g := g) hg
  have hlt := World.ownsRow.lt h
  rcases h.2 with ⟨rfl, h0⟩ | ⟨g, cap, cur, rfl, hb, hg, hn, hm, -, -⟩
  · have e : zs = [] := List.eq_nil_of_length_eq_zero h0
    subst e
    exact ⟨none, 0, rfl, Nat.le_refl _, by omega, fun _ => rfl, fun h => absurd rfl h⟩
  · refine ⟨some ⟨g, 0, none⟩, cap, rfl, hn, by unfold maxLen at hm; omega, (fun h => by cases h), fun _ => ⟨g, 0, rfl, (hlt g rfl).2, fun j hj => ?_⟩⟩
    have h1 := flat_at zs j hj
    have e1 := hc g rfl _ _ h1.1
    have e2 := hc g rfl _ _ h1.2
    rw [add_lit] at e1 e2
    rw [Nat.zero_add]
    exact ⟨e1, e2⟩
theorem Owns.snoc {w : World} {base : Nat} {v : Value} {zs : List Idn} {x y : Int} (h : w.ownsRow base 24 2 v (zs.length + 1) (flat zs ++ [.int .i64 x, .int .i64 y])) : Owns w base v (zs ++ [(x, y)]) := by
  have e : flat zs ++ [.int .i64 x, .int .i64 y] = flat (zs ++ [(x, y)]) := by rw [flat_app]; rfl
  unfold Owns
  rw [← e, List.length_append]; exact h

/-- What lies under the box of a call, and the box. -/
theorem Boxed.of {w wr : World} {a b : Int} (h : Below (w.heap.size + 1) (w.alloc (cells a b)) wr) : Boxed w a b wr := by
  have h0 := Boxed.start w a b
  refine h0.on (h.mono ?_)
  simp
theorem put_far {w wr w1 : World} {a b : Int} {v : Value} {zs : List Idn} (h : Below (w.heap.size + 1) (w.alloc (cells a b)) wr) (hown : Owns wr (w.heap.size + 1) v zs) (o : Obj) (hg : (wr.alloc o).grownBy w1 v.ownBlock) : Below (w.heap.size + 1) (w.alloc (cells a b)) w1 := by
  have hs : w.heap.size + 1 ≤ wr.heap.size := by have := h.size; simpa using this
  exact Below.grown (h.alloc hs _) hg (by simp; omega) (fun k hk => (World.ownsRow.lt hown k hk).1)

theorem info_id : (Try.prog.info? 24).map (fun i => (i.zero, i.size, i.bytes)) = some (some (.agg #[.int .i64 0, .int .i64 0]), 2, 16) := by kernel_rfl
/-- The invariant of Put's loop. -/
def PutAt (x : Idn) (zs out : List Idn) (k : Nat) (d : Bool) : Prop := ins x zs = out ++ (if d then zs.drop k else ins x (zs.drop k)) ∧ out.length = k + d.toNat
theorem PutAt.start (x : Idn) (zs : List Idn) : PutAt x zs [] 0 false := ⟨rfl, rfl⟩
theorem drop_nth {zs : List Idn} {k : Nat} (h : k < zs.length) : zs.drop k = nth zs k :: zs.drop (k + 1) := by
  unfold nth
  rw [List.drop_eq_getElem_cons h, List.getD_eq_getElem?_getD, List.getElem?_eq_getElem h]; rfl
theorem PutAt.past {x : Idn} {zs out : List Idn} {k : Nat} (h : PutAt x zs out k true) (hk : k < zs.length) : PutAt x zs (out ++ [nth zs k]) (k + 1) true := by
  refine ⟨?_, by rw [List.length_append, h.2]; show k + 1 + 1 = k + 1 + 1; rfl⟩
  rw [h.1, if_pos rfl, if_pos rfl, drop_nth hk]; simp
theorem PutAt.go {x : Idn} {zs out : List Idn} {k : Nat} (h : PutAt x zs out k false) (hk : k < zs.length) (hx : idLt x (nth zs k) = false) : PutAt x zs (out ++ [nth zs k]) (k + 1) false := by
  refine ⟨?_, by rw [List.length_append, h.2]; simp⟩
  rw [h.1, drop_nth hk]
  simp [ins, hx]
theorem PutAt.hit {x : Idn} {zs out : List Idn} {k : Nat} (h : PutAt x zs out k false) (hk : k < zs.length) (hx : idLt x (nth zs k) = true) : PutAt x zs (out ++ [x] ++ [nth zs k]) (k + 1) true := by
  refine ⟨?_, by rw [List.length_append, List.length_append, h.2]; simp⟩
  rw [h.1, drop_nth hk]
  simp [ins, hx]
theorem PutAt.endT {x : Idn} {zs out : List Idn} (h : PutAt x zs out zs.length true) : ins x zs = out := by
  have := h.1
  simpa using this
theorem PutAt.endF {x : Idn} {zs out : List Idn} (h : PutAt x zs out zs.length false) : ins x zs = out ++ [x] := by
  have := h.1
  simpa [ins] using this

/-- A row in new memory. -/
def GivesNew (zs : List Idn) (w : World) (e : Ending) (w' : World) : Prop := ∃ v, e = .returned v ∧ RowAt w' v zs ∧ Below w.heap.size w w' ∧ ∀ k, v.ownBlock = some k → w.heap.size ≤ k
def GivesRow (zs : List Idn) (w : World) (e : Ending) (w' : World) : Prop := ∃ v, e = .returned v ∧ RowAt w' v zs ∧ Below w.heap.size w w'

set_option maxHeartbeats 4000000 in
set_option maxRecDepth 100000 in
theorem put_new (v : Value) (zs : List Idn) (a b : Int) (w : World) (h : RowAt w v zs) (hl : zs.length ≤ 100000) (hm : (a, b) ∉ zs) : Calls Try.prog 31 #[v, .agg #[.int .i64 a, .int .i64 b]] w (GivesNew (put zs (a, b)) w) := by
  have HH : Hid (∀ W, Below w.heap.size w W → Calls Try.prog 32 #[v, .agg #[.int .i64 a, .int .i64 b]] W fun e w' => e = .returned (.bool (decide ((a, b) ∈ zs))) ∧ Below W.heap.size W w') := Lib.hid fun W hW => refhas_any v zs a b W (h.on hW)
  have H0 := Lib.hid h
  have hp : put zs (a, b) = ins (a, b) zs := by unfold put; rw [if_neg hm]
  rw [hp]
  rw [decide_eq_false hm] at HH
  clear hp hm
  obtain ⟨i0, hi, hz0, hz1, hz2⟩ := info_parts info_id
  obtain ⟨p, cap, rfl, h1, h2, -, h3⟩ := h
  obtain ⟨n, hn⟩ : ∃ n, n = zs.length := ⟨_, rfl⟩
  have HZ := Lib.hid hn
  rw [← hn] at h1 hl HH H0 h3 ⊢
  have hd : n = 0 ∨ ∃ B off, p = some ⟨B, off, none⟩ ∧ Hid (Row2 w B off zs) := by
    by_cases hz : zs = []
    · left; rw [hn, hz]; rfl
    · right
      obtain ⟨B, off, rfl, hlt, hc⟩ := h3 hz
      rw [hn] at hc
      exact ⟨B, off, rfl, Lib.hid ⟨hlt, fun j hj => (hc j hj).1, fun j hj => (hc j hj).2⟩⟩
  clear h3 hn H0
  go_enter Try.func31, Try.ntmps31
  go_wp2_with (first
    | (go_at_call 32; ((with_reducible refine (HH.out _ (below_one _ _)).mono ?_); rintro e w1 ⟨rfl, hb⟩; have HB := Lib.hid hb; clear hb)))
  go_loopw [5, 6, 7] (fun o d i wr => ∃ (k : Nat) (dn : Bool) (out : List Idn), k ≤ n ∧ out.length ≤ k + 1 ∧ i = .int .i64 k ∧ d = .bool dn ∧ Hid (Below (w.heap.size + 1) (w.alloc (cells a b)) wr) ∧ Hid (Owns wr (w.heap.size + 1) o out) ∧ Hid (PutAt (a, b) zs out k dn)) (fun _ _ i _ => n - (intOf i).toNat)
  case atStart =>
    have hb : Below (w.heap.size + 1) (w.alloc (cells a b)) w1 := HB.out.mono (by simp)
    have hs : w.heap.size + 1 ≤ w1.heap.size := by have := hb.size; simpa using this
    exact ⟨0, false, [], Nat.zero_le _, Nat.zero_le _, rfl, rfl, Lib.hid (hb.alloc hs _), Lib.hid (World.ownsRow_made w1 #[] 0 hs (by decide) rfl), Lib.hid (PutAt.start _ _)⟩
  case round =>
    obtain ⟨k, dn, out, hk, ho, rfl, rfl, hbw, hown, hput⟩ := hrel
    have hs : w.heap.size + 1 ≤ wr.heap.size := by have := hbw.out.size; simpa using this
    have hbx := Boxed.of hbw.out
    have c3 := hbx.fst
    have c4 := hbx.snd
    by_cases hkn : k < n
    · obtain ⟨B, off, rfl, HC⟩ : ∃ B off, p = some ⟨B, off, none⟩ ∧ Hid (Row2 w B off zs) := hd.resolve_left (by omega)
      have hrow := HC.out.on hbx.below
      have c1 := hrow.fst k (by rw [← HZ.out]; exact hkn)
      have c2 := hrow.snd k (by rw [← HZ.out]; exact hkn)
      have k0 : (0 : Int) ≤ k := by omega
      have kn : (k : Int) < n := by omega
      obtain ⟨x, y, hxy⟩ : ∃ x y, nth zs k = (x, y) := ⟨_, _, rfl⟩
      rw [hxy] at c1 c2
      have HX := Lib.hid hxy
      have HR := Lib.hid hrow
      have hbx' := hbx
      clear hrow hbx hd hxy HH
      cases dn with
      | true =>
        have ho2 := hput.out.2
        have HP := Lib.hid (hput.out.past (by rw [← HZ.out]; exact hkn))
        rw [HX.out] at HP
        go_wp2
        go_quiet (fail)
        have hoD : Hid (Owns (wr.drewN nq) (w.heap.size + 1) u5 out) := Lib.hid hown.out
        have hbD := Lib.hid (below_drN hbw.out nq)
        go_wp2_with (first
          | (at_builtin; refine wpList_append_own _ rfl _ _ 32 rfl (w.heap.size + 1) 24 i0 (.agg #[.int .i64 0, .int .i64 0]) 2 16 Try.underlying32 hi hz0 hz1 hz2 rfl (by decide) _ _ _ rfl (World.ownsRow.alloc hoD.out _) ⟨wr.heap.size, 0, none⟩ 1 1 [.int .i64 x, .int .i64 y] rfl rfl (cell_two_new _ _ _ _) (fun u hu => by simp at hu; rcases hu with rfl | rfl <;> rfl) (by unfold maxLen; omega) (by omega) (by simp; omega) ?_; intro v1 w3 hown1 hgrow1 hnil1; have X1 := Lib.hid (And.intro (Owns.snoc hown1) (put_far hbD.out hoD.out _ hgrow1)); clear hown1 hgrow1 hnil1))
        go_roundw
        case rel => exact ⟨k + 1, true, out ++ [(x, y)], by omega, by simp; omega, by go_num, rfl, Lib.hid X1.out.2, Lib.hid X1.out.1, HP⟩
        case measure => simp [intOf]; omega
      | false =>
        have hlt := less_any a b x y
        have HK := Lib.hid (fun w' (hb : Below wr.heap.size wr w') => And.intro (hbx'.on hb).fst (And.intro (hbx'.on hb).snd (And.intro ((hb.cell (p := ⟨B, off + k * 2, none⟩) HR.out.lt).trans c1) ((hb.cell (p := ⟨B, off + k * 2 + 1, none⟩) HR.out.lt).trans c2))))
        obtain ⟨W, hW, hbW, hoW, hWW⟩ : ∃ W, two wr.drew a b x y = W ∧ Hid (Below (w.heap.size + 1) (w.alloc (cells a b)) W) ∧ Hid (Owns W (w.heap.size + 1) u5 out) ∧ Hid (Below wr.heap.size wr W) :=
          ⟨_, rfl, Lib.hid (hbw.out.trans ((below_drew_two _ _ _ _ _).mono hs)), Lib.hid (World.ownsRow.alloc (World.ownsRow.alloc (w := wr.drew) hown.out _) _), Lib.hid (below_drew_two _ _ _ _ _)⟩
        have hsW : w.heap.size + 1 ≤ W.heap.size := Nat.le_trans hs hWW.out.size
        have d := HK.out W hWW.out
        obtain ⟨d3, d4, d1, d2⟩ := d
        cases hl : idLt (a, b) (x, y) with
        | true =>
          have ho2 := hput.out.2
          have HP := Lib.hid (hput.out.hit (by rw [← HZ.out]; exact hkn) (by rw [HX.out]; exact hl))
          rw [HX.out] at HP
          have HL := Lib.hid hlt
          rw [hl] at HL
          clear hlt hl hbx'
          go_wp2
          go_region_held3 (fun w' => w'.cell? ⟨w.heap.size, 0, none⟩ = some (.int .i64 a) ∧ w'.cell? ⟨w.heap.size, 1, none⟩ = some (.int .i64 b) ∧ w'.cell? ⟨B, off + k * 2, none⟩ = some (.int .i64 x) ∧ w'.cell? ⟨B, off + k * 2 + 1, none⟩ = some (.int .i64 y)) (first | go_keep | exact HK.out _ hWW.out) (first | (go_at_call 36; refine (HL.out _).mono ?_; rintro e w' ⟨rfl, hw⟩; replace hw := (hw.trans hW).symm; subst hw))
          go_wp2_with (first
            | (at_builtin; refine wpList_append_own _ rfl _ _ 32 rfl (w.heap.size + 1) 24 i0 (.agg #[.int .i64 0, .int .i64 0]) 2 16 Try.underlying32 hi hz0 hz1 hz2 rfl (by decide) _ _ _ rfl (World.ownsRow.alloc hoW.out _) ⟨W.heap.size, 0, none⟩ 1 1 [.int .i64 a, .int .i64 b] rfl rfl (cell_two_new _ _ _ _) (fun u hu => by simp at hu; rcases hu with rfl | rfl <;> rfl) (by unfold maxLen; omega) (by omega) (by simp; omega) ?_; intro v1 w3 hown1 hgrow1 hnil1; have X1 := Lib.hid (And.intro (Owns.snoc hown1) (put_far hbW.out hoW.out _ hgrow1)); have q1 := (HC.out.on (Boxed.of X1.out.2).below).fst k (by rw [← HZ.out]; exact hkn); have q2 := (HC.out.on (Boxed.of X1.out.2).below).snd k (by rw [← HZ.out]; exact hkn); rw [HX.out] at q1 q2; have hs3 : w.heap.size + 1 ≤ w3.heap.size := (by have := X1.out.2.size; simpa using this); clear hown1 hgrow1 hnil1)
            | (at_builtin; refine wpList_append_own _ rfl _ _ 32 rfl (w.heap.size + 1) 24 i0 (.agg #[.int .i64 0, .int .i64 0]) 2 16 Try.underlying32 hi hz0 hz1 hz2 rfl (by decide) _ _ _ rfl (World.ownsRow.alloc X1.out.1 _) ⟨w3.heap.size, 0, none⟩ 1 1 [.int .i64 x, .int .i64 y] rfl rfl (cell_two_new _ _ _ _) (fun u hu => by simp at hu; rcases hu with rfl | rfl <;> rfl) (by rw [List.length_append]; simp only [List.length_cons, List.length_nil]; unfold maxLen; omega) (by rw [List.length_append]; simp only [List.length_cons, List.length_nil]; omega) (by simp; omega) ?_; intro v2 w4 hown2 hgrow2 hnil2; have X2 := Lib.hid (And.intro (Owns.snoc hown2) (put_far X1.out.2 X1.out.1 _ hgrow2)); clear hown2 hgrow2 hnil2))
          go_roundw
          case rel => exact ⟨k + 1, true, out ++ [(a, b)] ++ [(x, y)], by omega, by have e : out.length = k := ho2; simp; omega, by go_num, rfl, Lib.hid X2.out.2, Lib.hid X2.out.1, HP⟩
          case measure => simp [intOf]; omega
        | false =>
          have ho2 := hput.out.2
          have HP := Lib.hid (hput.out.go (by rw [← HZ.out]; exact hkn) (by rw [HX.out]; exact hl))
          rw [HX.out] at HP
          have HL := Lib.hid hlt
          rw [hl] at HL
          clear hlt hl hbx'
          go_wp2
          go_region_held3 (fun w' => w'.cell? ⟨w.heap.size, 0, none⟩ = some (.int .i64 a) ∧ w'.cell? ⟨w.heap.size, 1, none⟩ = some (.int .i64 b) ∧ w'.cell? ⟨B, off + k * 2, none⟩ = some (.int .i64 x) ∧ w'.cell? ⟨B, off + k * 2 + 1, none⟩ = some (.int .i64 y)) (first | go_keep | exact HK.out _ hWW.out) (first | (go_at_call 36; refine (HL.out _).mono ?_; rintro e w' ⟨rfl, hw⟩; replace hw := (hw.trans hW).symm; subst hw))
          go_wp2_with (first
            | (at_builtin; refine wpList_append_own _ rfl _ _ 32 rfl (w.heap.size + 1) 24 i0 (.agg #[.int .i64 0, .int .i64 0]) 2 16 Try.underlying32 hi hz0 hz1 hz2 rfl (by decide) _ _ _ rfl (World.ownsRow.alloc hoW.out _) ⟨W.heap.size, 0, none⟩ 1 1 [.int .i64 x, .int .i64 y] rfl rfl (cell_two_new _ _ _ _) (fun u hu => by simp at hu; rcases hu with rfl | rfl <;> rfl) (by unfold maxLen; omega) (by omega) (by simp; omega) ?_; intro v1 w3 hown1 hgrow1 hnil1; have X1 := Lib.hid (And.intro (Owns.snoc hown1) (put_far hbW.out hoW.out _ hgrow1)); clear hown1 hgrow1 hnil1))
          go_roundw
          case rel => exact ⟨k + 1, false, out ++ [(x, y)], by omega, by simp; omega, by go_num, rfl, Lib.hid X1.out.2, Lib.hid X1.out.1, HP⟩
          case measure => simp [intOf]; omega
    · have kn : ¬ (k : Int) < n := by omega
      have hkn' : k = zs.length := by rw [← HZ.out]; omega
      cases dn with
      | true =>
        have HE : Hid (ins (a, b) zs = out) := Lib.hid (PutAt.endT (by rw [← hkn']; exact hput.out))
        clear hkn' HH hbx hd
        go_wp2
        go_ret
        exact ⟨_, rfl, by rw [HE.out]; exact Owns.row hown.out, (below_one w (cells a b)).trans (hbw.out.mono (by omega)), fun k hk => by have := (World.ownsRow.lt hown.out k hk).1; omega⟩
      | false =>
        have HE : Hid (ins (a, b) zs = out ++ [(a, b)]) := Lib.hid (PutAt.endF (by rw [← hkn']; exact hput.out))
        clear hkn' HH hbx hd
        go_wp2_with (first
          | (at_builtin; refine wpList_append_own _ rfl _ _ 32 rfl (w.heap.size + 1) 24 i0 (.agg #[.int .i64 0, .int .i64 0]) 2 16 Try.underlying32 hi hz0 hz1 hz2 rfl (by decide) _ _ _ rfl (World.ownsRow.alloc hown.out _) ⟨wr.heap.size, 0, none⟩ 1 1 [.int .i64 a, .int .i64 b] rfl rfl (cell_two_new _ _ _ _) (fun u hu => by simp at hu; rcases hu with rfl | rfl <;> rfl) (by unfold maxLen; omega) (by omega) (by simp; omega) ?_; intro v1 w3 hown1 hgrow1 hnil1; have X1 := Lib.hid (And.intro (Owns.snoc hown1) (put_far hbw.out hown.out _ hgrow1)); clear hown1 hgrow1 hnil1))
        go_ret
        exact ⟨_, rfl, by rw [HE.out]; exact Owns.row X1.out.1, (below_one w (cells a b)).trans (X1.out.2.mono (by omega)), fun k hk => by have := (World.ownsRow.lt X1.out.1 k hk).1; omega⟩
set_option maxHeartbeats 4000000 in
set_option maxRecDepth 100000 in
theorem put_any (v : Value) (zs : List Idn) (a b : Int) (w : World) (h : RowAt w v zs) (hl : zs.length ≤ 100000) : Calls Try.prog 31 #[v, .agg #[.int .i64 a, .int .i64 b]] w (GivesRow (put zs (a, b)) w) := by
  have HH : Hid (∀ W, Below w.heap.size w W → Calls Try.prog 32 #[v, .agg #[.int .i64 a, .int .i64 b]] W fun e w' => e = .returned (.bool (decide ((a, b) ∈ zs))) ∧ Below W.heap.size W w') := Lib.hid fun W hW => refhas_any v zs a b W (h.on hW)
  have H0 := Lib.hid h
  by_cases hm : (a, b) ∈ zs
  · have hp : put zs (a, b) = zs := by unfold put; rw [if_pos hm]
    rw [hp]
    rw [decide_eq_true hm] at HH
    clear hp hm h hl
    go_enter Try.func31, Try.ntmps31
    go_wp2_with (first
      | (go_at_call 32; ((with_reducible refine (HH.out _ (below_one _ _)).mono ?_); rintro e w1 ⟨rfl, hb⟩; have HB := Lib.hid hb; clear hb)))
    go_ret
    have hb : Below w.heap.size w w1 := (below_one _ _).trans (HB.out.mono (by simp))
    exact ⟨_, rfl, H0.out.on hb, hb⟩
  · exact (put_new v zs a b w h hl hm).mono fun e w' ⟨u, he, hr, hb, _⟩ => ⟨u, he, hr, hb⟩

/-! ### The document's Sorted -/
end Go.Proofs.Ytimkkelnakamkaa.Ids
