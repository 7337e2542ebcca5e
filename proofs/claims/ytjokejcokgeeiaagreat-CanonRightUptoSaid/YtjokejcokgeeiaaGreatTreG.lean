/- What the library's sort gives at ids and at lists of ids, by the developers' closures (layer 17, comps): ids in the order of their records; lists by their first ones. Conditions: those in each statement. -/
import Derived.Test.YtjokejcokgeeiaaGreatTreE
import Derived.Shelf.SlSortCmp.Whole1
namespace Go.Proofs.YtjokejcokgeeiaaGreat.Cps
open Go.RowKit Cmd Bat Ids Rec Wid Gra Rea Mpg Go.Sort
set_option linter.unusedVariables false
set_option linter.unusedSimpArgs false

/-! ### Worlds of the sort -/
theorem sortK_grown {α : Type} [Inhabited α] (enc : α → List Value) (k : Nat) (w : World) (g off m : Nat) (d : Array α) (os : Array Obj) : w.grownBy (sortWorldK enc k w g off m d os) (some g) := by
  refine ⟨rfl, rfl, rfl, ?_, fun j hj hne => ?_⟩
  · unfold sortWorldK grow
    show _ ≤ (_ ++ os).size
    rw [Array.size_append]
    have : (putRowK enc k (Sort.ahead w m) g off d).heap.size = w.heap.size := by unfold putRowK; simp
    omega
  · unfold sortWorldK grow
    show ((putRowK enc k (Sort.ahead w m) g off d).heap ++ os)[j]? = _
    have hs : (putRowK enc k (Sort.ahead w m) g off d).heap.size = w.heap.size := by unfold putRowK; simp
    rw [Array.getElem?_append_left (by rw [hs]; exact hj)]
    unfold putRowK putRow mapBlock
    show (w.heap.modify g _)[j]? = _
    rw [Array.getElem?_modify, if_neg (fun e => hne (by rw [e]))]
theorem sort1_grown {α : Type} [Inhabited α] (enc : α → Value) (w : World) (g off m : Nat) (d : Array α) (os : Array Obj) : w.grownBy (sortWorld enc w g off m d os) (some g) := by
  have hs : (putRow enc (Sort.ahead w m) g off d).heap.size = w.heap.size := by simp
  refine ⟨rfl, rfl, rfl, ?_, fun j hj hne => ?_⟩
  · unfold sortWorld grow
    show _ ≤ (_ ++ os).size
    rw [Array.size_append]; omega
  · unfold sortWorld grow
    show ((putRow enc (Sort.ahead w m) g off d).heap ++ os)[j]? = _
    rw [Array.getElem?_append_left (by rw [hs]; exact hj)]
    unfold putRow mapBlock
    show (w.heap.modify g _)[j]? = _
    rw [Array.getElem?_modify, if_neg (fun e => hne (by rw [e]))]
theorem flatK_same {α β : Type} [Inhabited α] [Inhabited β] {enc : α → List Value} {enc' : β → List Value} {k : Nat} {d : Array α} {d' : Array β} (hs : d.size = d'.size) (h : ∀ j, j < d.size → enc d[j]! = enc' d'[j]!) : flatK enc k d = flatK enc' k d' := by
  refine ext_get! (by simp [hs]) fun t ht => ?_
  have ht1 : t < d.size * k := by simpa using ht
  have hk : 0 < k := by rcases Nat.eq_zero_or_pos k with h | h; · subst h; simp at ht1
                        · exact h
  rw [get_flatK _ _ _ t ht1, get_flatK _ _ _ t (by rw [← hs]; exact ht1), h _ ((Nat.div_lt_iff_lt_mul hk).2 ht1)]

/-! ### Ids that are numbers of 64 bits -/
abbrev WfI := { x : Idn // wfId x }
instance : Inhabited WfI := ⟨⟨(0, 0), ⟨by decide, by decide⟩, ⟨by decide, by decide⟩⟩⟩
def toW : (c : List Idn) → (∀ x ∈ c, wfId x) → List WfI
  | [], _ => []
  | x :: c, h => ⟨x, h x List.mem_cons_self⟩ :: toW c fun y hy => h y (List.mem_cons_of_mem _ hy)
theorem toW_val : ∀ (c : List Idn) (h : ∀ x ∈ c, wfId x), (toW c h).map Subtype.val = c
  | [], _ => rfl
  | x :: c, h => by show x :: (toW c _).map _ = _; rw [toW_val c]
theorem toW_len (c : List Idn) (h : ∀ x ∈ c, wfId x) : (toW c h).length = c.length := by
  have := congrArg List.length (toW_val c h)
  rwa [List.length_map] at this
def encW (x : WfI) : List Value := ids x.1
theorem map_bang {d : Array WfI} {j : Nat} (h : j < d.size) : (d.map Subtype.val)[j]! = d[j]!.1 := by
  rw [getElem!_pos (d.map Subtype.val) j (by simpa using h), getElem!_pos d j h]; simp
theorem holdW {w : World} {g : Nat} {d : Array WfI} (h : HoldsK ids 2 w g 0 (d.map Subtype.val)) : HoldsK encW 2 w g 0 d := by
  unfold HoldsK at *
  rw [flatK_same (enc := encW) (enc' := ids) (d := d) (d' := d.map Subtype.val) (by simp) fun j hj => by rw [map_bang hj]; rfl]
  exact h
theorem holdW' {w : World} {g : Nat} {d : Array WfI} (h : HoldsK encW 2 w g 0 d) : HoldsK ids 2 w g 0 (d.map Subtype.val) := by
  unfold HoldsK at *
  rw [← flatK_same (enc := encW) (enc' := ids) (d := d) (d' := d.map Subtype.val) (by simp) fun j hj => by rw [map_bang hj]; rfl]
  exact h
/-- Sorted without a double: it is the list in order. -/
theorem sorted_is {rs : List Rcd} {l c : List Idn} (hin : ∀ x ∈ c, x ∈ l) (hsub : ∀ x ∈ c, x ∈ idsG rs) (hnd : c.Nodup) {d : List Idn} (hp : d.Perm c) (hs : d.Pairwise fun x y => decide (cfR rs l y x < 0) = false) : d = sortR rs c := by
  have hdn : d.Nodup := hp.symm.nodup hnd
  refine riseR_eq ?_ (sortR_rise rs c) fun x => by rw [hp.mem_iff, sortR_mem]; exact ⟨fun h => ⟨h, hsub x h⟩, fun h => h.1⟩
  have h2 : d.Pairwise fun x y => x ≠ y := hdn
  rw [List.pairwise_iff_forall_sublist] at hs h2
  refine List.pairwise_iff_forall_sublist.2 fun {a b} hab => ?_
  have ha : a ∈ l := hin a (hp.mem_iff.1 (hab.subset (by simp)))
  have hb : b ∈ l := hin b (hp.mem_iff.1 (hab.subset (by simp)))
  have h3 := hs hab
  rw [cfR_in hb ha] at h3
  cases h4 : ltR rs a b with
  | true => rfl
  | false => exact absurd (ltR_tot h4 h3) (h2 hab)
theorem perm_flat {α : Type} {n : Nat} {zs : List α} [Inhabited α] {d : Array α} {lt : α → α → Bool} (hn : n = zs.length) (hp : PermIn 0 n zs.toArray d) (hs : SortedIn lt 0 n d) : d.size = n ∧ d.toList.Perm zs ∧ d.toList.Pairwise fun x y => lt y x = false := by
  obtain ⟨p1, -, p3⟩ := hp
  have hds : d.size = n := by rw [p1, hn]; simp
  have e1 : d.extract 0 n = d := by rw [← hds]; simp
  have e2 : (zs.toArray).extract 0 n = zs.toArray := by rw [hn]; simp
  rw [e1, e2] at p3
  refine ⟨hds, p3, List.pairwise_iff_getElem.2 fun i j hi hj hij => ?_⟩
  have hi' : i < d.size := by simpa using hi
  have hj' : j < d.size := by simpa using hj
  have := hs i j (Nat.zero_le _) hij (by omega)
  rw [getElem!_pos d i hi', getElem!_pos d j hj'] at this
  simpa using this
/-! ### Rows that may be written -/
theorem hold_of_rowM {w : World} {g : Nat} {zs : List Idn} (h : RowM w g zs.toArray) : HoldsK ids 2 w g 0 zs.toArray := fun t ht => by
  rw [size_flatK] at ht
  have hj : t / 2 < zs.toArray.size := by omega
  rw [get_flatK _ _ _ _ ht, Nat.zero_add]
  rcases Nat.mod_two_eq_zero_or_one t with h2 | h2
  · have e : t = t / 2 * 2 := by omega
    refine ⟨?_, ?_⟩
    · rw [h2]
      show w.cell? ⟨g, t, none⟩ = some (.int .i64 _)
      rw [e, Nat.mul_div_cancel _ (by decide)]
      exact h.fst _ hj
    · rw [e]; exact h.fr0 _ hj
  · have e : t = t / 2 * 2 + 1 := by omega
    refine ⟨?_, ?_⟩
    · rw [h2]
      have := h.snd _ hj
      rw [← e] at this
      exact this
    · rw [e]; exact h.fr1 _ hj
theorem roww_own {w : World} {base : Nat} {v : Value} {zs : List Idn} (h : Owns w base v zs) : RowW w base v zs := ⟨h.row, fun hz => by
  obtain ⟨g, cp, rfl, hg0, hgl, hcp, hcm, hh⟩ := Owns.hold h hz
  exact ⟨g, cp, rfl, hg0, hcp, hcm, RowM.of_hold hh hgl⟩⟩
/-- A row of ids is put in the order of their records. -/
theorem sortW_any (rs : List Rcd) (l : List Idn) (bo mr base : Nat) (v : Value) (c : List Idn) (w : World) (h : RowW w base v c) (hwf : ∀ x ∈ c, wfId x) (O : OrdAt w bo mr rs l) (hg : c ≠ [] → ∀ g, v.ownBlock = some g → g ≠ bo ∧ g ≠ mr) (hin : ∀ x ∈ c, x ∈ l) (hsub : ∀ x ∈ c, x ∈ idsG rs) (hnd : c.Nodup) (hl : c.length ≤ 100000) :
    Calls Tryz.prog 51 #[v, ordV bo] w fun E w' => E = .returned (.tuple #[]) ∧ RowAt w' v (sortR rs c) ∧ w.grownBy w' v.ownBlock ∧ (base ≤ w.heap.size → Below base w w') := by
  have eg : ∀ args w, (callFunc 87 args).run Tryz.prog w = .ok (.enter 87 args) w := enters_of Tryz.func87 (by kernel_rfl) rfl
  by_cases hz : c = []
  · subst hz
    obtain ⟨p, cap, rfl, _⟩ := h.1
    exact (AnyF.slices_SortFunc_none Tryz.sortId p cap _ w).mono fun e w' ⟨he, hw⟩ => ⟨he, by rw [hw]; exact h.1, by rw [hw]; exact grown_lowT _ (Below.refl _ _), fun _ => by rw [hw]; exact Below.refl _ _⟩
  · obtain ⟨g, cp, rfl, hg0, hcp, hcm, hm⟩ := h.2 hz
    have hgl := hm.lt
    have hh := hold_of_rowM hm
    obtain ⟨h1, h2⟩ := hg hz g rfl
    have hsz : (toW c hwf).toArray.size = c.length := by simp [toW_len]
    have hmv : (toW c hwf).toArray.map Subtype.val = c.toArray := by
      rw [List.map_toArray, toW_val]
    have hH : HoldsK encW 2 w g 0 (toW c hwf).toArray := holdW (by rw [hmv]; exact hh)
    have hC : CmpLays Tryz.prog 87 #[.pointer (some ⟨bo, 0, none⟩)] encW 2 (fun x y => cfR rs l x.1 y.1) g 0 (toW c hwf).toArray.size w := fun m os dk _ x y =>
      ordc_any rs l bo mr x.1.1 x.1.2 y.1.1 y.1.2 _ (O.far (sortK_grown encW 2 w g 0 m dk os) (fun e => h1 (by injection e)) (fun e => h2 (by injection e))) x.2 y.2
    have hcon := AnyQ.slices_SortFunc Tryz.sortId 2 Tryz.isAgg43 Tryz.sizeOf43 encW (fun _ => rfl) (fun x v hv => by simp [encW, ids] at hv; rcases hv with rfl | rfl <;> rfl) (fun x y => cfR rs l x.1 y.1) (swo_key fun x : WfI => keyR rs l x.1) 87 #[.pointer (some ⟨bo, 0, none⟩)] g 0 cp (toW c hwf).toArray w eg hC hH hgl (by rw [hsz]; omega)
    rw [hsz] at hcon
    refine hcon.mono fun e w' ⟨he, d', m, os, hp, hs, hw⟩ => ?_
    obtain ⟨p1, p2, p3⟩ := perm_flat (by rw [toW_len]) hp hs
    have hgr : w.grownBy w' (some g) := by rw [hw]; exact sortK_grown encW 2 w g 0 m d' os
    have hps : (putRowK encW 2 (Sort.ahead w m) g 0 d').heap.size = w.heap.size := by unfold putRowK; simp
    have k1 := holdsK_putRowK encW 2 (Sort.ahead w m) g 0 (toW c hwf).toArray d' (holdsK_ahead encW 2 w m g 0 _ hH) (by rw [hsz]; exact p1)
    have k2 := holdsK_grow encW 2 _ os g 0 d' (by rw [hps]; exact hgl) k1
    have k3 : HoldsK encW 2 w' g 0 d' := by rw [hw]; exact k2
    have hr := row_of_hold (cap := cp) (holdW' k3) (Nat.lt_of_lt_of_le hgl hgr.size) (by simp; omega) hcm
    have e1 : (d'.map Subtype.val).size = c.length := by simp [p1]
    have e2 : (d'.map Subtype.val).toList = sortR rs c := by
      rw [Array.toList_map]
      have q1 := p2.map Subtype.val
      rw [toW_val] at q1
      refine sorted_is hin hsub hnd q1 ?_
      rw [List.pairwise_map]
      exact p3
    rw [e1, e2] at hr
    exact ⟨he, hr, hgr, fun hb => Below.grown (Below.refl base w) hgr hb (fun k e => by injection e with e; omega)⟩
theorem sortO_any (rs : List Rcd) (l : List Idn) (bo mr base : Nat) (v : Value) (c : List Idn) (w : World) (h : Owns w base v c) (hwf : ∀ x ∈ c, wfId x) (O : OrdAt w bo mr rs l) (hg : ∀ g, v.ownBlock = some g → g ≠ bo ∧ g ≠ mr) (hin : ∀ x ∈ c, x ∈ l) (hsub : ∀ x ∈ c, x ∈ idsG rs) (hnd : c.Nodup) (hl : c.length ≤ 100000) :
    Calls Tryz.prog 51 #[v, ordV bo] w fun E w' => E = .returned (.tuple #[]) ∧ RowAt w' v (sortR rs c) ∧ w.grownBy w' v.ownBlock := (sortW_any rs l bo mr base v c w (roww_own h) hwf O (fun _ => hg) hin hsub hnd hl).mono fun _ _ ⟨h1, h2, h3, _⟩ => ⟨h1, h2, h3⟩
end Go.Proofs.YtjokejcokgeeiaaGreat.Cps

/- What the library's sort gives at lists of ids, by their first ones in the order of records (layer 17, comps). Conditions: those in each statement. -/
namespace Go.Proofs.YtjokejcokgeeiaaGreat.Cps
open Go.RowKit Cmd Bat Ids Rec Wid Gra Rea Mpg Go.Sort
set_option linter.unusedVariables false
set_option linter.unusedSimpArgs false

set_option maxRecDepth 100000 in
set_option maxHeartbeats 4000000 in
theorem ofc_any (rs : List Rcd) (l : List Idn) (bo mr ba : Nat) (pa : Option Addr) (na ca : Nat) (pb : Option Addr) (nb cb : Nat) (x : Idn) (xs : List Idn) (y : Idn) (ys : List Idn) (W : World) (O : OrdAt W bo mr rs l) (hba : W.cell? ⟨ba, 0, none⟩ = some (ordV bo)) (ra : RowAt W (.slice pa na ca) (x :: xs)) (rb : RowAt W (.slice pb nb cb) (y :: ys)) (hx : wfId x) (hy : wfId y) :
    Calls Tryz.prog 53 #[.slice pa na ca, .slice pb nb cb, .pointer (some ⟨ba, 0, none⟩)] W (RetGrew (.int .i64 (cfR rs l x y)) W) := by
  obtain ⟨x1, x2⟩ := x
  obtain ⟨y1, y2⟩ := y
  obtain ⟨A, oa, rfl, hna, hca, -, a0, a1⟩ := rowat_head ra
  obtain ⟨B, ob, rfl, hnb, hcb, -, b0, b1⟩ := rowat_head rb
  obtain ⟨ka, hka⟩ : ∃ k, k = xs.length := ⟨_, rfl⟩
  obtain ⟨kb, hkb⟩ : ∃ k, k = ys.length := ⟨_, rfl⟩
  rw [← hka] at hna
  rw [← hkb] at hnb
  subst hna; subst hnb
  have l0 : ∀ n os, (grow (W.drewN n) os).cell? ⟨ba, 0, none⟩ = some (ordV bo) := fun n os => cell_grown (World.block_lt_of_cell? _ _ hba) hba n os
  have l1 : ∀ n os, (grow (W.drewN n) os).cell? ⟨A, oa, none⟩ = some (.int .i64 x1) := fun n os => cell_grown (World.block_lt_of_cell? _ _ a0) a0 n os
  have l2 : ∀ n os, (grow (W.drewN n) os).cell? ⟨A, oa + 1, none⟩ = some (.int .i64 x2) := fun n os => cell_grown (World.block_lt_of_cell? _ _ a1) a1 n os
  have l3 : ∀ n os, (grow (W.drewN n) os).cell? ⟨B, ob, none⟩ = some (.int .i64 y1) := fun n os => cell_grown (World.block_lt_of_cell? _ _ b0) b0 n os
  have l4 : ∀ n os, (grow (W.drewN n) os).cell? ⟨B, ob + 1, none⟩ = some (.int .i64 y2) := fun n os => cell_grown (World.block_lt_of_cell? _ _ b1) b1 n os
  have h1 : 0 < ka + 1 := by omega
  have h2 : 0 < kb + 1 := by omega
  have HC : Hid (∀ n os, Calls Tryz.prog 87 #[.agg #[.int .i64 x1, .int .i64 x2], .agg #[.int .i64 y1, .int .i64 y2], .pointer (some ⟨bo, 0, none⟩)] (grow (W.drewN n) os) fun e w' => e = .returned (.int .i64 (cfR rs l (x1, x2) (y1, y2))) ∧ ∃ q os', w' = grow ((grow (W.drewN n) os).drewN q) os') := Lib.hid fun n os =>
    ordc_any rs l bo mr x1 x2 y1 y2 _ (O.below (Grew.below ⟨n, os, rfl⟩)) hx hy
  generalize cfR rs l (x1, x2) (y1, y2) = cf at HC ⊢
  have hmix : Tryz.prog.follows .mixedOrders = true := by kernel_rfl
  clear O hba ra rb hx hy hka hkb a0 a1 b0 b1
  go_enter Tryz.func53, Tryz.ntmps53
  go_wp2_with fail
  go_quiet_grown (first | (go_at_call 87; refine Calls.grown_of (HC.out _ _)))
  go_wp2
  go_ret
  exact ⟨rfl, nq, osq, rfl⟩

/-! ### Lists of ids, none of them without an element -/
theorem run_LL {w : World} {base g n cap : Nat} {rs : List Rw} (h : wdRw.Own 38 w base (.slice (some ⟨g, 0, none⟩) n cap) rs) {j : Nat} (hj : j < rs.length) : w.cell? ⟨g, 0 + j, none⟩ = some (sliceOf (rs[j]).1) ∧ w.frozen? ⟨g, 0 + j, none⟩ = false := by
  obtain ⟨g', e', rfl, -⟩ := wd_ptr h (by omega)
  have h' : w.ownsRow base 38 1 (.slice (some ⟨g, 0, none⟩) rs.length cap) rs.length (wdRw.flat rs) := h
  refine ⟨?_, h'.frozenAt _⟩
  rw [Nat.zero_add, h'.cellAt j (by omega)]
  have := wdRw.flat_at rs j 0 hj (by decide)
  rw [show wdRw.c = 1 from rfl, Nat.mul_one, Nat.add_zero] at this
  rw [this]; rfl
/-- A list of lists is put in the order of their first ones. -/
theorem sortLL_any (recs : List Rcd) (l : List Idn) (bo mr ba base : Nat) (v : Value) (rows : List Rw) (w : World) (h : wdRw.Own 38 w base v rows) (hr : ∀ r ∈ rows, RowAt w (sliceOf r.1) r.2 ∧ r.2 ≠ [] ∧ (∀ x ∈ r.2, wfId x)) (O : OrdAt w bo mr recs l) (hba : w.cell? ⟨ba, 0, none⟩ = some (ordV bo))
    (hg : ∀ g, v.ownBlock = some g → g ≠ bo ∧ g ≠ mr ∧ g ≠ ba ∧ ∀ r ∈ rows, (sliceOf r.1).ownBlock ≠ some g) (hl : rows.length ≤ 100000) :
    Calls Tryz.prog 52 #[v, .func (.func 53) #[] #[.pointer (some ⟨ba, 0, none⟩)]] w fun E w' => E = .returned (.tuple #[]) ∧ ∃ rows' : List Rw, rows'.Perm rows ∧ (rows'.Pairwise fun a b => decide (cfR recs l (nth b.2 0) (nth a.2 0) < 0) = false) ∧ layLL.Row w' v (rows'.map Prod.snd) ∧ w.grownBy w' v.ownBlock := by
  have eg : ∀ args w, (callFunc 53 args).run Tryz.prog w = .ok (.enter 53 args) w := enters_of Tryz.func53 (by kernel_rfl) rfl
  by_cases hz : rows = []
  · subst hz
    obtain ⟨p, cap, rfl⟩ := wd_shape h
    obtain ⟨p', cap', e, e1, e2, -⟩ := h.row
    injection e with e3 e4 e5
    subst e3; subst e5
    refine (AnyF.slices_SortFunc_none { Tryz.sortLL with } p cap _ w).mono fun e w' ⟨he, hw⟩ => ⟨he, [], List.Perm.nil, List.Pairwise.nil, ?_, by rw [hw]; exact grown_lowT _ (Below.refl _ _)⟩
    exact ⟨p, cap, rfl, e1, e2, fun h => absurd rfl h⟩
  · obtain ⟨p, cap, rfl⟩ := wd_shape h
    obtain ⟨g, rfl, hn, hg0, hgl, hcap, hcm⟩ := wd_ptr h (List.length_pos_iff.2 hz)
    obtain ⟨g1, g2, g3, g4⟩ := hg g rfl
    obtain ⟨r0, hr0⟩ := List.exists_mem_of_ne_nil _ hz
    letI : Inhabited { r : Rw // r ∈ rows } := ⟨⟨r0, hr0⟩⟩
    have hsz : rows.attach.toArray.size = rows.length := by simp
    have hat : ∀ j, j < rows.length → (rows.attach.toArray[j]!).1 = rows[j]! := fun j hj => by
      rw [getElem!_pos rows.attach.toArray j (by rw [hsz]; exact hj), getElem!_pos rows j hj]; simp
    have hH : Holds (fun r : { r : Rw // r ∈ rows } => sliceOf r.1.1) w g 0 rows.attach.toArray := fun j hj => by
      rw [hsz] at hj
      obtain ⟨c1, c2⟩ := run_LL h hj
      refine ⟨?_, c2⟩
      rw [c1]
      show some (sliceOf _) = some (sliceOf _)
      rw [hat j hj, getElem!_pos rows j hj]
    have hC : CmpLays1 Tryz.prog 53 #[.pointer (some ⟨ba, 0, none⟩)] (fun r : { r : Rw // r ∈ rows } => sliceOf r.1.1) (fun x y => cfR recs l (nth x.1.2 0) (nth y.1.2 0)) g 0 rows.attach.toArray.size w := fun m os dk _ x y => by
      obtain ⟨⟨⟨pa, na, ca⟩, la⟩, hx⟩ := x
      obtain ⟨⟨⟨pb, nb, cb⟩, lb⟩, hy⟩ := y
      obtain ⟨x1, x2, x3⟩ := hr _ hx
      obtain ⟨y1, y2, y3⟩ := hr _ hy
      have hgr := sort1_grown (fun r : { r : Rw // r ∈ rows } => sliceOf r.1.1) w g 0 m dk os
      have rx := rowat_far x1 hgr (fun b e e2 => g4 _ hx (by rw [e2]; exact e))
      have ry := rowat_far y1 hgr (fun b e e2 => g4 _ hy (by rw [e2]; exact e))
      have hb2 := (World.cell?_of_block (w := w) (a := ⟨ba, 0, none⟩) (hgr.block ba (World.block_lt_of_cell? _ _ hba) (fun e => g3 (by injection e with e; exact e.symm)))).trans hba
      cases la with
      | nil => exact absurd rfl x2
      | cons x xs =>
        cases lb with
        | nil => exact absurd rfl y2
        | cons y ys => exact ofc_any recs l bo mr ba pa na ca pb nb cb x xs y ys _ (O.far hgr (fun e => g1 (by injection e)) (fun e => g2 (by injection e))) hb2 rx ry (x3 x List.mem_cons_self) (y3 y List.mem_cons_self)
    have hcon := Any.slices_SortFunc Tryz.sortLL (fun r : { r : Rw // r ∈ rows } => sliceOf r.1.1) (fun _ => rfl) (fun x y => cfR recs l (nth x.1.2 0) (nth y.1.2 0)) (swo_key fun x : { r : Rw // r ∈ rows } => keyR recs l (nth x.1.2 0)) 53 #[.pointer (some ⟨ba, 0, none⟩)] g 0 cap rows.attach.toArray w eg hC hH hgl (by rw [hsz]; omega)
    rw [hsz] at hcon
    refine hcon.mono fun e w' ⟨he, d', m, os, hp, hs, hw⟩ => ?_
    obtain ⟨p1, p2, p3⟩ := perm_flat (by simp) hp hs
    have hgr : w.grownBy w' (some g) := by rw [hw]; exact sort1_grown _ w g 0 m d' os
    have hperm : (d'.toList.map Subtype.val).Perm rows := by
      have q1 := p2.map Subtype.val
      have q2 : rows.attach.map Subtype.val = rows := List.attach_map_subtype_val rows
      rw [q2] at q1; exact q1
    have hlen : ((d'.toList.map Subtype.val).map Prod.snd).length = rows.length := by simp [p1]
    refine ⟨he, d'.toList.map Subtype.val, hperm, ?_, ?_, hgr⟩
    · rw [List.pairwise_map]; exact p3
    · refine ⟨some ⟨g, 0, none⟩, cap, by rw [hlen], by rw [hlen]; exact hcap, hcm, fun _ => ⟨g, 0, rfl, Nat.lt_of_lt_of_le hgl hgr.size, fun j hj => ?_⟩⟩
      rw [hlen] at hj
      have hj' : j < d'.size := by omega
      have hH' : Holds (fun r : { r : Rw // r ∈ rows } => sliceOf r.1.1) w' g 0 d' := by
        have k1 := holds_putRow (fun r : { r : Rw // r ∈ rows } => sliceOf r.1.1) (Sort.ahead w m) g 0 rows.attach.toArray d' (holds_ahead _ w m g 0 _ hH) (by rw [hsz]; exact p1)
        rw [hw]
        exact holds_grow _ _ os g 0 d' (by simp; exact hgl) k1
      obtain ⟨c1, -⟩ := hH' j hj'
      have hmem := (d'[j]!).2
      obtain ⟨x1, -, -⟩ := hr _ hmem
      refine ⟨_, c1, ?_⟩
      have e1 : layLL.at ((d'.toList.map Subtype.val).map Prod.snd) j = (d'[j]!).1.2 := by
        rw [ll_at, List.getD_eq_getElem?_getD, List.getElem?_eq_getElem (by simp; exact hj'), getElem!_pos d' j hj']; simp
      rw [e1]
      exact rowat_far x1 hgr (fun b e e2 => g4 _ hmem (by rw [e2]; exact e))
end Go.Proofs.YtjokejcokgeeiaaGreat.Cps
