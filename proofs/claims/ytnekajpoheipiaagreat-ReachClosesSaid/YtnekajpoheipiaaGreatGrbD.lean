/- What the library's Clone gives at ids; what the developers' Users, Edges give (layer 15, edges). Conditions: those in each statement. -/
import Derived.Test.YtnekajpoheipiaaGreatGrbC
import Derived.Lib.SliceRun
namespace Go.Proofs.YtnekajpoheipiaaGreat.Gra
open Go.RowKit Cmd Bat Ids Rec Wid Mpg Go.Maps
set_option linter.unusedVariables false
set_option linter.unusedSimpArgs false

theorem made_own (w : World) : (w.alloc (.cells #[] 25)).ownsRow w.heap.size 25 2 (.slice (some ⟨w.heap.size, 0, none⟩) 0 0) 0 [] := World.ownsRow_made w #[] 0 (Nat.le_refl _) (by decide) rfl
set_option maxRecDepth 100000 in
theorem cloneI_own (v : Value) (zs : List Idn) (w : World) (h : RowAt w v zs) (hl : zs.length ≤ 100000) : Calls Tryz.prog 53 #[v] w (GivesOwned zs w) := by
  have q22 : ∀ (w : World) (a : Option Addr) (n c n' c' : Nat), (binOp .eql 23 (.slice a n c) (.slice none n' c')).run Tryz.prog w = .ok (.bool a.isNone) w := fun w a n c n' c' => Lib.run_eql_slice_nil w _ _ a n c n' c' Tryz.underlying23
  have h' := h
  obtain ⟨p, cap, rfl, h1, h2, h0, h3⟩ := h
  obtain ⟨n, hn⟩ : ∃ n, n = zs.length := ⟨_, rfl⟩
  cases p with
  | none =>
    have hz : zs = [] := Classical.byContradiction fun hz => by obtain ⟨b, off, e, _⟩ := h3 hz; cases e
    have hc := h0 rfl
    subst hz hc
    clear h3 h' h0 h1 hn
    go_enter Tryz.func53, Tryz.ntmps53
    go_wp2
    go_ret
    exact ⟨_, rfl, World.ownsRow_nil _ _ _ _, Below.refl _ _⟩
  | some ad =>
    have HR := Lib.hid h'
    rw [← hn] at HR ⊢
    have hl2 : n ≤ 100000 := by omega
    have HR2 := Lib.hid (h'.on (Cmd.below_one w (.cells #[] 25)))
    rw [← hn] at HR2
    have B1 := Lib.hid (Cmd.below_one w (.cells #[] 25))
    clear h3 h0 h1 h' hn
    go_enter Tryz.func53, Tryz.ntmps53
    go_wp2_with (first
      | (at_builtin; refine wpList_append_ids rfl _ _ rfl w.heap.size _ _ zs rfl (made_own w) rfl HR2.out hl (by simp) ?_; intro v1 w1 ho hg; have HO := Lib.hid ho; have B2 := Lib.hid (Below.grown B1.out hg (by simp) (fun k hk => by cases hk; exact Nat.le_refl _)); clear ho hg))
    go_ret
    exact ⟨_, rfl, HO.out, B2.out⟩
theorem cloneI_any (v : Value) (zs : List Idn) (w : World) (h : RowAt w v zs) (hl : zs.length ≤ 100000) : Calls Tryz.prog 53 #[v] w (GivesRow zs w) := (cloneI_own v zs w h hl).mono fun _ _ h => h.row
set_option maxRecDepth 100000 in
theorem users_own (v : Value) (mr mu : Option Nat) (a b : Int) (u : Value) (zs : List Idn) (hl : zs.length ≤ 100000) (W : World) (CH : HeldIs v mr mu W) (hu : RowAt W u zs)
    (HL : ∀ W', Below W.heap.size W W' → (Instr.lookup 51 (.map mu) (.agg #[.int .i64 a, .int .i64 b]) false).run Tryz.prog W' = .ok u W') :
    Calls Tryz.prog 31 #[v, .agg #[.int .i64 a, .int .i64 b]] W (GivesOwned zs W) := by
  have B0 := Lib.hid (Cmd.below_one W (.cells #[.int .i64 a, .int .i64 b] 25))
  have T0 := Lib.hid (two_row W a b)
  have C1 := Lib.hid (fun W' (h : Below W.heap.size W W') => CH W' h)
  have H1 := Lib.hid HL
  have E1 := f_users mr mu
  have K1 := Lib.hid (fun W' (h : Below W.heap.size W W') => cloneI_own u zs W' (hu.on h) hl)
  have L0 : W.heap.size < (W.alloc (.cells #[.int .i64 a, .int .i64 b] 25)).heap.size := by simp
  have HL0 := Lib.hid L0
  clear CH HL L0 hu
  go_enter Tryz.func31, Tryz.ntmps31
  go_wp2
  go_region_with (first
    | (go_at_call 50; (with_reducible refine (C1.out _ B0.out.drew).mono ?_); rintro E w1 ⟨rfl, hb⟩; have T1 := (hb.block _ HL0.out).trans T0.out; have c0 := cell_row (i := 0) T1 rfl; have c1 := cell_row (i := 1) T1 rfl; have hb1 := B0.out.drew.trans (hb.mono B0.out.drew.size); have l1 := H1.out w1 hb1; have B1 := Lib.hid hb1; clear hb T1 hb1)
    | (go_at_call 53; (with_reducible refine (K1.out _ B1.out).mono ?_); rintro E w2 ⟨r, rfl, hr, hb⟩; have B2 := Lib.hid (B1.out.trans (hb.mono B1.out.size)); have R2 := Lib.hid hr; clear hb hr))
  all_goals
    go_wp2
    go_ret
    exact ⟨_, rfl, own_mono R2.out B1.out.size, B2.out⟩
theorem users_run (v : Value) (mr mu : Option Nat) (a b : Int) (u : Value) (zs : List Idn) (hl : zs.length ≤ 100000) (W : World) (CH : HeldIs v mr mu W) (hu : RowAt W u zs)
    (HL : ∀ W', Below W.heap.size W W' → (Instr.lookup 51 (.map mu) (.agg #[.int .i64 a, .int .i64 b]) false).run Tryz.prog W' = .ok u W') :
    Calls Tryz.prog 31 #[v, .agg #[.int .i64 a, .int .i64 b]] W (GivesRow zs W) := (users_own v mr mu a b u zs hl W CH hu HL).mono fun _ _ h => h.row
/-! ### Edges -/
theorem sum_perm : ∀ {a b : List Nat}, a.Perm b → a.sum = b.sum := fun h => by
  induction h with
  | nil => rfl
  | cons x _ ih => simp [ih]
  | swap x y l => simp; omega
  | trans _ _ h1 h2 => exact h1.trans h2
/-- How many Deps the record of an id has. -/
def degG (rs : List Rcd) (x : Idn) : Nat := match rs.find? (fun r => decide (r.1 = x)) with
  | some r => r.2.2.1.length
  | none => 0
theorem deg_of {rs : List Rcd} (hd : (idsG rs).Nodup) {r : Rcd} (hr : r ∈ rs) : degG rs r.1 = r.2.2.1.length := by
  have : rs.find? (fun t => decide (t.1 = r.1)) = some r := by
    induction rs with
    | nil => cases hr
    | cons y l ih =>
      obtain ⟨h1, h2⟩ := List.nodup_cons.1 hd
      rw [List.find?_cons]
      by_cases e : y.1 = r.1
      · rw [decide_eq_true e]
        rcases List.mem_cons.1 hr with rfl | hm
        · rfl
        · exact absurd (List.mem_map.2 ⟨r, hm, rfl⟩) (by rw [e] at h1; exact h1)
      · rw [decide_eq_false e]
        exact ih h2 ((List.mem_cons.1 hr).resolve_left (fun e2 => e (by rw [e2])))
  unfold degG
  rw [this]
theorem deg_sum {rs : List Rcd} (hd : (idsG rs).Nodup) : ((idsG rs).map (degG rs)).sum = (depsG rs).length := by
  have e : (idsG rs).map (degG rs) = rs.map fun r => r.2.2.1.length := by
    unfold idsG
    rw [List.map_map]
    exact List.map_congr_left fun r hr => deg_of hd hr
  rw [e]
  unfold depsG
  rw [List.length_flatMap]
theorem perm_ids {a b : List Idn} (ha : a.Nodup) (hb : b.Nodup) (h : ∀ x, x ∈ a ↔ x ∈ b) : a.Perm b := (List.perm_ext_iff_of_nodup ha hb).2 h
/-- A round over a map of ids: nothing is left, or one of the keys has come. (Both goals are hidden, for the walk to stand.) -/
theorem wpI_next {w : World} {ops : Array Oper} {rest : List Oper} {o : Oper} {a : Act} {Q : Exit → Act → World → Prop} (hg : o.guard = none) (it : Operand) (hop : o.op = Op.next it false) (m r n : Nat) (D : DataW Value) (ks : List Idn) (f : Idn → Option Value) (S : Says kyI D ks f) (left : Lit → Bool) (cnt : Nat)
    (hit : a.eval it = .pointer (some ⟨r, 0, none⟩)) (h : Going 25 w m r n D left cnt)
    (hDone : Hid ((∀ kl, left kl = false) → wpList Tryz.prog ops Q rest (a.put o.dst (.tuple #[.bool false])) w))
    (hMore : Hid (∀ (x y : Int) (v : Value) (w' : World) (cnt' : Nat), f (x, y) = some v → left (kyI.lit (x, y)) = true → Going 25 w' m r n D (fun z => left z && !z.sameKey (kyI.lit (x, y))) cnt' → cnt' < cnt → w.grownBy w' (some r) → w'.heap.size = w.heap.size →
      (Instr.entry (.pointer (some ⟨r, 0, none⟩))).run Tryz.prog w' = .ok (.tuple #[.agg #[.int .i64 x, .int .i64 y], v]) w' → wpList Tryz.prog ops Q rest (a.put o.dst (.tuple #[.bool true, .agg #[.int .i64 x, .int .i64 y], v])) w')) :
    wpList Tryz.prog ops Q (o :: rest) a w :=
  wp_next hg it hop m r n D ks S left cnt hit h hDone (Lib.hid fun x v w' cnt' h1 h2 h3 h4 h5 h6 h7 h8 => hMore.out x.1 x.2 v w' cnt' h1 h3 h4 h5 h6 h7 h8)
theorem deg_le {rs : List Rcd} (L : Lot rs) (x : Idn) : degG rs x ≤ 1000 := by
  unfold degG
  split
  · rename_i r h; exact (L.low r (List.mem_of_find?_eq_some h)).1
  · omega
theorem deg_sum_le {rs : List Rcd} (L : Lot rs) : ∀ ss : List Idn, (ss.map (degG rs)).sum ≤ ss.length * 1000
  | [] => Nat.zero_le _
  | x :: ss => by
    have := deg_sum_le L ss
    have := deg_le L x
    simp only [List.map_cons, List.sum_cons, List.length_cons]; omega
theorem recv_form {W : World} {rs : List Rcd} {f : Idn → Option Value} (R : Rf W rs f) (hd : (idsG rs).Nodup) {x y : Int} {v : Value} (h : f (x, y) = some v) : ∃ (q : Int) (G H n k : Nat), v = .agg #[.int .i64 x, .int .i64 y, .int .i64 q, .slice (some ⟨G, 0, none⟩) n n, .slice (some ⟨H, 0, none⟩) k k] ∧ n = degG rs (x, y) := by
  have hm := (R.has (x, y)).1 (by rw [h]; rfl)
  obtain ⟨r, hr, e⟩ := List.mem_map.1 hm
  obtain ⟨v', e', G, H, e2, -, -⟩ := R.val r hr
  have hdeg := deg_of hd hr
  rw [e] at e' e2 hdeg
  rw [h] at e'
  cases e'
  exact ⟨_, _, _, _, _, e2, hdeg.symm⟩
end Go.Proofs.YtnekajpoheipiaaGreat.Gra

/- What the developers' ids, Ids, Missing give (layer 15, edges). Conditions: those in each statement; SortIs: what ident.Sorted gives. -/
namespace Go.Proofs.YtnekajpoheipiaaGreat.Gra
open Go.RowKit Cmd Bat Ids Rec Wid Mpg Itr Go.Maps
set_option linter.unusedVariables false
set_option linter.unusedSimpArgs false

abbrev SortIs : Prop := ∀ (v : Value) (zs : List Idn) (w : World), RowAt w v zs → zs.length ≤ 100000 → Calls Tryz.prog 22 #[v] w (GivesRow (srt zs) w)
abbrev keyF (B : Nat) : Value := .func (.func 75) #[] #[.pointer (some ⟨B, 0, none⟩)]
theorem keysC (mb : Option Nat) (w : World) : Calls Tryz.prog 65 #[.map mb] w fun e w' => e = .returned (keyF w.heap.size) ∧ w' = w.alloc (.cells #[.map mb] 48) :=
  (callsIn_wide (n := 3)).1 (keys_any Fence.wide 3 trivial rfl mb w)
/-- What Collect gives of a map's keys. -/
abbrev CollIs (mb : Option Nat) (zs : List Idn) (W : World) : Prop := ∀ (B : Nat) (W' : World), Below W.heap.size W W' → B < W'.heap.size → W'.cell? ⟨B, 0, none⟩ = some (.map mb) →
  Calls Tryz.prog 23 #[keyF B] W' fun e w' => ∃ (v : Value) (ss : List Idn), e = .returned v ∧ srt ss = zs ∧ ss.length ≤ 100000 ∧ RowAt w' v ss ∧ Below W'.heap.size W' w'
theorem srt_same {a b : List Idn} (h : ∀ x, x ∈ a ↔ x ∈ b) : srt a = srt b := rise_eq (srt_rise _) (srt_rise _) fun x => by rw [srt_mem, srt_mem, h x]
theorem coll_some (W : World) (mr N : Nat) (rs : List Rcd) (f : Idn → Option Value) (M : MapG kyI W mr N f) (hN : N ≤ 1000000) (R : Rf W rs f) (hl : rs.length ≤ 1000) (hd : (idsG rs).Nodup) : CollIs (some mr) (gIds rs) W := fun B W' hb hB hc =>
  ((callsIn_wide (n := 3)).1 (collect_any Fence.wide 3 trivial trivial rfl (by omega) _ _ trivial (enters_of Tryz.func75 (by kernel_rfl) rfl) _ N hN W' (keys_stops Fence.wide 1 trivial rfl (by omega) B mr N f W' hB hc (M.on hb)))).mono
    fun e w' ⟨v, ss, he, ⟨h1, h2⟩, ho, hbw⟩ => ⟨v, ss, he, srt_same fun x => by rw [h2 x, R.has x], by have := nodup_len h1 (fun x hx => (R.has x).1 ((h2 x).1 hx)); rw [idsG_len] at this; omega, ho.row, hbw⟩
theorem coll_nil (W : World) : CollIs none [] W := fun B W' hb hB hc =>
  ((callsIn_wide (n := 3)).1 (collect_any Fence.wide 3 trivial trivial rfl (by omega) _ _ trivial (enters_of Tryz.func75 (by kernel_rfl) rfl) _ 0 (by omega) W' (keys_stops_nil Fence.wide 1 trivial rfl B W' hB hc))).mono
    fun e w' ⟨v, ss, he, ⟨h1, h2⟩, ho, hbw⟩ => by
      have e0 : ss = [] := by
        cases ss with
        | nil => rfl
        | cons x l => have := (h2 x).1 List.mem_cons_self; cases this
      subst e0
      exact ⟨v, [], he, rfl, by simp, ho.row, hbw⟩
set_option maxRecDepth 100000 in
theorem ids_run (mb : Option Nat) (zs : List Idn) (W : World) (SO : SortIs) (CI : CollIs mb zs W) : Calls Tryz.prog 42 #[.agg #[.map mb]] W (GivesRow zs W) := by
  have KC := Lib.hid (keysC mb (W.alloc (.cells #[.map mb] 50)))
  have B2 : Below W.heap.size W ((W.alloc (.cells #[.map mb] 50)).alloc (.cells #[.map mb] 48)) := (Cmd.below_one _ _).trans ((Cmd.below_one _ _).mono (by simp))
  have CC := Lib.hid (CI (W.alloc (.cells #[.map mb] 50)).heap.size _ B2 (by simp) (cell_row (heap_alloc_new (W.alloc (.cells #[.map mb] 50)) (.cells #[.map mb] 48)) rfl))
  rw [World.size_alloc] at KC CC
  have HB := Lib.hid B2
  have HSO := Lib.hid SO
  clear SO CI B2
  go_enter Tryz.func42, Tryz.ntmps42
  go_wp2_with (first
    | (go_at_call 65; refine KC.out.mono ?_; rintro E w1 ⟨rfl, rfl⟩)
    | (go_at_call 23; refine CC.out.mono ?_; rintro E w2 ⟨v, ss, rfl, hz, hl, hr, hb⟩; have B2 := Lib.hid (HB.out.trans (hb.mono HB.out.size)); have S2 := Lib.hid (HSO.out v ss w2 hr hl); have HZ := Lib.hid hz; clear hz hl hr hb)
    | (go_at_call 22; (with_reducible refine S2.out.mono ?_); rintro E w3 ⟨u, rfl, hr, hb⟩; have R3 := Lib.hid hr; have B3 := Lib.hid (B2.out.trans (hb.mono B2.out.size)); clear hr hb))
  go_ret
  exact ⟨_, rfl, by rw [← HZ.out]; exact R3.out, B3.out⟩
set_option maxRecDepth 100000 in
theorem gids_run (v : Value) (mr mu : Option Nat) (zs : List Idn) (W : World) (CH : HeldIs v mr mu W) (HI : ∀ W', Below W.heap.size W W' → Calls Tryz.prog 42 #[.agg #[.map mr]] W' (GivesRow zs W')) :
    Calls Tryz.prog 28 #[v] W (GivesRow zs W) := by
  have C1 := Lib.hid (CH W (Below.refl _ _))
  have H1 := Lib.hid HI
  have E1 := f_index mr mu
  clear CH HI
  go_enter Tryz.func28, Tryz.ntmps28
  go_wp2_with (first
    | (go_at_call 50; (with_reducible refine C1.out.mono ?_); rintro E w1 ⟨rfl, hb⟩; have B1 := Lib.hid hb; have H2 := Lib.hid (H1.out w1 hb); clear hb)
    | (go_at_call 42; (with_reducible refine H2.out.mono ?_); rintro E w2 ⟨u, rfl, hr, hb⟩; have R2 := Lib.hid hr; have B2 := Lib.hid (B1.out.trans (hb.mono B1.out.size)); clear hr hb))
  go_ret
  exact ⟨_, rfl, R2.out, B2.out⟩
end Go.Proofs.YtnekajpoheipiaaGreat.Gra

/- What the developers' Missing gives (layer 15, edges). Conditions: those in each statement; SortIs: what ident.Sorted gives. -/
namespace Go.Proofs.YtnekajpoheipiaaGreat.Gra
open Go.RowKit Cmd Bat Ids Rec Wid Mpg Itr Go.Maps
set_option linter.unusedVariables false
set_option linter.unusedSimpArgs false

theorem miss_mem (rs : List Rcd) (x : Idn) : x ∈ missL rs rs ↔ x ∈ depsG rs ∧ x ∉ idsG rs := by
  unfold missL
  rw [List.mem_filter]
  simp
theorem users_some {rs : List Rcd} {x : Idn} : usersL rs x ≠ [] ↔ x ∈ depsG rs := by
  constructor
  · intro h
    cases hu : usersL rs x with
    | nil => exact absurd hu h
    | cons y l =>
      have hm : y ∈ usersL rs x := by rw [hu]; exact List.mem_cons_self
      unfold usersL idsG at hm
      obtain ⟨r, hr, _⟩ := List.mem_map.1 hm
      obtain ⟨h1, h2⟩ := List.mem_filter.1 hr
      exact List.mem_flatMap.2 ⟨r, h1, of_decide_eq_true h2⟩
  · intro h e
    obtain ⟨r, h1, h2⟩ := List.mem_flatMap.1 h
    have hm : r.1 ∈ usersL rs x := by unfold usersL idsG; exact List.mem_map.2 ⟨r, List.mem_filter.2 ⟨h1, decide_eq_true h2⟩, rfl⟩
    rw [e] at hm; cases hm
theorem srt_nil {l : List Idn} : srt l = [] ↔ l = [] := by
  constructor
  · intro h
    cases l with
    | nil => rfl
    | cons x t =>
      have hx := (srt_mem (x :: t) x).2 List.mem_cons_self
      rw [h] at hx; cases hx
  · rintro rfl; rfl
theorem Uf.has {W : World} {base : Nat} {rs : List Rcd} {h : Idn → Option Value} (u : Uf W base (gUsers rs) h) (x : Idn) : (h x).isSome = true ↔ x ∈ depsG rs := by
  rw [← users_some]
  cases hx : h x with
  | none =>
    have := srt_nil.1 (u.no x hx)
    exact ⟨fun e => (by cases e), fun e => absurd this e⟩
  | some v =>
    have := (u.yes x v hx).2
    exact ⟨fun _ e => this (srt_nil.2 e), fun _ => rfl⟩
theorem low_own {w : World} {base : Nat} {e : TypeId} {size : Nat} {v : Value} {n : Nat} {xs : List Value} (h : w.ownsRow base e size v n xs) {r : Nat} (hr : r < base) : some r ≠ v.ownBlock := fun e1 => by
  have := (World.ownsRow.lt h r e1.symm).1
  omega
set_option maxRecDepth 100000 in
set_option maxHeartbeats 4000000 in
theorem miss_any (v : Value) (mr mu : Nat) (rs : List Rcd) (f h : Idn → Option Value) (W : World) (N K : Nat) (SO : SortIs) (CH : HeldIs v (some mr) (some mu) W) (M : MapG kyI W mr N f) (R : Rf W rs f) (U : MapG kyI W mu K h) (hu : ∀ x, (h x).isSome = true ↔ x ∈ depsG rs) (hw : ∀ x ∈ depsG rs, wfId x) (hK : K ≤ 100000) :
    Calls Tryz.prog 30 #[v] W (GivesRow (gMiss rs) W) := by
  obtain ⟨i0, hi, hz0, hz1, hz2⟩ := info_parts info_id
  have C1 := Lib.hid (CH W (Below.refl _ _))
  have HM := Lib.hid U.lt
  obtain ⟨D, ks, hD, S, hk⟩ := U
  have HD : Hid (∀ W', Below W.heap.size W W' → W'.ownsMap Tryz.prog 25 raw mu ks.length D) := Lib.hid fun W' hb => by
    obtain ⟨es, c, hb2, r⟩ := hD
    exact ⟨es, c, (hb.block mu (Array.getElem?_eq_some_iff.1 hb2).1).trans hb2, r⟩
  have HS := Lib.hid S
  have HH := Lib.hid hu
  have HA := Lib.hid (fun W' (hb : Below W.heap.size W W') x y (hx : (x, y) ∈ depsG rs) => ixhas_any W' mr N rs f (M.on hb) (R.keep (keeps_below hb)) x y (hw _ hx))
  have HSO := Lib.hid SO
  have HK : Hid (ks.length ≤ 100000) := Lib.hid (Nat.le_trans hk hK)
  clear CH hD S hk hu M R SO hw
  go_enter Tryz.func30, Tryz.ntmps30
  go_wp2_with (first
    | (go_at_call 50; (with_reducible refine C1.out.mono ?_); rintro E w1 ⟨rfl, hb⟩; have hb2 := hb.trans ((Cmd.below_one w1 (.cells #[.map (some mr), .map (some mu)] 53)).mono hb.size); have HB1 := Lib.hid hb2; have c0 := cell_row (i := 0) (heap_alloc_new w1 (.cells #[.map (some mr), .map (some mu)] 53)) rfl; have c1 := cell_row (i := 1) (heap_alloc_new w1 (.cells #[.map (some mr), .map (some mu)] 53)) rfl; have hown := HD.out _ hb2; clear hb hb2)
    | (at_range; refine wpList_range_own _ rfl _ 51 rfl 25 23 kyI.law Tryz.underlying51 raw mu ks.length D rfl hown ?_; intro w0 hrg0 hg0 hs0; have HRG := Lib.hid hrg0; have HG0 := Lib.hid hg0; have HS0 := Lib.hid hs0; clear hrg0 hg0 hs0)
    | fail)
  try go_frame
  clear hown c0 c1
  have T1 := Lib.hid (heap_alloc_new w1 (.cells #[.map (some mr), .map (some mu)] 53))
  have L1 : Hid (w1.heap.size < (w1.alloc (.cells #[.map (some mr), .map (some mu)] 53)).heap.size) := Lib.hid (by simp)
  obtain ⟨wq, hwq⟩ : ∃ wq, wq = w1.alloc (.cells #[.map (some mr), .map (some mu)] 53) := ⟨_, rfl⟩
  rw [← hwq] at HB1 HRG HG0 HS0 T1 L1 ⊢
  clear hwq
  go_loopw [4] (fun o wr => ∃ (left : Lit → Bool) (cnt : Nat) (ss out : List Idn), Hid (Going 25 wr mu wq.heap.size ks.length D left cnt) ∧ Hid (Owns wr (wq.heap.size + 1) o out) ∧ Hid (Below wq.heap.size wq wr) ∧ Hid (wq.heap.size + 1 ≤ wr.heap.size) ∧ Hid (Came kyI h left ss) ∧ Hid (∀ x, x ∈ out ↔ x ∈ ss ∧ x ∉ idsG rs) ∧ Hid (out.length ≤ ss.length)) (fun _ wr => wr.rangeLeft mu wq.heap.size)
  case atStart =>
    exact ⟨_, _, [], [], HRG, Lib.hid (World.ownsRow_nil _ _ _ _), Lib.hid (Below.grown (Below.refl _ _) HG0.out (Nat.le_refl _) (fun k hk => by cases hk)), Lib.hid (by rw [HS0.out]; exact Nat.le_refl _), Lib.hid (Came.start HS.out), Lib.hid (fun x => by simp), Lib.hid (Nat.le_refl _)⟩
  case round =>
    obtain ⟨left, cnt, ss, out, hrg, hrow, hbw2, hsz, hC, hO, hOl⟩ := hrel
    have HCL : Hid (ss.length ≤ ks.length) := Lib.hid (nodup_len hC.out.nodup fun x hx => (HS.out.mem x).2 ((hC.out.mem x).1 hx).1)
    go_wp2_with (first
      | (at_next; refine wpI_next rfl _ rfl mu wq.heap.size ks.length D ks h HS.out left cnt rfl hrg.out ?_ ?_)
      | fail)
    · refine Lib.hid fun hl0 => ?_
      have HE : Hid (srt out = gMiss rs) := Lib.hid (srt_same fun x => by
        rw [hO.out x, (hC.out.done hl0).2 x, HH.out x, miss_mem])
      have SC := Lib.hid (HSO.out u4 out wr hrow.out.row (by have := hOl.out; have := HCL.out; have := HK.out; omega))
      clear hl0
      go_wp2_with (go_at_call 22; (with_reducible refine SC.out.mono ?_); rintro E w3 ⟨u, rfl, hr, hb⟩; have R3 := Lib.hid hr; have B3 := Lib.hid (HB1.out.trans ((hbw2.out.trans (hb.mono hbw2.out.size)).mono HB1.out.size)); clear hr hb)
      go_ret
      exact ⟨_, rfl, by rw [← HE.out]; exact R3.out, B3.out⟩
    · refine Lib.hid ?_
      intro x y c w2 cnt2 hf hlk hrg2 hlt hg2 hs2 hen
      have HC2 := Lib.hid (hC.out.step HS.out hf hlk)
      have hdep := (HH.out (x, y)).1 (by rw [hf]; rfl)
      have hb2 : Below wq.heap.size wq w2 := Below.grown hbw2.out hg2 hbw2.out.size (fun k hk => by cases hk; exact Nat.le_refl _)
      have hb3 := hb2.alloc hb2.size (.cells #[.int .i64 x, .int .i64 y] 25)
      have hsz2 : wq.heap.size + 1 ≤ w2.heap.size := by rw [hs2]; exact hsz.out
      have HO2 : Hid (Owns w2 (wq.heap.size + 1) u4 out) := Lib.hid (World.ownsRow.kept hrow.out hg2 (.inr (low_own hrow.out (by omega)).symm))
      have HO3 : Hid (Owns (w2.alloc (.cells #[.int .i64 x, .int .i64 y] 25)) (wq.heap.size + 1) u4 out) := Lib.hid (World.ownsRow.alloc HO2.out _)
      have HG3 := Lib.hid (hrg2.alloc (.cells #[.int .i64 x, .int .i64 y] 25))
      have X3 := Lib.hid (two_row w2 x y)
      have HB3 := Lib.hid hb3
      have CA := Lib.hid (HA.out _ (HB1.out.trans (hb3.mono HB1.out.size)) x y hdep)
      have T3 := (hb3.block _ L1.out).trans T1.out
      have c0 := cell_row (i := 0) T3 rfl
      have HSZ : Hid (wq.heap.size + 1 ≤ (w2.alloc (.cells #[.int .i64 x, .int .i64 y] 25)).heap.size) := Lib.hid (by simp; omega)
      have LX : Hid (w2.heap.size < (w2.alloc (.cells #[.int .i64 x, .int .i64 y] 25)).heap.size) := Lib.hid (by simp)
      have HLT := Lib.hid hlt
      have hol : out.length ≤ 100000 := by have := hOl.out; have := HCL.out; have := HK.out; omega
      clear hrg2 hlt hg2 hs2 hsz2 hf hlk hdep hb2 hb3 T3
      by_cases hm : (x, y) ∈ idsG rs
      · rw [decide_eq_true hm] at CA
        have HM2 : Hid (∀ z, z ∈ out ↔ z ∈ ss ++ [(x, y)] ∧ z ∉ idsG rs) := Lib.hid fun z => by
          rw [hO.out z, List.mem_append, List.mem_singleton]
          constructor
          · rintro ⟨h1, h2⟩; exact ⟨.inl h1, h2⟩
          · rintro ⟨h1 | rfl, h2⟩
            · exact ⟨h1, h2⟩
            · exact absurd hm h2
        clear hm
        go_wp2_with (first
          | (go_at_call 40; (with_reducible refine CA.out.mono ?_); rintro E w3 ⟨rfl, hb⟩; have HB4 := Lib.hid (HB3.out.trans (hb.mono HB3.out.size)); have HO4 := Lib.hid (own_below HO3.out hb); have HG4 := Lib.hid (HG3.out.kept (grown_of hb) (by simp) (by simp)); have HS4 : Hid (wq.heap.size + 1 ≤ w3.heap.size) := Lib.hid (Nat.le_trans HSZ.out hb.size); clear hb))
        go_roundw
        case rel => exact ⟨_, cnt2, ss ++ [(x, y)], out, HG4, HO4, HB4, HS4, Lib.hid HC2.out.2, HM2, Lib.hid (by have := hOl.out; rw [List.length_append]; omega)⟩
        case measure => rw [HG4.out.left_eq, hrg.out.left_eq]; exact HLT.out
      · rw [decide_eq_false hm] at CA
        have HM2 : Hid (∀ z, z ∈ out ++ [(x, y)] ↔ z ∈ ss ++ [(x, y)] ∧ z ∉ idsG rs) := Lib.hid fun z => by
          rw [List.mem_append, hO.out z, List.mem_append, List.mem_singleton]
          constructor
          · rintro (⟨h1, h2⟩ | rfl)
            · exact ⟨.inl h1, h2⟩
            · exact ⟨.inr rfl, hm⟩
          · rintro ⟨h1 | rfl, h2⟩
            · exact .inl ⟨h1, h2⟩
            · exact .inr rfl
        clear hm
        go_wp2_with (first
          | (go_at_call 40; (with_reducible refine CA.out.mono ?_); rintro E w3 ⟨rfl, hb⟩; have HB4 := Lib.hid (HB3.out.trans (hb.mono HB3.out.size)); have HO4 := Lib.hid (own_below HO3.out hb); have HG4 := Lib.hid (HG3.out.kept (grown_of hb) (by simp) (by simp)); have hs4 : wq.heap.size + 1 ≤ w3.heap.size := Nat.le_trans HSZ.out hb.size; have T4 := (hb.block _ LX.out).trans X3.out; have d0 := cell_row (i := 0) T4 rfl; have d1 := cell_row (i := 1) T4 rfl; clear hb T4)
          | (at_builtin; refine wpList_append_own _ rfl _ _ 23 rfl (wq.heap.size + 1) 25 i0 (.agg #[.int .i64 0, .int .i64 0]) 2 16 Tryz.underlying23 hi hz0 hz1 hz2 rfl (by decide) _ _ _ rfl (World.ownsRow.alloc HO4.out _) ⟨w3.heap.size, 0, none⟩ 1 1 [.int .i64 x, .int .i64 y] rfl rfl (cell_two _ _ _ _) (by simp [Value.oneCell']) (by unfold maxLen; omega) (by omega) (by simp; omega) ?_; intro v1 w4 hown1 hgrow1 hnil1; have X1 := Lib.hid (Owns.snoc hown1); have X2 := Lib.hid (below_grown (HB4.out.alloc HB4.out.size _) (Nat.le_succ _) (World.ownsRow.alloc HO4.out _) (by have := HB4.out.size; simp; omega) hgrow1); have X5 := Lib.hid ((HG4.out.alloc _).kept hgrow1 (low_own HO4.out (by have := HM.out; have := HB1.out.size; omega)) (low_own HO4.out (by omega))); have hs5 : wq.heap.size + 1 ≤ w4.heap.size := (by have := hgrow1.size; simp at this; omega); clear hown1 hgrow1 hnil1))
        go_roundw
        case rel => exact ⟨_, cnt2, ss ++ [(x, y)], out ++ [(x, y)], X5, X1, X2, Lib.hid hs5, Lib.hid HC2.out.2, HM2, Lib.hid (by have := hOl.out; rw [List.length_append, List.length_append]; simp; omega)⟩
        case measure => rw [X5.out.left_eq, hrg.out.left_eq]; exact HLT.out
end Go.Proofs.YtnekajpoheipiaaGreat.Gra
