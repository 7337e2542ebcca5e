/- The small play of layer 18's statements (canon): it returns true, whatever way graphs are kept (under Graphs and Canon). Conditions: those in each statement. (Written by tools/gen_cang.py.) -/
import Derived.Test.YtjokejcokgeeiaaGreatReg
import Derived.Test.YtjokejcokgeeiaaGreatCanE
import Derived.Test.YtjokejcokgeeiaaGreatCpsW
import Derived.Test.YtjokejcokgeeiaaGreatRecD
namespace Go.Proofs.YtjokejcokgeeiaaGreat.Can
open Go.RowKit Cmd Bat Ids Rec Wid Gra Rea Cps
set_option linter.unusedVariables false
set_option linter.unusedSimpArgs false

def qrs : List Rcd := [((1, 1), 9, [], []), ((1, 2), 1, [(1, 1)], [])]
theorem qrs_err : gErr qrs = 0 := by decide
theorem qdp1 : dpG qrs (1, 1) = [] := by decide
theorem qdp2 : dpG qrs (1, 2) = [(1, 1)] := by decide
theorem qids {x : Idn} : x ∈ idsG qrs ↔ x = (1, 1) ∨ x = (1, 2) := by unfold idsG qrs; simp
theorem qin {x z : Idn} (h : Rch qrs x z) (hx : x ∈ idsG qrs) : z ∈ idsG qrs := by
  induction h with
  | here => exact hx
  | more h1 h2 ih =>
    rcases qids.1 ih with rfl | rfl
    · rw [qdp1] at h2; cases h2
    · rw [qdp2] at h2; exact qids.2 (.inl (List.mem_singleton.1 h2))
theorem qone {x z : Idn} (h : Rch qrs x z) (hx : x = (1, 1)) : z = (1, 1) := by
  induction h with
  | here => exact hx
  | more h1 h2 ih =>
    rw [ih, qdp1] at h2; cases h2
theorem qall : allR qrs = [(1, 2), (1, 1)] := by
  refine riseR_eq (sortR_rise qrs _) (by unfold RiseR; decide) fun x => ?_
  show x ∈ allR qrs ↔ _
  rw [all_mem]
  constructor
  · intro h
    rcases qids.1 (closed_mem.1 h x (.here x)) with rfl | rfl <;> simp
  · intro h
    refine closed_mem.2 fun z hz => qin hz (qids.2 ?_)
    simp only [List.mem_cons, List.not_mem_nil, or_false] at h
    exact h.symm
theorem qself2 : mutG qrs (1, 2) (1, 2) = true := mut_self (by decide)
theorem qself1 : mutG qrs (1, 1) (1, 1) = true := mut_self (by decide)
theorem qno : ¬ mutG qrs (1, 2) (1, 1) = true := fun h => by
  have := qone (mut_iff.1 h).2.2.2 rfl
  exact absurd this (by decide)
theorem qof : ofG qrs = [[(1, 2)], [(1, 1)]] := by
  unfold ofG
  rw [qall]
  have e0 : ofL qrs [(1, 2), (1, 1)] 0 = [] := rfl
  have e1 : ofL qrs [(1, 2), (1, 1)] 1 = [[(1, 2)]] := by
    rw [ofP_no (by rw [e0]; decide), e0]
    show [] ++ [List.filter (fun y => mutG qrs (1, 2) y) [(1, 2), (1, 1)]] = _
    rw [List.filter_cons_of_pos qself2, List.filter_cons_of_neg qno]; rfl
  show ofL qrs [(1, 2), (1, 1)] (1 + 1) = _
  rw [ofP_no (by rw [e1]; decide), e1]
  show [[(1, 2)]] ++ [List.filter (fun y => mutG qrs (1, 1) y) [(1, 1)]] = _
  rw [List.filter_cons_of_pos qself1]; rfl
theorem qorder : orderG qrs = [[(1, 1)], [(1, 2)]] := by
  unfold orderG
  rw [qof]
  decide
theorem qleads : leadsG qrs [(1, 2)] [(1, 1)] = true := by decide
theorem qright : rightG qrs [[(1, 1)]] = true := by
  have := order_begin qrs 1
  rw [qorder] at this
  exact this
theorem qrs_lot : Lot qrs := by
  have key : ∀ x ∈ qrs, wfG x ∧ x.2.2.1.length ≤ 1000 ∧ x.2.2.2.length ≤ 1000 := fun x hx => by
    unfold qrs at hx
    simp only [List.mem_cons, List.not_mem_nil, or_false] at hx
    rcases hx with rfl | rfl
    · exact ⟨⟨⟨by decide, by decide⟩, fun d hd => (by cases hd), fun c hc => by cases hc⟩, by decide, by decide⟩
    · exact ⟨⟨⟨by decide, by decide⟩, fun d hd => by rw [List.mem_singleton.1 hd]; exact ⟨by decide, by decide⟩, fun c hc => by cases hc⟩, by decide, by decide⟩
  exact ⟨fun x hx => (key x hx).1, by decide, fun x hx => (key x hx).2⟩
theorem no_ids (W : World) : RowAt W (.slice none 0 0) [] := ⟨none, 0, rfl, Nat.le_refl _, by omega, (fun _ => rfl), fun h => absurd rfl h⟩
theorem two_recq {W : World} {g : Nat} {v2 : Value} (h : W.heap[g]? = some (.cells #[.int .i64 1, .int .i64 1, .int .i64 9, .slice none 0 0, .slice none 0 0, .int .i64 1, .int .i64 2, .int .i64 1, v2, .slice none 0 0] 46 (0, 0)))
    (h2 : RowAt W v2 [(1, 1)]) : layG.Row W (.slice (some ⟨g, 0, none⟩) 2 2) qrs := by
  refine ⟨_, 2, rfl, Nat.le_refl _, by omega, fun _ => ⟨g, 0, rfl, (Array.getElem?_eq_some_iff.1 h).1, fun j hj => ?_⟩⟩
  have hj2 : j = 0 ∨ j = 1 := by have : j < 2 := hj; omega
  rcases hj2 with rfl | rfl
  · exact ⟨cell_row h rfl, cell_row h rfl, cell_row h rfl, ⟨_, cell_row h rfl, no_ids W⟩, _, cell_row h rfl, no_cmds W⟩
  · exact ⟨cell_row h rfl, cell_row h rfl, cell_row h rfl, ⟨v2, cell_row h rfl, h2⟩, _, cell_row h rfl, no_cmds W⟩
theorem held_join {P : Value → Value → Value → Value → World → Prop} {C : World → Prop} {Q : Prop} (h1 : (∀ a b c d Y, C Y → P a b c d Y) → Q) (h2 : ∀ a b c d Y, C Y → P a b c d Y) : Q := h1 h2
set_option maxHeartbeats 16000000 in
set_option maxRecDepth 100000 in
theorem qplay_any {G : Nat → Nat → List Rcd → World → Prop} (HG : Graphs G) (RG : Canon G) (w : World) : Calls Tryz.prog 7 #[] w (RetBelow (.bool true) w) := by
  have HK := Lib.hid HG
  have HR := Lib.hid RG
  have b1 := Cmd.below_one w (.cells #[.int .i64 1, .int .i64 1] 43)
  have n1 := heap_alloc_new w (.cells #[.int .i64 1, .int .i64 1] 43)
  obtain ⟨w1, h1⟩ : ∃ w1, w1 = w.alloc (.cells #[.int .i64 1, .int .i64 1] 43) := ⟨_, rfl⟩
  have s1 : w1.heap.size = w.heap.size + 1 := by rw [h1]; simp
  rw [← h1] at b1 n1
  have b2 := Cmd.below_one w1 (.cells #[.int .i64 1, .int .i64 2] 43)
  have n2 := heap_alloc_new w1 (.cells #[.int .i64 1, .int .i64 2] 43)
  obtain ⟨w2, h2⟩ : ∃ w2, w2 = w1.alloc (.cells #[.int .i64 1, .int .i64 2] 43) := ⟨_, rfl⟩
  have s2 : w2.heap.size = w.heap.size + 1 + 1 := by rw [h2, World.size_alloc, s1]
  rw [← h2] at b2 n2
  have b4 := Cmd.below_one w2 (.cells #[.int .i64 1, .int .i64 1] 43)
  have n4 := heap_alloc_new w2 (.cells #[.int .i64 1, .int .i64 1] 43)
  obtain ⟨w4, h4⟩ : ∃ w4, w4 = w2.alloc (.cells #[.int .i64 1, .int .i64 1] 43) := ⟨_, rfl⟩
  have s4 : w4.heap.size = w.heap.size + 1 + 1 + 1 := by rw [h4, World.size_alloc, s2]
  rw [← h4] at b4 n4
  rw [s1] at n2
  rw [s2] at n4
  have b5 := Cmd.below_one w4 (.cells #[.int .i64 1, .int .i64 1, .int .i64 9, .slice none 0 0, .slice none 0 0, .int .i64 1, .int .i64 2, .int .i64 1, .slice (some ⟨w.heap.size + 1 + 1, 0, none⟩) 1 1, .slice none 0 0] 46)
  have n5 := heap_alloc_new w4 (.cells #[.int .i64 1, .int .i64 1, .int .i64 9, .slice none 0 0, .slice none 0 0, .int .i64 1, .int .i64 2, .int .i64 1, .slice (some ⟨w.heap.size + 1 + 1, 0, none⟩) 1 1, .slice none 0 0] 46)
  rw [s4] at n5
  have r5 := two_recq n5 ((Cps.one_id n4).on b5)
  have HB0 := b1.trans ((b2.trans ((b4.trans (b5.mono b4.size)).mono b2.size)).mono b1.size)
  have CN := HG.new _ qrs _ r5 qrs_lot
  have k1 := (b2.trans ((b4.trans (b5.mono b4.size)).mono b2.size)).block w.heap.size (by omega)
  have k2 := (b4.trans (b5.mono b4.size)).block (w.heap.size + 1) (by omega)
  have T1 := Lib.hid (And.intro (k1.trans n1) (k2.trans n2))
  have HB5 := Lib.hid HB0
  have HCN := Lib.hid CN
  subst h4; subst h2; subst h1
  clear b1 n1 s1 b2 n2 s2 b4 n4 s4 b5 n5 r5 HB0 CN k1 k2
  obtain ⟨c0, c1, c2, c3⟩ : True ∧ True ∧ True ∧ True := ⟨trivial, trivial, trivial, trivial⟩
  go_enter Tryz.func7, Tryz.ntmps7
  go_upto_region 3 with (first
    | (go_at_call 8; ((with_reducible refine HCN.out.mono ?_); rintro E w6 ⟨hb, (⟨-, g, rfl, hg⟩ | ⟨hne, -⟩)⟩; rotate_left; exact absurd qrs_err hne; have G6 := Lib.hid hg; have T6 := Lib.hid (And.intro ((hb.block _ (Array.getElem?_eq_some_iff.1 T1.out.1).1).trans T1.out.1) ((hb.block _ (Array.getElem?_eq_some_iff.1 T1.out.2).1).trans T1.out.2)); have HB6 := Lib.hid (HB5.out.trans (hb.mono HB5.out.size)); clear hb hg)))
  have HOr : Hid (∀ X, Below w6.heap.size w6 X → Calls Tryz.prog 9 #[gptr g] X (GivesLL [[(1, 1)], [(1, 2)]] X)) := Lib.hid fun X hb => by
    have := HR.out.order (HK.out.on G6.out hb)
    rwa [qorder] at this
  have HLe : Hid (∀ X, Below w6.heap.size w6 X → ∀ v u, RowAt X v [(1, 2)] → RowAt X u [(1, 1)] → Calls Tryz.prog 17 #[gptr g, v, u] X (RetBelow (.bool true) X)) := Lib.hid fun X hb v u hv hu => by
    have := HR.out.leads (HK.out.on G6.out hb) v u _ _ hv hu (by decide) (by decide) (fun x hx => by rw [List.mem_singleton.1 hx]; exact ⟨by decide, by decide⟩) (fun x hx => by rw [List.mem_singleton.1 hx]; exact ⟨by decide, by decide⟩)
    rwa [qleads] at this
  have HFl : Hid (∀ X, Below w6.heap.size w6 X → ∀ v, layLL.Row X v [[(1, 1)], [(1, 2)]] → Calls Tryz.prog 15 #[v] X (fun E W => ∃ p k, E = .returned (.slice p 2 k) ∧ Below X.heap.size X W)) := Lib.hid fun X hb v hv => by
    refine (HR.out.flat X v _ hv (by decide) (by decide) (fun c hc x hx => ?_)).mono fun E W ⟨u, he, hr, hb'⟩ => ?_
    · simp only [List.mem_cons, List.not_mem_nil, or_false] at hc
      rcases hc with rfl | rfl <;> (rw [List.mem_singleton.1 hx]; exact ⟨by decide, by decide⟩)
    · obtain ⟨p, k, e, -, -⟩ := Rec.RowAt.parts hr
      exact ⟨p, k, by rw [he, e]; rfl, hb'⟩
  have HRi : Hid (∀ X, Below w6.heap.size w6 X → ∀ v, layLL.Row X v [[(1, 1)]] → Calls Tryz.prog 12 #[gptr g, v] X (RetBelow (.bool true) X)) := Lib.hid fun X hb v hv => by
    have := HR.out.right (HK.out.on G6.out hb) v _ hv (by decide) (by decide) (fun c hc x hx => by rw [List.mem_singleton.1 hc] at hx; rw [List.mem_singleton.1 hx]; exact ⟨by decide, by decide⟩)
    rwa [qright] at this
  have HS : Hid (∀ w', Below w6.heap.size w6 w' → w'.cell? ⟨w.heap.size, 0, none⟩ = some (.int .i64 1) ∧ w'.cell? ⟨w.heap.size, 1, none⟩ = some (.int .i64 1) ∧ w'.cell? ⟨w.heap.size + 1, 0, none⟩ = some (.int .i64 1) ∧ w'.cell? ⟨w.heap.size + 1, 1, none⟩ = some (.int .i64 2)) := Lib.hid fun w' hb => by
    have t1 := (hb.block _ (Array.getElem?_eq_some_iff.1 T6.out.1).1).trans T6.out.1
    have t2 := (hb.block _ (Array.getElem?_eq_some_iff.1 T6.out.2).1).trans T6.out.2
    exact ⟨cell_row (i := 0) t1 rfl, cell_row (i := 1) t1 rfl, cell_row (i := 0) t2 rfl, cell_row (i := 1) t2 rfl⟩
  have DY0 : Hid (Below w6.heap.size w6 w6.drew) := Lib.hid (Below.refl _ _).drew
  refine wp_region_held_drew (S := (fun w' => w'.cell? ⟨w.heap.size, 0, none⟩ = some (.int .i64 1) ∧ w'.cell? ⟨w.heap.size, 1, none⟩ = some (.int .i64 1) ∧ w'.cell? ⟨w.heap.size + 1, 0, none⟩ = some (.int .i64 1) ∧ w'.cell? ⟨w.heap.size + 1, 1, none⟩ = some (.int .i64 2))) (by kernel_rfl) (HS.out _ DY0.out) (fun hHeld => ?_)
  generalize w6.drew = Y0 at DY0 hHeld ⊢
  refine ty (v := ?_) 0 (fun w hSw => ?_) ?_
  rotate_left
  · (try dsimp only at hSw); go_simp; (try with_reducible rfl)
  try simp only [List.getElem_toArray, List.getElem_cons_succ, List.getElem_cons_zero, Act.put, List.setIfInBounds_toArray, List.set_cons_zero, List.set_cons_succ]
  refine ty (v := ?_) 1 (fun w hSw => ?_) ?_
  rotate_left
  · (try dsimp only at hSw); go_simp; (try with_reducible rfl)
  try simp only [List.getElem_toArray, List.getElem_cons_succ, List.getElem_cons_zero, Act.put, List.setIfInBounds_toArray, List.set_cons_zero, List.set_cons_succ]
  refine ty (v := ?_) 2 (fun w hSw => ?_) ?_
  rotate_left
  · (try dsimp only at hSw); go_simp; (try with_reducible rfl)
  try simp only [List.getElem_toArray, List.getElem_cons_succ, List.getElem_cons_zero, Act.put, List.setIfInBounds_toArray, List.set_cons_zero, List.set_cons_succ]
  refine ty (v := ?_) 3 (fun w hSw => ?_) ?_
  rotate_left
  · (try dsimp only at hSw); go_simp; (try with_reducible rfl)
  try simp only [List.getElem_toArray, List.getElem_cons_succ, List.getElem_cons_zero, Act.put, List.setIfInBounds_toArray, List.set_cons_zero, List.set_cons_succ]
  refine ty (v := ?_) 5 (fun w hSw => ?_) ?_
  rotate_left
  · (try dsimp only at hSw); go_simp; (try with_reducible rfl)
  try simp only [List.getElem_toArray, List.getElem_cons_succ, List.getElem_cons_zero, Act.put, List.setIfInBounds_toArray, List.set_cons_zero, List.set_cons_succ]
  refine ty (v := ?_) 7 (fun w hSw => ?_) ?_
  rotate_left
  · (try dsimp only at hSw); go_simp; (try with_reducible rfl)
  try simp only [List.getElem_toArray, List.getElem_cons_succ, List.getElem_cons_zero, Act.put, List.setIfInBounds_toArray, List.set_cons_zero, List.set_cons_succ]
  apply held_join (C := fun Y => Hid (Below w6.heap.size w6 Y))
  case h1 =>
    intro tail
    refine wpAnyH_ready (rs := [4, 6, 8]) (by kernel_rfl) (by simp) ?_
    refine AllReadyH.cons rfl (fun K hK => ?_) ?_
    · go_simp
      (go_at_call 9; ((with_reducible refine (HOr.out _ DY0.out).mono ?_); rintro E Y1 ⟨v1, rfl, hr, hb⟩; have DY1 := Lib.hid (DY0.out.trans (hb.mono DY0.out.size)); have RC := Lib.hid hr; clear hb))
      refine hK.out _ _ ?_ (fun hHeld => ?_)
      · exact HS.out _ DY1.out
      clear hK K
      try simp only [List.getElem_toArray, List.getElem_cons_succ, List.getElem_cons_zero, Act.put, List.setIfInBounds_toArray, List.set_cons_zero, List.set_cons_succ]
      refine wpAnyH_ready (rs := [6, 8]) (by kernel_rfl) (by simp) ?_
      refine AllReadyH.cons rfl (fun K hK => ?_) ?_
      · go_simp
        have hb := Cmd.below_one Y1 (.cells #[.int .i64 1, .int .i64 1] 43)
        have EY2 := Lib.hid (heap_alloc_new Y1 (.cells #[.int .i64 1, .int .i64 1] 43))
        have DY2 := Lib.hid (DY1.out.trans (hb.mono DY1.out.size))
        have RC := Lib.hid (RC.out.on hb)
        clear hb
        refine hK.out _ _ ?_ (fun hHeld => ?_)
        · exact HS.out _ DY2.out
        clear hK K
        generalize Y1.alloc (.cells #[.int .i64 1, .int .i64 1] 43) = Y2 at EY2 DY2 RC hHeld ⊢
        try simp only [List.getElem_toArray, List.getElem_cons_succ, List.getElem_cons_zero, Act.put, List.setIfInBounds_toArray, List.set_cons_zero, List.set_cons_succ]
        have RA := Lib.hid (Cps.one_id EY2.out)
        refine tr 8 (fun K hK => ?_)
        go_simp
        have hb := Cmd.below_one Y2 (.cells #[.int .i64 1, .int .i64 2] 43)
        have EY3 := Lib.hid (heap_alloc_new Y2 (.cells #[.int .i64 1, .int .i64 2] 43))
        have DY3 := Lib.hid (DY2.out.trans (hb.mono DY2.out.size))
        have RC := Lib.hid (RC.out.on hb)
        have RA := Lib.hid (RA.out.on hb)
        clear hb
        refine hK.out _ _ ?_ (fun hHeld => ?_)
        · exact HS.out _ DY3.out
        clear hK K
        generalize Y2.alloc (.cells #[.int .i64 1, .int .i64 2] 43) = Y3 at EY3 DY3 RC RA hHeld ⊢
        try simp only [List.getElem_toArray, List.getElem_cons_succ, List.getElem_cons_zero, Act.put, List.setIfInBounds_toArray, List.set_cons_zero, List.set_cons_succ]
        have RB := Lib.hid (Cps.one_id EY3.out)
        refine tr 9 (fun K hK => ?_)
        go_simp
        have hb := Cmd.below_one Y3 (.cells #[.slice (some ⟨Y1.heap.size, 0, none⟩) 1 1, .slice (some ⟨Y2.heap.size, 0, none⟩) 1 1] 38)
        have EY4 := Lib.hid (heap_alloc_new Y3 (.cells #[.slice (some ⟨Y1.heap.size, 0, none⟩) 1 1, .slice (some ⟨Y2.heap.size, 0, none⟩) 1 1] 38))
        have DY4 := Lib.hid (DY3.out.trans (hb.mono DY3.out.size))
        have RC := Lib.hid (RC.out.on hb)
        have RA := Lib.hid (RA.out.on hb)
        have RB := Lib.hid (RB.out.on hb)
        clear hb
        refine hK.out _ _ ?_ (fun hHeld => ?_)
        · exact HS.out _ DY4.out
        clear hK K
        generalize Y3.alloc (.cells #[.slice (some ⟨Y1.heap.size, 0, none⟩) 1 1, .slice (some ⟨Y2.heap.size, 0, none⟩) 1 1] 38) = Y4 at EY4 DY4 RC RA RB hHeld ⊢
        try simp only [List.getElem_toArray, List.getElem_cons_succ, List.getElem_cons_zero, Act.put, List.setIfInBounds_toArray, List.set_cons_zero, List.set_cons_succ]
        have RL := Lib.hid (ll_two EY4.out RA.out RB.out)
        refine tr 10 (fun K hK => ?_)
        go_simp
        (go_at_call 10; ((with_reducible refine (kll_same _ _ _ _ RC.out RL.out (by decide)).mono ?_); rintro E Ys ⟨rfl, hb⟩; have DYs := Lib.hid (DY4.out.trans (hb.mono DY4.out.size)); clear hb))
        refine hK.out _ _ ?_ (fun hHeld => ?_)
        · exact HS.out _ DYs.out
        clear hK K
        try simp only [List.getElem_toArray, List.getElem_cons_succ, List.getElem_cons_zero, Act.put, List.setIfInBounds_toArray, List.set_cons_zero, List.set_cons_succ]
        refine to_listed (L' := #[true, true, true, true, true, true, true, true, true, true, true, false, false, false, false, false, false, false, false, false, false, false, false, false, false, false, false, false, false, false, false, false, false, false, false, false, false, false]) (f' := 27) (by kernel_rfl) (by kernel_rfl) ?_
        generalize (Value.slice (some ⟨Y1.heap.size, 0, none⟩) 1 1 : Value) = u24
        generalize (Value.slice (some ⟨Y2.heap.size, 0, none⟩) 1 1 : Value) = u26
        generalize (Value.slice (some ⟨Y3.heap.size, 0, none⟩) 2 2 : Value) = u27
        exact tail v1 u24 u26 u27 Ys DYs
      refine AllReadyH.cons rfl (fun K hK => ?_) ?_
      · go_simp
        have hb := Cmd.below_one Y1 (.cells #[.int .i64 1, .int .i64 2] 43)
        have EY2 := Lib.hid (heap_alloc_new Y1 (.cells #[.int .i64 1, .int .i64 2] 43))
        have DY2 := Lib.hid (DY1.out.trans (hb.mono DY1.out.size))
        have RC := Lib.hid (RC.out.on hb)
        clear hb
        refine hK.out _ _ ?_ (fun hHeld => ?_)
        · exact HS.out _ DY2.out
        clear hK K
        generalize Y1.alloc (.cells #[.int .i64 1, .int .i64 2] 43) = Y2 at EY2 DY2 RC hHeld ⊢
        try simp only [List.getElem_toArray, List.getElem_cons_succ, List.getElem_cons_zero, Act.put, List.setIfInBounds_toArray, List.set_cons_zero, List.set_cons_succ]
        have RB := Lib.hid (Cps.one_id EY2.out)
        refine tr 6 (fun K hK => ?_)
        go_simp
        have hb := Cmd.below_one Y2 (.cells #[.int .i64 1, .int .i64 1] 43)
        have EY3 := Lib.hid (heap_alloc_new Y2 (.cells #[.int .i64 1, .int .i64 1] 43))
        have DY3 := Lib.hid (DY2.out.trans (hb.mono DY2.out.size))
        have RC := Lib.hid (RC.out.on hb)
        have RB := Lib.hid (RB.out.on hb)
        clear hb
        refine hK.out _ _ ?_ (fun hHeld => ?_)
        · exact HS.out _ DY3.out
        clear hK K
        generalize Y2.alloc (.cells #[.int .i64 1, .int .i64 1] 43) = Y3 at EY3 DY3 RC RB hHeld ⊢
        try simp only [List.getElem_toArray, List.getElem_cons_succ, List.getElem_cons_zero, Act.put, List.setIfInBounds_toArray, List.set_cons_zero, List.set_cons_succ]
        have RA := Lib.hid (Cps.one_id EY3.out)
        refine tr 9 (fun K hK => ?_)
        go_simp
        have hb := Cmd.below_one Y3 (.cells #[.slice (some ⟨Y2.heap.size, 0, none⟩) 1 1, .slice (some ⟨Y1.heap.size, 0, none⟩) 1 1] 38)
        have EY4 := Lib.hid (heap_alloc_new Y3 (.cells #[.slice (some ⟨Y2.heap.size, 0, none⟩) 1 1, .slice (some ⟨Y1.heap.size, 0, none⟩) 1 1] 38))
        have DY4 := Lib.hid (DY3.out.trans (hb.mono DY3.out.size))
        have RC := Lib.hid (RC.out.on hb)
        have RA := Lib.hid (RA.out.on hb)
        have RB := Lib.hid (RB.out.on hb)
        clear hb
        refine hK.out _ _ ?_ (fun hHeld => ?_)
        · exact HS.out _ DY4.out
        clear hK K
        generalize Y3.alloc (.cells #[.slice (some ⟨Y2.heap.size, 0, none⟩) 1 1, .slice (some ⟨Y1.heap.size, 0, none⟩) 1 1] 38) = Y4 at EY4 DY4 RC RA RB hHeld ⊢
        try simp only [List.getElem_toArray, List.getElem_cons_succ, List.getElem_cons_zero, Act.put, List.setIfInBounds_toArray, List.set_cons_zero, List.set_cons_succ]
        have RL := Lib.hid (ll_two EY4.out RA.out RB.out)
        refine tr 10 (fun K hK => ?_)
        go_simp
        (go_at_call 10; ((with_reducible refine (kll_same _ _ _ _ RC.out RL.out (by decide)).mono ?_); rintro E Ys ⟨rfl, hb⟩; have DYs := Lib.hid (DY4.out.trans (hb.mono DY4.out.size)); clear hb))
        refine hK.out _ _ ?_ (fun hHeld => ?_)
        · exact HS.out _ DYs.out
        clear hK K
        try simp only [List.getElem_toArray, List.getElem_cons_succ, List.getElem_cons_zero, Act.put, List.setIfInBounds_toArray, List.set_cons_zero, List.set_cons_succ]
        refine to_listed (L' := #[true, true, true, true, true, true, true, true, true, true, true, false, false, false, false, false, false, false, false, false, false, false, false, false, false, false, false, false, false, false, false, false, false, false, false, false, false, false]) (f' := 27) (by kernel_rfl) (by kernel_rfl) ?_
        generalize (Value.slice (some ⟨Y2.heap.size, 0, none⟩) 1 1 : Value) = u24
        generalize (Value.slice (some ⟨Y1.heap.size, 0, none⟩) 1 1 : Value) = u26
        generalize (Value.slice (some ⟨Y3.heap.size, 0, none⟩) 2 2 : Value) = u27
        exact tail v1 u24 u26 u27 Ys DYs
      exact AllReadyH.nil
    refine AllReadyH.cons rfl (fun K hK => ?_) ?_
    · go_simp
      have hb := Cmd.below_one Y0 (.cells #[.int .i64 1, .int .i64 1] 43)
      have EY1 := Lib.hid (heap_alloc_new Y0 (.cells #[.int .i64 1, .int .i64 1] 43))
      have DY1 := Lib.hid (DY0.out.trans (hb.mono DY0.out.size))
      clear hb
      refine hK.out _ _ ?_ (fun hHeld => ?_)
      · exact HS.out _ DY1.out
      clear hK K
      generalize Y0.alloc (.cells #[.int .i64 1, .int .i64 1] 43) = Y1 at EY1 DY1 hHeld ⊢
      try simp only [List.getElem_toArray, List.getElem_cons_succ, List.getElem_cons_zero, Act.put, List.setIfInBounds_toArray, List.set_cons_zero, List.set_cons_succ]
      have RA := Lib.hid (Cps.one_id EY1.out)
      refine wpAnyH_ready (rs := [4, 8]) (by kernel_rfl) (by simp) ?_
      refine AllReadyH.cons rfl (fun K hK => ?_) ?_
      · go_simp
        (go_at_call 9; ((with_reducible refine (HOr.out _ DY1.out).mono ?_); rintro E Y2 ⟨v1, rfl, hr, hb⟩; have DY2 := Lib.hid (DY1.out.trans (hb.mono DY1.out.size)); have RA := Lib.hid (RA.out.on hb); have RC := Lib.hid hr; clear hb))
        refine hK.out _ _ ?_ (fun hHeld => ?_)
        · exact HS.out _ DY2.out
        clear hK K
        try simp only [List.getElem_toArray, List.getElem_cons_succ, List.getElem_cons_zero, Act.put, List.setIfInBounds_toArray, List.set_cons_zero, List.set_cons_succ]
        refine tr 8 (fun K hK => ?_)
        go_simp
        have hb := Cmd.below_one Y2 (.cells #[.int .i64 1, .int .i64 2] 43)
        have EY3 := Lib.hid (heap_alloc_new Y2 (.cells #[.int .i64 1, .int .i64 2] 43))
        have DY3 := Lib.hid (DY2.out.trans (hb.mono DY2.out.size))
        have RC := Lib.hid (RC.out.on hb)
        have RA := Lib.hid (RA.out.on hb)
        clear hb
        refine hK.out _ _ ?_ (fun hHeld => ?_)
        · exact HS.out _ DY3.out
        clear hK K
        generalize Y2.alloc (.cells #[.int .i64 1, .int .i64 2] 43) = Y3 at EY3 DY3 RC RA hHeld ⊢
        try simp only [List.getElem_toArray, List.getElem_cons_succ, List.getElem_cons_zero, Act.put, List.setIfInBounds_toArray, List.set_cons_zero, List.set_cons_succ]
        have RB := Lib.hid (Cps.one_id EY3.out)
        refine tr 9 (fun K hK => ?_)
        go_simp
        have hb := Cmd.below_one Y3 (.cells #[.slice (some ⟨Y0.heap.size, 0, none⟩) 1 1, .slice (some ⟨Y2.heap.size, 0, none⟩) 1 1] 38)
        have EY4 := Lib.hid (heap_alloc_new Y3 (.cells #[.slice (some ⟨Y0.heap.size, 0, none⟩) 1 1, .slice (some ⟨Y2.heap.size, 0, none⟩) 1 1] 38))
        have DY4 := Lib.hid (DY3.out.trans (hb.mono DY3.out.size))
        have RC := Lib.hid (RC.out.on hb)
        have RA := Lib.hid (RA.out.on hb)
        have RB := Lib.hid (RB.out.on hb)
        clear hb
        refine hK.out _ _ ?_ (fun hHeld => ?_)
        · exact HS.out _ DY4.out
        clear hK K
        generalize Y3.alloc (.cells #[.slice (some ⟨Y0.heap.size, 0, none⟩) 1 1, .slice (some ⟨Y2.heap.size, 0, none⟩) 1 1] 38) = Y4 at EY4 DY4 RC RA RB hHeld ⊢
        try simp only [List.getElem_toArray, List.getElem_cons_succ, List.getElem_cons_zero, Act.put, List.setIfInBounds_toArray, List.set_cons_zero, List.set_cons_succ]
        have RL := Lib.hid (ll_two EY4.out RA.out RB.out)
        refine tr 10 (fun K hK => ?_)
        go_simp
        (go_at_call 10; ((with_reducible refine (kll_same _ _ _ _ RC.out RL.out (by decide)).mono ?_); rintro E Ys ⟨rfl, hb⟩; have DYs := Lib.hid (DY4.out.trans (hb.mono DY4.out.size)); clear hb))
        refine hK.out _ _ ?_ (fun hHeld => ?_)
        · exact HS.out _ DYs.out
        clear hK K
        try simp only [List.getElem_toArray, List.getElem_cons_succ, List.getElem_cons_zero, Act.put, List.setIfInBounds_toArray, List.set_cons_zero, List.set_cons_succ]
        refine to_listed (L' := #[true, true, true, true, true, true, true, true, true, true, true, false, false, false, false, false, false, false, false, false, false, false, false, false, false, false, false, false, false, false, false, false, false, false, false, false, false, false]) (f' := 27) (by kernel_rfl) (by kernel_rfl) ?_
        generalize (Value.slice (some ⟨Y0.heap.size, 0, none⟩) 1 1 : Value) = u24
        generalize (Value.slice (some ⟨Y2.heap.size, 0, none⟩) 1 1 : Value) = u26
        generalize (Value.slice (some ⟨Y3.heap.size, 0, none⟩) 2 2 : Value) = u27
        exact tail v1 u24 u26 u27 Ys DYs
      refine AllReadyH.cons rfl (fun K hK => ?_) ?_
      · go_simp
        have hb := Cmd.below_one Y1 (.cells #[.int .i64 1, .int .i64 2] 43)
        have EY2 := Lib.hid (heap_alloc_new Y1 (.cells #[.int .i64 1, .int .i64 2] 43))
        have DY2 := Lib.hid (DY1.out.trans (hb.mono DY1.out.size))
        have RA := Lib.hid (RA.out.on hb)
        clear hb
        refine hK.out _ _ ?_ (fun hHeld => ?_)
        · exact HS.out _ DY2.out
        clear hK K
        generalize Y1.alloc (.cells #[.int .i64 1, .int .i64 2] 43) = Y2 at EY2 DY2 RA hHeld ⊢
        try simp only [List.getElem_toArray, List.getElem_cons_succ, List.getElem_cons_zero, Act.put, List.setIfInBounds_toArray, List.set_cons_zero, List.set_cons_succ]
        have RB := Lib.hid (Cps.one_id EY2.out)
        refine wpAnyH_ready (rs := [4, 9]) (by kernel_rfl) (by simp) ?_
        refine AllReadyH.cons rfl (fun K hK => ?_) ?_
        · go_simp
          (go_at_call 9; ((with_reducible refine (HOr.out _ DY2.out).mono ?_); rintro E Y3 ⟨v1, rfl, hr, hb⟩; have DY3 := Lib.hid (DY2.out.trans (hb.mono DY2.out.size)); have RA := Lib.hid (RA.out.on hb); have RB := Lib.hid (RB.out.on hb); have RC := Lib.hid hr; clear hb))
          refine hK.out _ _ ?_ (fun hHeld => ?_)
          · exact HS.out _ DY3.out
          clear hK K
          try simp only [List.getElem_toArray, List.getElem_cons_succ, List.getElem_cons_zero, Act.put, List.setIfInBounds_toArray, List.set_cons_zero, List.set_cons_succ]
          refine tr 9 (fun K hK => ?_)
          go_simp
          have hb := Cmd.below_one Y3 (.cells #[.slice (some ⟨Y0.heap.size, 0, none⟩) 1 1, .slice (some ⟨Y1.heap.size, 0, none⟩) 1 1] 38)
          have EY4 := Lib.hid (heap_alloc_new Y3 (.cells #[.slice (some ⟨Y0.heap.size, 0, none⟩) 1 1, .slice (some ⟨Y1.heap.size, 0, none⟩) 1 1] 38))
          have DY4 := Lib.hid (DY3.out.trans (hb.mono DY3.out.size))
          have RC := Lib.hid (RC.out.on hb)
          have RA := Lib.hid (RA.out.on hb)
          have RB := Lib.hid (RB.out.on hb)
          clear hb
          refine hK.out _ _ ?_ (fun hHeld => ?_)
          · exact HS.out _ DY4.out
          clear hK K
          generalize Y3.alloc (.cells #[.slice (some ⟨Y0.heap.size, 0, none⟩) 1 1, .slice (some ⟨Y1.heap.size, 0, none⟩) 1 1] 38) = Y4 at EY4 DY4 RC RA RB hHeld ⊢
          try simp only [List.getElem_toArray, List.getElem_cons_succ, List.getElem_cons_zero, Act.put, List.setIfInBounds_toArray, List.set_cons_zero, List.set_cons_succ]
          have RL := Lib.hid (ll_two EY4.out RA.out RB.out)
          refine tr 10 (fun K hK => ?_)
          go_simp
          (go_at_call 10; ((with_reducible refine (kll_same _ _ _ _ RC.out RL.out (by decide)).mono ?_); rintro E Ys ⟨rfl, hb⟩; have DYs := Lib.hid (DY4.out.trans (hb.mono DY4.out.size)); clear hb))
          refine hK.out _ _ ?_ (fun hHeld => ?_)
          · exact HS.out _ DYs.out
          clear hK K
          try simp only [List.getElem_toArray, List.getElem_cons_succ, List.getElem_cons_zero, Act.put, List.setIfInBounds_toArray, List.set_cons_zero, List.set_cons_succ]
          refine to_listed (L' := #[true, true, true, true, true, true, true, true, true, true, true, false, false, false, false, false, false, false, false, false, false, false, false, false, false, false, false, false, false, false, false, false, false, false, false, false, false, false]) (f' := 27) (by kernel_rfl) (by kernel_rfl) ?_
          generalize (Value.slice (some ⟨Y0.heap.size, 0, none⟩) 1 1 : Value) = u24
          generalize (Value.slice (some ⟨Y1.heap.size, 0, none⟩) 1 1 : Value) = u26
          generalize (Value.slice (some ⟨Y3.heap.size, 0, none⟩) 2 2 : Value) = u27
          exact tail v1 u24 u26 u27 Ys DYs
        refine AllReadyH.cons rfl (fun K hK => ?_) ?_
        · go_simp
          have hb := Cmd.below_one Y2 (.cells #[.slice (some ⟨Y0.heap.size, 0, none⟩) 1 1, .slice (some ⟨Y1.heap.size, 0, none⟩) 1 1] 38)
          have EY3 := Lib.hid (heap_alloc_new Y2 (.cells #[.slice (some ⟨Y0.heap.size, 0, none⟩) 1 1, .slice (some ⟨Y1.heap.size, 0, none⟩) 1 1] 38))
          have DY3 := Lib.hid (DY2.out.trans (hb.mono DY2.out.size))
          have RA := Lib.hid (RA.out.on hb)
          have RB := Lib.hid (RB.out.on hb)
          clear hb
          refine hK.out _ _ ?_ (fun hHeld => ?_)
          · exact HS.out _ DY3.out
          clear hK K
          generalize Y2.alloc (.cells #[.slice (some ⟨Y0.heap.size, 0, none⟩) 1 1, .slice (some ⟨Y1.heap.size, 0, none⟩) 1 1] 38) = Y3 at EY3 DY3 RA RB hHeld ⊢
          try simp only [List.getElem_toArray, List.getElem_cons_succ, List.getElem_cons_zero, Act.put, List.setIfInBounds_toArray, List.set_cons_zero, List.set_cons_succ]
          have RL := Lib.hid (ll_two EY3.out RA.out RB.out)
          refine tr 4 (fun K hK => ?_)
          go_simp
          (go_at_call 9; ((with_reducible refine (HOr.out _ DY3.out).mono ?_); rintro E Y4 ⟨v1, rfl, hr, hb⟩; have DY4 := Lib.hid (DY3.out.trans (hb.mono DY3.out.size)); have RL := Lib.hid (RL.out.on hb); have RC := Lib.hid hr; clear hb))
          refine hK.out _ _ ?_ (fun hHeld => ?_)
          · exact HS.out _ DY4.out
          clear hK K
          try simp only [List.getElem_toArray, List.getElem_cons_succ, List.getElem_cons_zero, Act.put, List.setIfInBounds_toArray, List.set_cons_zero, List.set_cons_succ]
          refine tr 10 (fun K hK => ?_)
          go_simp
          (go_at_call 10; ((with_reducible refine (kll_same _ _ _ _ RC.out RL.out (by decide)).mono ?_); rintro E Ys ⟨rfl, hb⟩; have DYs := Lib.hid (DY4.out.trans (hb.mono DY4.out.size)); clear hb))
          refine hK.out _ _ ?_ (fun hHeld => ?_)
          · exact HS.out _ DYs.out
          clear hK K
          try simp only [List.getElem_toArray, List.getElem_cons_succ, List.getElem_cons_zero, Act.put, List.setIfInBounds_toArray, List.set_cons_zero, List.set_cons_succ]
          refine to_listed (L' := #[true, true, true, true, true, true, true, true, true, true, true, false, false, false, false, false, false, false, false, false, false, false, false, false, false, false, false, false, false, false, false, false, false, false, false, false, false, false]) (f' := 27) (by kernel_rfl) (by kernel_rfl) ?_
          generalize (Value.slice (some ⟨Y0.heap.size, 0, none⟩) 1 1 : Value) = u24
          generalize (Value.slice (some ⟨Y1.heap.size, 0, none⟩) 1 1 : Value) = u26
          generalize (Value.slice (some ⟨Y2.heap.size, 0, none⟩) 2 2 : Value) = u27
          exact tail v1 u24 u26 u27 Ys DYs
        exact AllReadyH.nil
      exact AllReadyH.nil
    refine AllReadyH.cons rfl (fun K hK => ?_) ?_
    · go_simp
      have hb := Cmd.below_one Y0 (.cells #[.int .i64 1, .int .i64 2] 43)
      have EY1 := Lib.hid (heap_alloc_new Y0 (.cells #[.int .i64 1, .int .i64 2] 43))
      have DY1 := Lib.hid (DY0.out.trans (hb.mono DY0.out.size))
      clear hb
      refine hK.out _ _ ?_ (fun hHeld => ?_)
      · exact HS.out _ DY1.out
      clear hK K
      generalize Y0.alloc (.cells #[.int .i64 1, .int .i64 2] 43) = Y1 at EY1 DY1 hHeld ⊢
      try simp only [List.getElem_toArray, List.getElem_cons_succ, List.getElem_cons_zero, Act.put, List.setIfInBounds_toArray, List.set_cons_zero, List.set_cons_succ]
      have RB := Lib.hid (Cps.one_id EY1.out)
      refine wpAnyH_ready (rs := [4, 6]) (by kernel_rfl) (by simp) ?_
      refine AllReadyH.cons rfl (fun K hK => ?_) ?_
      · go_simp
        (go_at_call 9; ((with_reducible refine (HOr.out _ DY1.out).mono ?_); rintro E Y2 ⟨v1, rfl, hr, hb⟩; have DY2 := Lib.hid (DY1.out.trans (hb.mono DY1.out.size)); have RB := Lib.hid (RB.out.on hb); have RC := Lib.hid hr; clear hb))
        refine hK.out _ _ ?_ (fun hHeld => ?_)
        · exact HS.out _ DY2.out
        clear hK K
        try simp only [List.getElem_toArray, List.getElem_cons_succ, List.getElem_cons_zero, Act.put, List.setIfInBounds_toArray, List.set_cons_zero, List.set_cons_succ]
        refine tr 6 (fun K hK => ?_)
        go_simp
        have hb := Cmd.below_one Y2 (.cells #[.int .i64 1, .int .i64 1] 43)
        have EY3 := Lib.hid (heap_alloc_new Y2 (.cells #[.int .i64 1, .int .i64 1] 43))
        have DY3 := Lib.hid (DY2.out.trans (hb.mono DY2.out.size))
        have RC := Lib.hid (RC.out.on hb)
        have RB := Lib.hid (RB.out.on hb)
        clear hb
        refine hK.out _ _ ?_ (fun hHeld => ?_)
        · exact HS.out _ DY3.out
        clear hK K
        generalize Y2.alloc (.cells #[.int .i64 1, .int .i64 1] 43) = Y3 at EY3 DY3 RC RB hHeld ⊢
        try simp only [List.getElem_toArray, List.getElem_cons_succ, List.getElem_cons_zero, Act.put, List.setIfInBounds_toArray, List.set_cons_zero, List.set_cons_succ]
        have RA := Lib.hid (Cps.one_id EY3.out)
        refine tr 9 (fun K hK => ?_)
        go_simp
        have hb := Cmd.below_one Y3 (.cells #[.slice (some ⟨Y2.heap.size, 0, none⟩) 1 1, .slice (some ⟨Y0.heap.size, 0, none⟩) 1 1] 38)
        have EY4 := Lib.hid (heap_alloc_new Y3 (.cells #[.slice (some ⟨Y2.heap.size, 0, none⟩) 1 1, .slice (some ⟨Y0.heap.size, 0, none⟩) 1 1] 38))
        have DY4 := Lib.hid (DY3.out.trans (hb.mono DY3.out.size))
        have RC := Lib.hid (RC.out.on hb)
        have RA := Lib.hid (RA.out.on hb)
        have RB := Lib.hid (RB.out.on hb)
        clear hb
        refine hK.out _ _ ?_ (fun hHeld => ?_)
        · exact HS.out _ DY4.out
        clear hK K
        generalize Y3.alloc (.cells #[.slice (some ⟨Y2.heap.size, 0, none⟩) 1 1, .slice (some ⟨Y0.heap.size, 0, none⟩) 1 1] 38) = Y4 at EY4 DY4 RC RA RB hHeld ⊢
        try simp only [List.getElem_toArray, List.getElem_cons_succ, List.getElem_cons_zero, Act.put, List.setIfInBounds_toArray, List.set_cons_zero, List.set_cons_succ]
        have RL := Lib.hid (ll_two EY4.out RA.out RB.out)
        refine tr 10 (fun K hK => ?_)
        go_simp
        (go_at_call 10; ((with_reducible refine (kll_same _ _ _ _ RC.out RL.out (by decide)).mono ?_); rintro E Ys ⟨rfl, hb⟩; have DYs := Lib.hid (DY4.out.trans (hb.mono DY4.out.size)); clear hb))
        refine hK.out _ _ ?_ (fun hHeld => ?_)
        · exact HS.out _ DYs.out
        clear hK K
        try simp only [List.getElem_toArray, List.getElem_cons_succ, List.getElem_cons_zero, Act.put, List.setIfInBounds_toArray, List.set_cons_zero, List.set_cons_succ]
        refine to_listed (L' := #[true, true, true, true, true, true, true, true, true, true, true, false, false, false, false, false, false, false, false, false, false, false, false, false, false, false, false, false, false, false, false, false, false, false, false, false, false, false]) (f' := 27) (by kernel_rfl) (by kernel_rfl) ?_
        generalize (Value.slice (some ⟨Y2.heap.size, 0, none⟩) 1 1 : Value) = u24
        generalize (Value.slice (some ⟨Y0.heap.size, 0, none⟩) 1 1 : Value) = u26
        generalize (Value.slice (some ⟨Y3.heap.size, 0, none⟩) 2 2 : Value) = u27
        exact tail v1 u24 u26 u27 Ys DYs
      refine AllReadyH.cons rfl (fun K hK => ?_) ?_
      · go_simp
        have hb := Cmd.below_one Y1 (.cells #[.int .i64 1, .int .i64 1] 43)
        have EY2 := Lib.hid (heap_alloc_new Y1 (.cells #[.int .i64 1, .int .i64 1] 43))
        have DY2 := Lib.hid (DY1.out.trans (hb.mono DY1.out.size))
        have RB := Lib.hid (RB.out.on hb)
        clear hb
        refine hK.out _ _ ?_ (fun hHeld => ?_)
        · exact HS.out _ DY2.out
        clear hK K
        generalize Y1.alloc (.cells #[.int .i64 1, .int .i64 1] 43) = Y2 at EY2 DY2 RB hHeld ⊢
        try simp only [List.getElem_toArray, List.getElem_cons_succ, List.getElem_cons_zero, Act.put, List.setIfInBounds_toArray, List.set_cons_zero, List.set_cons_succ]
        have RA := Lib.hid (Cps.one_id EY2.out)
        refine wpAnyH_ready (rs := [4, 9]) (by kernel_rfl) (by simp) ?_
        refine AllReadyH.cons rfl (fun K hK => ?_) ?_
        · go_simp
          (go_at_call 9; ((with_reducible refine (HOr.out _ DY2.out).mono ?_); rintro E Y3 ⟨v1, rfl, hr, hb⟩; have DY3 := Lib.hid (DY2.out.trans (hb.mono DY2.out.size)); have RA := Lib.hid (RA.out.on hb); have RB := Lib.hid (RB.out.on hb); have RC := Lib.hid hr; clear hb))
          refine hK.out _ _ ?_ (fun hHeld => ?_)
          · exact HS.out _ DY3.out
          clear hK K
          try simp only [List.getElem_toArray, List.getElem_cons_succ, List.getElem_cons_zero, Act.put, List.setIfInBounds_toArray, List.set_cons_zero, List.set_cons_succ]
          refine tr 9 (fun K hK => ?_)
          go_simp
          have hb := Cmd.below_one Y3 (.cells #[.slice (some ⟨Y1.heap.size, 0, none⟩) 1 1, .slice (some ⟨Y0.heap.size, 0, none⟩) 1 1] 38)
          have EY4 := Lib.hid (heap_alloc_new Y3 (.cells #[.slice (some ⟨Y1.heap.size, 0, none⟩) 1 1, .slice (some ⟨Y0.heap.size, 0, none⟩) 1 1] 38))
          have DY4 := Lib.hid (DY3.out.trans (hb.mono DY3.out.size))
          have RC := Lib.hid (RC.out.on hb)
          have RA := Lib.hid (RA.out.on hb)
          have RB := Lib.hid (RB.out.on hb)
          clear hb
          refine hK.out _ _ ?_ (fun hHeld => ?_)
          · exact HS.out _ DY4.out
          clear hK K
          generalize Y3.alloc (.cells #[.slice (some ⟨Y1.heap.size, 0, none⟩) 1 1, .slice (some ⟨Y0.heap.size, 0, none⟩) 1 1] 38) = Y4 at EY4 DY4 RC RA RB hHeld ⊢
          try simp only [List.getElem_toArray, List.getElem_cons_succ, List.getElem_cons_zero, Act.put, List.setIfInBounds_toArray, List.set_cons_zero, List.set_cons_succ]
          have RL := Lib.hid (ll_two EY4.out RA.out RB.out)
          refine tr 10 (fun K hK => ?_)
          go_simp
          (go_at_call 10; ((with_reducible refine (kll_same _ _ _ _ RC.out RL.out (by decide)).mono ?_); rintro E Ys ⟨rfl, hb⟩; have DYs := Lib.hid (DY4.out.trans (hb.mono DY4.out.size)); clear hb))
          refine hK.out _ _ ?_ (fun hHeld => ?_)
          · exact HS.out _ DYs.out
          clear hK K
          try simp only [List.getElem_toArray, List.getElem_cons_succ, List.getElem_cons_zero, Act.put, List.setIfInBounds_toArray, List.set_cons_zero, List.set_cons_succ]
          refine to_listed (L' := #[true, true, true, true, true, true, true, true, true, true, true, false, false, false, false, false, false, false, false, false, false, false, false, false, false, false, false, false, false, false, false, false, false, false, false, false, false, false]) (f' := 27) (by kernel_rfl) (by kernel_rfl) ?_
          generalize (Value.slice (some ⟨Y1.heap.size, 0, none⟩) 1 1 : Value) = u24
          generalize (Value.slice (some ⟨Y0.heap.size, 0, none⟩) 1 1 : Value) = u26
          generalize (Value.slice (some ⟨Y3.heap.size, 0, none⟩) 2 2 : Value) = u27
          exact tail v1 u24 u26 u27 Ys DYs
        refine AllReadyH.cons rfl (fun K hK => ?_) ?_
        · go_simp
          have hb := Cmd.below_one Y2 (.cells #[.slice (some ⟨Y1.heap.size, 0, none⟩) 1 1, .slice (some ⟨Y0.heap.size, 0, none⟩) 1 1] 38)
          have EY3 := Lib.hid (heap_alloc_new Y2 (.cells #[.slice (some ⟨Y1.heap.size, 0, none⟩) 1 1, .slice (some ⟨Y0.heap.size, 0, none⟩) 1 1] 38))
          have DY3 := Lib.hid (DY2.out.trans (hb.mono DY2.out.size))
          have RA := Lib.hid (RA.out.on hb)
          have RB := Lib.hid (RB.out.on hb)
          clear hb
          refine hK.out _ _ ?_ (fun hHeld => ?_)
          · exact HS.out _ DY3.out
          clear hK K
          generalize Y2.alloc (.cells #[.slice (some ⟨Y1.heap.size, 0, none⟩) 1 1, .slice (some ⟨Y0.heap.size, 0, none⟩) 1 1] 38) = Y3 at EY3 DY3 RA RB hHeld ⊢
          try simp only [List.getElem_toArray, List.getElem_cons_succ, List.getElem_cons_zero, Act.put, List.setIfInBounds_toArray, List.set_cons_zero, List.set_cons_succ]
          have RL := Lib.hid (ll_two EY3.out RA.out RB.out)
          refine tr 4 (fun K hK => ?_)
          go_simp
          (go_at_call 9; ((with_reducible refine (HOr.out _ DY3.out).mono ?_); rintro E Y4 ⟨v1, rfl, hr, hb⟩; have DY4 := Lib.hid (DY3.out.trans (hb.mono DY3.out.size)); have RL := Lib.hid (RL.out.on hb); have RC := Lib.hid hr; clear hb))
          refine hK.out _ _ ?_ (fun hHeld => ?_)
          · exact HS.out _ DY4.out
          clear hK K
          try simp only [List.getElem_toArray, List.getElem_cons_succ, List.getElem_cons_zero, Act.put, List.setIfInBounds_toArray, List.set_cons_zero, List.set_cons_succ]
          refine tr 10 (fun K hK => ?_)
          go_simp
          (go_at_call 10; ((with_reducible refine (kll_same _ _ _ _ RC.out RL.out (by decide)).mono ?_); rintro E Ys ⟨rfl, hb⟩; have DYs := Lib.hid (DY4.out.trans (hb.mono DY4.out.size)); clear hb))
          refine hK.out _ _ ?_ (fun hHeld => ?_)
          · exact HS.out _ DYs.out
          clear hK K
          try simp only [List.getElem_toArray, List.getElem_cons_succ, List.getElem_cons_zero, Act.put, List.setIfInBounds_toArray, List.set_cons_zero, List.set_cons_succ]
          refine to_listed (L' := #[true, true, true, true, true, true, true, true, true, true, true, false, false, false, false, false, false, false, false, false, false, false, false, false, false, false, false, false, false, false, false, false, false, false, false, false, false, false]) (f' := 27) (by kernel_rfl) (by kernel_rfl) ?_
          generalize (Value.slice (some ⟨Y1.heap.size, 0, none⟩) 1 1 : Value) = u24
          generalize (Value.slice (some ⟨Y0.heap.size, 0, none⟩) 1 1 : Value) = u26
          generalize (Value.slice (some ⟨Y2.heap.size, 0, none⟩) 2 2 : Value) = u27
          exact tail v1 u24 u26 u27 Ys DYs
        exact AllReadyH.nil
      exact AllReadyH.nil
    exact AllReadyH.nil
  case h2 =>
    intro u22 u24 u26 u27 T0 DT0
    have hHeld : (fun w' => w'.cell? ⟨w.heap.size, 0, none⟩ = some (.int .i64 1) ∧ w'.cell? ⟨w.heap.size, 1, none⟩ = some (.int .i64 1) ∧ w'.cell? ⟨w.heap.size + 1, 0, none⟩ = some (.int .i64 1) ∧ w'.cell? ⟨w.heap.size + 1, 1, none⟩ = some (.int .i64 2)) T0 := HS.out _ DT0.out
    clear DY0
    refine ty (v := ?_) 11 (fun w hSw => ?_) ?_
    rotate_left
    · (try dsimp only at hSw); go_simp; (try with_reducible rfl)
    try simp only [List.getElem_toArray, List.getElem_cons_succ, List.getElem_cons_zero, Act.put, List.setIfInBounds_toArray, List.set_cons_zero, List.set_cons_succ]
    refine ty (v := ?_) 12 (fun w hSw => ?_) ?_
    rotate_left
    · (try dsimp only at hSw); go_simp; (try with_reducible rfl)
    try simp only [List.getElem_toArray, List.getElem_cons_succ, List.getElem_cons_zero, Act.put, List.setIfInBounds_toArray, List.set_cons_zero, List.set_cons_succ]
    refine ty (v := ?_) 13 (fun w hSw => ?_) ?_
    rotate_left
    · (try dsimp only at hSw); go_simp; (try with_reducible rfl)
    try simp only [List.getElem_toArray, List.getElem_cons_succ, List.getElem_cons_zero, Act.put, List.setIfInBounds_toArray, List.set_cons_zero, List.set_cons_succ]
    refine ty (v := ?_) 14 (fun w hSw => ?_) ?_
    rotate_left
    · (try dsimp only at hSw); go_simp; (try with_reducible rfl)
    try simp only [List.getElem_toArray, List.getElem_cons_succ, List.getElem_cons_zero, Act.put, List.setIfInBounds_toArray, List.set_cons_zero, List.set_cons_succ]
    refine ty (v := ?_) 16 (fun w hSw => ?_) ?_
    rotate_left
    · (try dsimp only at hSw); go_simp; (try with_reducible rfl)
    try simp only [List.getElem_toArray, List.getElem_cons_succ, List.getElem_cons_zero, Act.put, List.setIfInBounds_toArray, List.set_cons_zero, List.set_cons_succ]
    refine wpAnyH_ready (rs := [15, 17]) (by kernel_rfl) (by simp) ?_
    refine AllReadyH.cons rfl (fun K hK => ?_) ?_
    · go_simp
      have hb := Cmd.below_one T0 (.cells #[.int .i64 1, .int .i64 2] 43)
      have ET1 := Lib.hid (heap_alloc_new T0 (.cells #[.int .i64 1, .int .i64 2] 43))
      have DT1 := Lib.hid (DT0.out.trans (hb.mono DT0.out.size))
      clear hb
      refine hK.out _ _ ?_ (fun hHeld => ?_)
      · exact HS.out _ DT1.out
      clear hK K
      generalize T0.alloc (.cells #[.int .i64 1, .int .i64 2] 43) = T1 at ET1 DT1 hHeld ⊢
      try simp only [List.getElem_toArray, List.getElem_cons_succ, List.getElem_cons_zero, Act.put, List.setIfInBounds_toArray, List.set_cons_zero, List.set_cons_succ]
      have RB := Lib.hid (Cps.one_id ET1.out)
      refine tr 17 (fun K hK => ?_)
      go_simp
      have hb := Cmd.below_one T1 (.cells #[.int .i64 1, .int .i64 1] 43)
      have ET2 := Lib.hid (heap_alloc_new T1 (.cells #[.int .i64 1, .int .i64 1] 43))
      have DT2 := Lib.hid (DT1.out.trans (hb.mono DT1.out.size))
      have RB := Lib.hid (RB.out.on hb)
      clear hb
      refine hK.out _ _ ?_ (fun hHeld => ?_)
      · exact HS.out _ DT2.out
      clear hK K
      generalize T1.alloc (.cells #[.int .i64 1, .int .i64 1] 43) = T2 at ET2 DT2 RB hHeld ⊢
      try simp only [List.getElem_toArray, List.getElem_cons_succ, List.getElem_cons_zero, Act.put, List.setIfInBounds_toArray, List.set_cons_zero, List.set_cons_succ]
      have RA := Lib.hid (Cps.one_id ET2.out)
      refine tr 18 (fun K hK => ?_)
      go_simp
      (go_at_call 17; ((with_reducible refine (HLe.out _ DT2.out _ _ RB.out RA.out).mono ?_); rintro E T3 ⟨rfl, hb⟩; have DT3 := Lib.hid (DT2.out.trans (hb.mono DT2.out.size)); clear hb))
      refine hK.out _ _ ?_ (fun hHeld => ?_)
      · exact HS.out _ DT3.out
      clear hK K
      try simp only [List.getElem_toArray, List.getElem_cons_succ, List.getElem_cons_zero, Act.put, List.setIfInBounds_toArray, List.set_cons_zero, List.set_cons_succ]
      refine ty (v := ?_) 19 (fun w hSw => ?_) ?_
      rotate_left
      · (try dsimp only at hSw); go_simp; (try with_reducible rfl)
      try simp only [List.getElem_toArray, List.getElem_cons_succ, List.getElem_cons_zero, Act.put, List.setIfInBounds_toArray, List.set_cons_zero, List.set_cons_succ]
      refine ty (v := ?_) 20 (fun w hSw => ?_) ?_
      rotate_left
      · (try dsimp only at hSw); go_simp; (try with_reducible rfl)
      try simp only [List.getElem_toArray, List.getElem_cons_succ, List.getElem_cons_zero, Act.put, List.setIfInBounds_toArray, List.set_cons_zero, List.set_cons_succ]
      refine ty (v := ?_) 21 (fun w hSw => ?_) ?_
      rotate_left
      · (try dsimp only at hSw); go_simp; (try with_reducible rfl)
      try simp only [List.getElem_toArray, List.getElem_cons_succ, List.getElem_cons_zero, Act.put, List.setIfInBounds_toArray, List.set_cons_zero, List.set_cons_succ]
      refine ty (v := ?_) 23 (fun w hSw => ?_) ?_
      rotate_left
      · (try dsimp only at hSw); go_simp; (try with_reducible rfl)
      try simp only [List.getElem_toArray, List.getElem_cons_succ, List.getElem_cons_zero, Act.put, List.setIfInBounds_toArray, List.set_cons_zero, List.set_cons_succ]
      refine wpAnyH_ready (rs := [22, 24]) (by kernel_rfl) (by simp) ?_
      refine AllReadyH.cons rfl (fun K hK => ?_) ?_
      · go_simp
        have hb := Cmd.below_one T3 (.cells #[.int .i64 1, .int .i64 1] 43)
        have EU1 := Lib.hid (heap_alloc_new T3 (.cells #[.int .i64 1, .int .i64 1] 43))
        have DU1 := Lib.hid (DT3.out.trans (hb.mono DT3.out.size))
        clear hb
        refine hK.out _ _ ?_ (fun hHeld => ?_)
        · exact HS.out _ DU1.out
        clear hK K
        generalize T3.alloc (.cells #[.int .i64 1, .int .i64 1] 43) = U1 at EU1 DU1 hHeld ⊢
        try simp only [List.getElem_toArray, List.getElem_cons_succ, List.getElem_cons_zero, Act.put, List.setIfInBounds_toArray, List.set_cons_zero, List.set_cons_succ]
        have RA := Lib.hid (Cps.one_id EU1.out)
        refine tr 24 (fun K hK => ?_)
        go_simp
        have hb := Cmd.below_one U1 (.cells #[.int .i64 1, .int .i64 2] 43)
        have EU2 := Lib.hid (heap_alloc_new U1 (.cells #[.int .i64 1, .int .i64 2] 43))
        have DU2 := Lib.hid (DU1.out.trans (hb.mono DU1.out.size))
        have RA := Lib.hid (RA.out.on hb)
        clear hb
        refine hK.out _ _ ?_ (fun hHeld => ?_)
        · exact HS.out _ DU2.out
        clear hK K
        generalize U1.alloc (.cells #[.int .i64 1, .int .i64 2] 43) = U2 at EU2 DU2 RA hHeld ⊢
        try simp only [List.getElem_toArray, List.getElem_cons_succ, List.getElem_cons_zero, Act.put, List.setIfInBounds_toArray, List.set_cons_zero, List.set_cons_succ]
        have RB := Lib.hid (Cps.one_id EU2.out)
        refine tr 25 (fun K hK => ?_)
        go_simp
        have hb := Cmd.below_one U2 (.cells #[.slice (some ⟨T3.heap.size, 0, none⟩) 1 1, .slice (some ⟨U1.heap.size, 0, none⟩) 1 1] 38)
        have EU3 := Lib.hid (heap_alloc_new U2 (.cells #[.slice (some ⟨T3.heap.size, 0, none⟩) 1 1, .slice (some ⟨U1.heap.size, 0, none⟩) 1 1] 38))
        have DU3 := Lib.hid (DU2.out.trans (hb.mono DU2.out.size))
        have RA := Lib.hid (RA.out.on hb)
        have RB := Lib.hid (RB.out.on hb)
        clear hb
        refine hK.out _ _ ?_ (fun hHeld => ?_)
        · exact HS.out _ DU3.out
        clear hK K
        generalize U2.alloc (.cells #[.slice (some ⟨T3.heap.size, 0, none⟩) 1 1, .slice (some ⟨U1.heap.size, 0, none⟩) 1 1] 38) = U3 at EU3 DU3 RA RB hHeld ⊢
        try simp only [List.getElem_toArray, List.getElem_cons_succ, List.getElem_cons_zero, Act.put, List.setIfInBounds_toArray, List.set_cons_zero, List.set_cons_succ]
        have RL := Lib.hid (ll_two EU3.out RA.out RB.out)
        refine tr 26 (fun K hK => ?_)
        go_simp
        (go_at_call 15; ((with_reducible refine (HFl.out _ DU3.out _ RL.out).mono ?_); rintro E U4 ⟨p9, k9, rfl, hb⟩; have DU4 := Lib.hid (DU3.out.trans (hb.mono DU3.out.size)); clear hb))
        refine hK.out _ _ ?_ (fun hHeld => ?_)
        · exact HS.out _ DU4.out
        clear hK K
        try simp only [List.getElem_toArray, List.getElem_cons_succ, List.getElem_cons_zero, Act.put, List.setIfInBounds_toArray, List.set_cons_zero, List.set_cons_succ]
        refine ty (v := ?_) 27 (fun w hSw => ?_) ?_
        rotate_left
        · (try dsimp only at hSw); go_simp; (try with_reducible rfl)
        try simp only [List.getElem_toArray, List.getElem_cons_succ, List.getElem_cons_zero, Act.put, List.setIfInBounds_toArray, List.set_cons_zero, List.set_cons_succ]
        refine ty (v := ?_) 28 (fun w hSw => ?_) ?_
        rotate_left
        · (try dsimp only at hSw); go_simp; (try with_reducible rfl)
        try simp only [List.getElem_toArray, List.getElem_cons_succ, List.getElem_cons_zero, Act.put, List.setIfInBounds_toArray, List.set_cons_zero, List.set_cons_succ]
        refine ty (v := ?_) 29 (fun w hSw => ?_) ?_
        rotate_left
        · (try dsimp only at hSw); go_simp; (try with_reducible rfl)
        try simp only [List.getElem_toArray, List.getElem_cons_succ, List.getElem_cons_zero, Act.put, List.setIfInBounds_toArray, List.set_cons_zero, List.set_cons_succ]
        refine ty (v := ?_) 30 (fun w hSw => ?_) ?_
        rotate_left
        · (try dsimp only at hSw); go_simp; (try with_reducible rfl)
        try simp only [List.getElem_toArray, List.getElem_cons_succ, List.getElem_cons_zero, Act.put, List.setIfInBounds_toArray, List.set_cons_zero, List.set_cons_succ]
        refine ty (v := ?_) 31 (fun w hSw => ?_) ?_
        rotate_left
        · (try dsimp only at hSw); go_simp; (try with_reducible rfl)
        try simp only [List.getElem_toArray, List.getElem_cons_succ, List.getElem_cons_zero, Act.put, List.setIfInBounds_toArray, List.set_cons_zero, List.set_cons_succ]
        refine ty (v := ?_) 32 (fun w hSw => ?_) ?_
        rotate_left
        · (try dsimp only at hSw); go_simp; (try with_reducible rfl)
        try simp only [List.getElem_toArray, List.getElem_cons_succ, List.getElem_cons_zero, Act.put, List.setIfInBounds_toArray, List.set_cons_zero, List.set_cons_succ]
        refine tr 33 (fun K hK => ?_)
        go_simp
        have hb := Cmd.below_one U4 (.cells #[.int .i64 1, .int .i64 1] 43)
        have EV1 := Lib.hid (heap_alloc_new U4 (.cells #[.int .i64 1, .int .i64 1] 43))
        have DV1 := Lib.hid (DU4.out.trans (hb.mono DU4.out.size))
        clear hb
        refine hK.out _ _ ?_ (fun hHeld => ?_)
        · exact HS.out _ DV1.out
        clear hK K
        generalize U4.alloc (.cells #[.int .i64 1, .int .i64 1] 43) = V1 at EV1 DV1 hHeld ⊢
        try simp only [List.getElem_toArray, List.getElem_cons_succ, List.getElem_cons_zero, Act.put, List.setIfInBounds_toArray, List.set_cons_zero, List.set_cons_succ]
        have RA := Lib.hid (Cps.one_id EV1.out)
        refine tr 34 (fun K hK => ?_)
        go_simp
        have hb := Cmd.below_one V1 (.cells #[.slice (some ⟨U4.heap.size, 0, none⟩) 1 1] 38)
        have EV2 := Lib.hid (heap_alloc_new V1 (.cells #[.slice (some ⟨U4.heap.size, 0, none⟩) 1 1] 38))
        have DV2 := Lib.hid (DV1.out.trans (hb.mono DV1.out.size))
        have RA := Lib.hid (RA.out.on hb)
        clear hb
        refine hK.out _ _ ?_ (fun hHeld => ?_)
        · exact HS.out _ DV2.out
        clear hK K
        generalize V1.alloc (.cells #[.slice (some ⟨U4.heap.size, 0, none⟩) 1 1] 38) = V2 at EV2 DV2 RA hHeld ⊢
        try simp only [List.getElem_toArray, List.getElem_cons_succ, List.getElem_cons_zero, Act.put, List.setIfInBounds_toArray, List.set_cons_zero, List.set_cons_succ]
        have RM := Lib.hid (ll_one EV2.out RA.out)
        refine tr 35 (fun K hK => ?_)
        go_simp
        (go_at_call 12; ((with_reducible refine (HRi.out _ DV2.out _ RM.out).mono ?_); rintro E V3 ⟨rfl, hb⟩; have DV3 := Lib.hid (DV2.out.trans (hb.mono DV2.out.size)); clear hb))
        refine hK.out _ _ ?_ (fun hHeld => ?_)
        · exact HS.out _ DV3.out
        clear hK K
        try simp only [List.getElem_toArray, List.getElem_cons_succ, List.getElem_cons_zero, Act.put, List.setIfInBounds_toArray, List.set_cons_zero, List.set_cons_succ]
        refine ty (v := ?_) 36 (fun w hSw => ?_) ?_
        rotate_left
        · (try dsimp only at hSw); go_simp; (try with_reducible rfl)
        try simp only [List.getElem_toArray, List.getElem_cons_succ, List.getElem_cons_zero, Act.put, List.setIfInBounds_toArray, List.set_cons_zero, List.set_cons_succ]
        refine ty (v := ?_) 37 (fun w hSw => ?_) ?_
        rotate_left
        · (try dsimp only at hSw); go_simp; (try with_reducible rfl)
        try simp only [List.getElem_toArray, List.getElem_cons_succ, List.getElem_cons_zero, Act.put, List.setIfInBounds_toArray, List.set_cons_zero, List.set_cons_succ]
        refine wpAnyH_done (by kernel_rfl) ?_ _
        go_wp2
        go_ret
        exact ⟨rfl, HB6.out.trans (DV3.out.mono HB6.out.size)⟩
      refine AllReadyH.cons rfl (fun K hK => ?_) ?_
      · go_simp
        have hb := Cmd.below_one T3 (.cells #[.int .i64 1, .int .i64 2] 43)
        have EU1 := Lib.hid (heap_alloc_new T3 (.cells #[.int .i64 1, .int .i64 2] 43))
        have DU1 := Lib.hid (DT3.out.trans (hb.mono DT3.out.size))
        clear hb
        refine hK.out _ _ ?_ (fun hHeld => ?_)
        · exact HS.out _ DU1.out
        clear hK K
        generalize T3.alloc (.cells #[.int .i64 1, .int .i64 2] 43) = U1 at EU1 DU1 hHeld ⊢
        try simp only [List.getElem_toArray, List.getElem_cons_succ, List.getElem_cons_zero, Act.put, List.setIfInBounds_toArray, List.set_cons_zero, List.set_cons_succ]
        have RB := Lib.hid (Cps.one_id EU1.out)
        refine tr 22 (fun K hK => ?_)
        go_simp
        have hb := Cmd.below_one U1 (.cells #[.int .i64 1, .int .i64 1] 43)
        have EU2 := Lib.hid (heap_alloc_new U1 (.cells #[.int .i64 1, .int .i64 1] 43))
        have DU2 := Lib.hid (DU1.out.trans (hb.mono DU1.out.size))
        have RB := Lib.hid (RB.out.on hb)
        clear hb
        refine hK.out _ _ ?_ (fun hHeld => ?_)
        · exact HS.out _ DU2.out
        clear hK K
        generalize U1.alloc (.cells #[.int .i64 1, .int .i64 1] 43) = U2 at EU2 DU2 RB hHeld ⊢
        try simp only [List.getElem_toArray, List.getElem_cons_succ, List.getElem_cons_zero, Act.put, List.setIfInBounds_toArray, List.set_cons_zero, List.set_cons_succ]
        have RA := Lib.hid (Cps.one_id EU2.out)
        refine tr 25 (fun K hK => ?_)
        go_simp
        have hb := Cmd.below_one U2 (.cells #[.slice (some ⟨U1.heap.size, 0, none⟩) 1 1, .slice (some ⟨T3.heap.size, 0, none⟩) 1 1] 38)
        have EU3 := Lib.hid (heap_alloc_new U2 (.cells #[.slice (some ⟨U1.heap.size, 0, none⟩) 1 1, .slice (some ⟨T3.heap.size, 0, none⟩) 1 1] 38))
        have DU3 := Lib.hid (DU2.out.trans (hb.mono DU2.out.size))
        have RA := Lib.hid (RA.out.on hb)
        have RB := Lib.hid (RB.out.on hb)
        clear hb
        refine hK.out _ _ ?_ (fun hHeld => ?_)
        · exact HS.out _ DU3.out
        clear hK K
        generalize U2.alloc (.cells #[.slice (some ⟨U1.heap.size, 0, none⟩) 1 1, .slice (some ⟨T3.heap.size, 0, none⟩) 1 1] 38) = U3 at EU3 DU3 RA RB hHeld ⊢
        try simp only [List.getElem_toArray, List.getElem_cons_succ, List.getElem_cons_zero, Act.put, List.setIfInBounds_toArray, List.set_cons_zero, List.set_cons_succ]
        have RL := Lib.hid (ll_two EU3.out RA.out RB.out)
        refine tr 26 (fun K hK => ?_)
        go_simp
        (go_at_call 15; ((with_reducible refine (HFl.out _ DU3.out _ RL.out).mono ?_); rintro E U4 ⟨p9, k9, rfl, hb⟩; have DU4 := Lib.hid (DU3.out.trans (hb.mono DU3.out.size)); clear hb))
        refine hK.out _ _ ?_ (fun hHeld => ?_)
        · exact HS.out _ DU4.out
        clear hK K
        try simp only [List.getElem_toArray, List.getElem_cons_succ, List.getElem_cons_zero, Act.put, List.setIfInBounds_toArray, List.set_cons_zero, List.set_cons_succ]
        refine ty (v := ?_) 27 (fun w hSw => ?_) ?_
        rotate_left
        · (try dsimp only at hSw); go_simp; (try with_reducible rfl)
        try simp only [List.getElem_toArray, List.getElem_cons_succ, List.getElem_cons_zero, Act.put, List.setIfInBounds_toArray, List.set_cons_zero, List.set_cons_succ]
        refine ty (v := ?_) 28 (fun w hSw => ?_) ?_
        rotate_left
        · (try dsimp only at hSw); go_simp; (try with_reducible rfl)
        try simp only [List.getElem_toArray, List.getElem_cons_succ, List.getElem_cons_zero, Act.put, List.setIfInBounds_toArray, List.set_cons_zero, List.set_cons_succ]
        refine ty (v := ?_) 29 (fun w hSw => ?_) ?_
        rotate_left
        · (try dsimp only at hSw); go_simp; (try with_reducible rfl)
        try simp only [List.getElem_toArray, List.getElem_cons_succ, List.getElem_cons_zero, Act.put, List.setIfInBounds_toArray, List.set_cons_zero, List.set_cons_succ]
        refine ty (v := ?_) 30 (fun w hSw => ?_) ?_
        rotate_left
        · (try dsimp only at hSw); go_simp; (try with_reducible rfl)
        try simp only [List.getElem_toArray, List.getElem_cons_succ, List.getElem_cons_zero, Act.put, List.setIfInBounds_toArray, List.set_cons_zero, List.set_cons_succ]
        refine ty (v := ?_) 31 (fun w hSw => ?_) ?_
        rotate_left
        · (try dsimp only at hSw); go_simp; (try with_reducible rfl)
        try simp only [List.getElem_toArray, List.getElem_cons_succ, List.getElem_cons_zero, Act.put, List.setIfInBounds_toArray, List.set_cons_zero, List.set_cons_succ]
        refine ty (v := ?_) 32 (fun w hSw => ?_) ?_
        rotate_left
        · (try dsimp only at hSw); go_simp; (try with_reducible rfl)
        try simp only [List.getElem_toArray, List.getElem_cons_succ, List.getElem_cons_zero, Act.put, List.setIfInBounds_toArray, List.set_cons_zero, List.set_cons_succ]
        refine tr 33 (fun K hK => ?_)
        go_simp
        have hb := Cmd.below_one U4 (.cells #[.int .i64 1, .int .i64 1] 43)
        have EV1 := Lib.hid (heap_alloc_new U4 (.cells #[.int .i64 1, .int .i64 1] 43))
        have DV1 := Lib.hid (DU4.out.trans (hb.mono DU4.out.size))
        clear hb
        refine hK.out _ _ ?_ (fun hHeld => ?_)
        · exact HS.out _ DV1.out
        clear hK K
        generalize U4.alloc (.cells #[.int .i64 1, .int .i64 1] 43) = V1 at EV1 DV1 hHeld ⊢
        try simp only [List.getElem_toArray, List.getElem_cons_succ, List.getElem_cons_zero, Act.put, List.setIfInBounds_toArray, List.set_cons_zero, List.set_cons_succ]
        have RA := Lib.hid (Cps.one_id EV1.out)
        refine tr 34 (fun K hK => ?_)
        go_simp
        have hb := Cmd.below_one V1 (.cells #[.slice (some ⟨U4.heap.size, 0, none⟩) 1 1] 38)
        have EV2 := Lib.hid (heap_alloc_new V1 (.cells #[.slice (some ⟨U4.heap.size, 0, none⟩) 1 1] 38))
        have DV2 := Lib.hid (DV1.out.trans (hb.mono DV1.out.size))
        have RA := Lib.hid (RA.out.on hb)
        clear hb
        refine hK.out _ _ ?_ (fun hHeld => ?_)
        · exact HS.out _ DV2.out
        clear hK K
        generalize V1.alloc (.cells #[.slice (some ⟨U4.heap.size, 0, none⟩) 1 1] 38) = V2 at EV2 DV2 RA hHeld ⊢
        try simp only [List.getElem_toArray, List.getElem_cons_succ, List.getElem_cons_zero, Act.put, List.setIfInBounds_toArray, List.set_cons_zero, List.set_cons_succ]
        have RM := Lib.hid (ll_one EV2.out RA.out)
        refine tr 35 (fun K hK => ?_)
        go_simp
        (go_at_call 12; ((with_reducible refine (HRi.out _ DV2.out _ RM.out).mono ?_); rintro E V3 ⟨rfl, hb⟩; have DV3 := Lib.hid (DV2.out.trans (hb.mono DV2.out.size)); clear hb))
        refine hK.out _ _ ?_ (fun hHeld => ?_)
        · exact HS.out _ DV3.out
        clear hK K
        try simp only [List.getElem_toArray, List.getElem_cons_succ, List.getElem_cons_zero, Act.put, List.setIfInBounds_toArray, List.set_cons_zero, List.set_cons_succ]
        refine ty (v := ?_) 36 (fun w hSw => ?_) ?_
        rotate_left
        · (try dsimp only at hSw); go_simp; (try with_reducible rfl)
        try simp only [List.getElem_toArray, List.getElem_cons_succ, List.getElem_cons_zero, Act.put, List.setIfInBounds_toArray, List.set_cons_zero, List.set_cons_succ]
        refine ty (v := ?_) 37 (fun w hSw => ?_) ?_
        rotate_left
        · (try dsimp only at hSw); go_simp; (try with_reducible rfl)
        try simp only [List.getElem_toArray, List.getElem_cons_succ, List.getElem_cons_zero, Act.put, List.setIfInBounds_toArray, List.set_cons_zero, List.set_cons_succ]
        refine wpAnyH_done (by kernel_rfl) ?_ _
        go_wp2
        go_ret
        exact ⟨rfl, HB6.out.trans (DV3.out.mono HB6.out.size)⟩
      exact AllReadyH.nil
    refine AllReadyH.cons rfl (fun K hK => ?_) ?_
    · go_simp
      have hb := Cmd.below_one T0 (.cells #[.int .i64 1, .int .i64 1] 43)
      have ET1 := Lib.hid (heap_alloc_new T0 (.cells #[.int .i64 1, .int .i64 1] 43))
      have DT1 := Lib.hid (DT0.out.trans (hb.mono DT0.out.size))
      clear hb
      refine hK.out _ _ ?_ (fun hHeld => ?_)
      · exact HS.out _ DT1.out
      clear hK K
      generalize T0.alloc (.cells #[.int .i64 1, .int .i64 1] 43) = T1 at ET1 DT1 hHeld ⊢
      try simp only [List.getElem_toArray, List.getElem_cons_succ, List.getElem_cons_zero, Act.put, List.setIfInBounds_toArray, List.set_cons_zero, List.set_cons_succ]
      have RA := Lib.hid (Cps.one_id ET1.out)
      refine tr 15 (fun K hK => ?_)
      go_simp
      have hb := Cmd.below_one T1 (.cells #[.int .i64 1, .int .i64 2] 43)
      have ET2 := Lib.hid (heap_alloc_new T1 (.cells #[.int .i64 1, .int .i64 2] 43))
      have DT2 := Lib.hid (DT1.out.trans (hb.mono DT1.out.size))
      have RA := Lib.hid (RA.out.on hb)
      clear hb
      refine hK.out _ _ ?_ (fun hHeld => ?_)
      · exact HS.out _ DT2.out
      clear hK K
      generalize T1.alloc (.cells #[.int .i64 1, .int .i64 2] 43) = T2 at ET2 DT2 RA hHeld ⊢
      try simp only [List.getElem_toArray, List.getElem_cons_succ, List.getElem_cons_zero, Act.put, List.setIfInBounds_toArray, List.set_cons_zero, List.set_cons_succ]
      have RB := Lib.hid (Cps.one_id ET2.out)
      refine tr 18 (fun K hK => ?_)
      go_simp
      (go_at_call 17; ((with_reducible refine (HLe.out _ DT2.out _ _ RB.out RA.out).mono ?_); rintro E T3 ⟨rfl, hb⟩; have DT3 := Lib.hid (DT2.out.trans (hb.mono DT2.out.size)); clear hb))
      refine hK.out _ _ ?_ (fun hHeld => ?_)
      · exact HS.out _ DT3.out
      clear hK K
      try simp only [List.getElem_toArray, List.getElem_cons_succ, List.getElem_cons_zero, Act.put, List.setIfInBounds_toArray, List.set_cons_zero, List.set_cons_succ]
      refine ty (v := ?_) 19 (fun w hSw => ?_) ?_
      rotate_left
      · (try dsimp only at hSw); go_simp; (try with_reducible rfl)
      try simp only [List.getElem_toArray, List.getElem_cons_succ, List.getElem_cons_zero, Act.put, List.setIfInBounds_toArray, List.set_cons_zero, List.set_cons_succ]
      refine ty (v := ?_) 20 (fun w hSw => ?_) ?_
      rotate_left
      · (try dsimp only at hSw); go_simp; (try with_reducible rfl)
      try simp only [List.getElem_toArray, List.getElem_cons_succ, List.getElem_cons_zero, Act.put, List.setIfInBounds_toArray, List.set_cons_zero, List.set_cons_succ]
      refine ty (v := ?_) 21 (fun w hSw => ?_) ?_
      rotate_left
      · (try dsimp only at hSw); go_simp; (try with_reducible rfl)
      try simp only [List.getElem_toArray, List.getElem_cons_succ, List.getElem_cons_zero, Act.put, List.setIfInBounds_toArray, List.set_cons_zero, List.set_cons_succ]
      refine ty (v := ?_) 23 (fun w hSw => ?_) ?_
      rotate_left
      · (try dsimp only at hSw); go_simp; (try with_reducible rfl)
      try simp only [List.getElem_toArray, List.getElem_cons_succ, List.getElem_cons_zero, Act.put, List.setIfInBounds_toArray, List.set_cons_zero, List.set_cons_succ]
      refine wpAnyH_ready (rs := [22, 24]) (by kernel_rfl) (by simp) ?_
      refine AllReadyH.cons rfl (fun K hK => ?_) ?_
      · go_simp
        have hb := Cmd.below_one T3 (.cells #[.int .i64 1, .int .i64 1] 43)
        have EU1 := Lib.hid (heap_alloc_new T3 (.cells #[.int .i64 1, .int .i64 1] 43))
        have DU1 := Lib.hid (DT3.out.trans (hb.mono DT3.out.size))
        clear hb
        refine hK.out _ _ ?_ (fun hHeld => ?_)
        · exact HS.out _ DU1.out
        clear hK K
        generalize T3.alloc (.cells #[.int .i64 1, .int .i64 1] 43) = U1 at EU1 DU1 hHeld ⊢
        try simp only [List.getElem_toArray, List.getElem_cons_succ, List.getElem_cons_zero, Act.put, List.setIfInBounds_toArray, List.set_cons_zero, List.set_cons_succ]
        have RA := Lib.hid (Cps.one_id EU1.out)
        refine tr 24 (fun K hK => ?_)
        go_simp
        have hb := Cmd.below_one U1 (.cells #[.int .i64 1, .int .i64 2] 43)
        have EU2 := Lib.hid (heap_alloc_new U1 (.cells #[.int .i64 1, .int .i64 2] 43))
        have DU2 := Lib.hid (DU1.out.trans (hb.mono DU1.out.size))
        have RA := Lib.hid (RA.out.on hb)
        clear hb
        refine hK.out _ _ ?_ (fun hHeld => ?_)
        · exact HS.out _ DU2.out
        clear hK K
        generalize U1.alloc (.cells #[.int .i64 1, .int .i64 2] 43) = U2 at EU2 DU2 RA hHeld ⊢
        try simp only [List.getElem_toArray, List.getElem_cons_succ, List.getElem_cons_zero, Act.put, List.setIfInBounds_toArray, List.set_cons_zero, List.set_cons_succ]
        have RB := Lib.hid (Cps.one_id EU2.out)
        refine tr 25 (fun K hK => ?_)
        go_simp
        have hb := Cmd.below_one U2 (.cells #[.slice (some ⟨T3.heap.size, 0, none⟩) 1 1, .slice (some ⟨U1.heap.size, 0, none⟩) 1 1] 38)
        have EU3 := Lib.hid (heap_alloc_new U2 (.cells #[.slice (some ⟨T3.heap.size, 0, none⟩) 1 1, .slice (some ⟨U1.heap.size, 0, none⟩) 1 1] 38))
        have DU3 := Lib.hid (DU2.out.trans (hb.mono DU2.out.size))
        have RA := Lib.hid (RA.out.on hb)
        have RB := Lib.hid (RB.out.on hb)
        clear hb
        refine hK.out _ _ ?_ (fun hHeld => ?_)
        · exact HS.out _ DU3.out
        clear hK K
        generalize U2.alloc (.cells #[.slice (some ⟨T3.heap.size, 0, none⟩) 1 1, .slice (some ⟨U1.heap.size, 0, none⟩) 1 1] 38) = U3 at EU3 DU3 RA RB hHeld ⊢
        try simp only [List.getElem_toArray, List.getElem_cons_succ, List.getElem_cons_zero, Act.put, List.setIfInBounds_toArray, List.set_cons_zero, List.set_cons_succ]
        have RL := Lib.hid (ll_two EU3.out RA.out RB.out)
        refine tr 26 (fun K hK => ?_)
        go_simp
        (go_at_call 15; ((with_reducible refine (HFl.out _ DU3.out _ RL.out).mono ?_); rintro E U4 ⟨p9, k9, rfl, hb⟩; have DU4 := Lib.hid (DU3.out.trans (hb.mono DU3.out.size)); clear hb))
        refine hK.out _ _ ?_ (fun hHeld => ?_)
        · exact HS.out _ DU4.out
        clear hK K
        try simp only [List.getElem_toArray, List.getElem_cons_succ, List.getElem_cons_zero, Act.put, List.setIfInBounds_toArray, List.set_cons_zero, List.set_cons_succ]
        refine ty (v := ?_) 27 (fun w hSw => ?_) ?_
        rotate_left
        · (try dsimp only at hSw); go_simp; (try with_reducible rfl)
        try simp only [List.getElem_toArray, List.getElem_cons_succ, List.getElem_cons_zero, Act.put, List.setIfInBounds_toArray, List.set_cons_zero, List.set_cons_succ]
        refine ty (v := ?_) 28 (fun w hSw => ?_) ?_
        rotate_left
        · (try dsimp only at hSw); go_simp; (try with_reducible rfl)
        try simp only [List.getElem_toArray, List.getElem_cons_succ, List.getElem_cons_zero, Act.put, List.setIfInBounds_toArray, List.set_cons_zero, List.set_cons_succ]
        refine ty (v := ?_) 29 (fun w hSw => ?_) ?_
        rotate_left
        · (try dsimp only at hSw); go_simp; (try with_reducible rfl)
        try simp only [List.getElem_toArray, List.getElem_cons_succ, List.getElem_cons_zero, Act.put, List.setIfInBounds_toArray, List.set_cons_zero, List.set_cons_succ]
        refine ty (v := ?_) 30 (fun w hSw => ?_) ?_
        rotate_left
        · (try dsimp only at hSw); go_simp; (try with_reducible rfl)
        try simp only [List.getElem_toArray, List.getElem_cons_succ, List.getElem_cons_zero, Act.put, List.setIfInBounds_toArray, List.set_cons_zero, List.set_cons_succ]
        refine ty (v := ?_) 31 (fun w hSw => ?_) ?_
        rotate_left
        · (try dsimp only at hSw); go_simp; (try with_reducible rfl)
        try simp only [List.getElem_toArray, List.getElem_cons_succ, List.getElem_cons_zero, Act.put, List.setIfInBounds_toArray, List.set_cons_zero, List.set_cons_succ]
        refine ty (v := ?_) 32 (fun w hSw => ?_) ?_
        rotate_left
        · (try dsimp only at hSw); go_simp; (try with_reducible rfl)
        try simp only [List.getElem_toArray, List.getElem_cons_succ, List.getElem_cons_zero, Act.put, List.setIfInBounds_toArray, List.set_cons_zero, List.set_cons_succ]
        refine tr 33 (fun K hK => ?_)
        go_simp
        have hb := Cmd.below_one U4 (.cells #[.int .i64 1, .int .i64 1] 43)
        have EV1 := Lib.hid (heap_alloc_new U4 (.cells #[.int .i64 1, .int .i64 1] 43))
        have DV1 := Lib.hid (DU4.out.trans (hb.mono DU4.out.size))
        clear hb
        refine hK.out _ _ ?_ (fun hHeld => ?_)
        · exact HS.out _ DV1.out
        clear hK K
        generalize U4.alloc (.cells #[.int .i64 1, .int .i64 1] 43) = V1 at EV1 DV1 hHeld ⊢
        try simp only [List.getElem_toArray, List.getElem_cons_succ, List.getElem_cons_zero, Act.put, List.setIfInBounds_toArray, List.set_cons_zero, List.set_cons_succ]
        have RA := Lib.hid (Cps.one_id EV1.out)
        refine tr 34 (fun K hK => ?_)
        go_simp
        have hb := Cmd.below_one V1 (.cells #[.slice (some ⟨U4.heap.size, 0, none⟩) 1 1] 38)
        have EV2 := Lib.hid (heap_alloc_new V1 (.cells #[.slice (some ⟨U4.heap.size, 0, none⟩) 1 1] 38))
        have DV2 := Lib.hid (DV1.out.trans (hb.mono DV1.out.size))
        have RA := Lib.hid (RA.out.on hb)
        clear hb
        refine hK.out _ _ ?_ (fun hHeld => ?_)
        · exact HS.out _ DV2.out
        clear hK K
        generalize V1.alloc (.cells #[.slice (some ⟨U4.heap.size, 0, none⟩) 1 1] 38) = V2 at EV2 DV2 RA hHeld ⊢
        try simp only [List.getElem_toArray, List.getElem_cons_succ, List.getElem_cons_zero, Act.put, List.setIfInBounds_toArray, List.set_cons_zero, List.set_cons_succ]
        have RM := Lib.hid (ll_one EV2.out RA.out)
        refine tr 35 (fun K hK => ?_)
        go_simp
        (go_at_call 12; ((with_reducible refine (HRi.out _ DV2.out _ RM.out).mono ?_); rintro E V3 ⟨rfl, hb⟩; have DV3 := Lib.hid (DV2.out.trans (hb.mono DV2.out.size)); clear hb))
        refine hK.out _ _ ?_ (fun hHeld => ?_)
        · exact HS.out _ DV3.out
        clear hK K
        try simp only [List.getElem_toArray, List.getElem_cons_succ, List.getElem_cons_zero, Act.put, List.setIfInBounds_toArray, List.set_cons_zero, List.set_cons_succ]
        refine ty (v := ?_) 36 (fun w hSw => ?_) ?_
        rotate_left
        · (try dsimp only at hSw); go_simp; (try with_reducible rfl)
        try simp only [List.getElem_toArray, List.getElem_cons_succ, List.getElem_cons_zero, Act.put, List.setIfInBounds_toArray, List.set_cons_zero, List.set_cons_succ]
        refine ty (v := ?_) 37 (fun w hSw => ?_) ?_
        rotate_left
        · (try dsimp only at hSw); go_simp; (try with_reducible rfl)
        try simp only [List.getElem_toArray, List.getElem_cons_succ, List.getElem_cons_zero, Act.put, List.setIfInBounds_toArray, List.set_cons_zero, List.set_cons_succ]
        refine wpAnyH_done (by kernel_rfl) ?_ _
        go_wp2
        go_ret
        exact ⟨rfl, HB6.out.trans (DV3.out.mono HB6.out.size)⟩
      refine AllReadyH.cons rfl (fun K hK => ?_) ?_
      · go_simp
        have hb := Cmd.below_one T3 (.cells #[.int .i64 1, .int .i64 2] 43)
        have EU1 := Lib.hid (heap_alloc_new T3 (.cells #[.int .i64 1, .int .i64 2] 43))
        have DU1 := Lib.hid (DT3.out.trans (hb.mono DT3.out.size))
        clear hb
        refine hK.out _ _ ?_ (fun hHeld => ?_)
        · exact HS.out _ DU1.out
        clear hK K
        generalize T3.alloc (.cells #[.int .i64 1, .int .i64 2] 43) = U1 at EU1 DU1 hHeld ⊢
        try simp only [List.getElem_toArray, List.getElem_cons_succ, List.getElem_cons_zero, Act.put, List.setIfInBounds_toArray, List.set_cons_zero, List.set_cons_succ]
        have RB := Lib.hid (Cps.one_id EU1.out)
        refine tr 22 (fun K hK => ?_)
        go_simp
        have hb := Cmd.below_one U1 (.cells #[.int .i64 1, .int .i64 1] 43)
        have EU2 := Lib.hid (heap_alloc_new U1 (.cells #[.int .i64 1, .int .i64 1] 43))
        have DU2 := Lib.hid (DU1.out.trans (hb.mono DU1.out.size))
        have RB := Lib.hid (RB.out.on hb)
        clear hb
        refine hK.out _ _ ?_ (fun hHeld => ?_)
        · exact HS.out _ DU2.out
        clear hK K
        generalize U1.alloc (.cells #[.int .i64 1, .int .i64 1] 43) = U2 at EU2 DU2 RB hHeld ⊢
        try simp only [List.getElem_toArray, List.getElem_cons_succ, List.getElem_cons_zero, Act.put, List.setIfInBounds_toArray, List.set_cons_zero, List.set_cons_succ]
        have RA := Lib.hid (Cps.one_id EU2.out)
        refine tr 25 (fun K hK => ?_)
        go_simp
        have hb := Cmd.below_one U2 (.cells #[.slice (some ⟨U1.heap.size, 0, none⟩) 1 1, .slice (some ⟨T3.heap.size, 0, none⟩) 1 1] 38)
        have EU3 := Lib.hid (heap_alloc_new U2 (.cells #[.slice (some ⟨U1.heap.size, 0, none⟩) 1 1, .slice (some ⟨T3.heap.size, 0, none⟩) 1 1] 38))
        have DU3 := Lib.hid (DU2.out.trans (hb.mono DU2.out.size))
        have RA := Lib.hid (RA.out.on hb)
        have RB := Lib.hid (RB.out.on hb)
        clear hb
        refine hK.out _ _ ?_ (fun hHeld => ?_)
        · exact HS.out _ DU3.out
        clear hK K
        generalize U2.alloc (.cells #[.slice (some ⟨U1.heap.size, 0, none⟩) 1 1, .slice (some ⟨T3.heap.size, 0, none⟩) 1 1] 38) = U3 at EU3 DU3 RA RB hHeld ⊢
        try simp only [List.getElem_toArray, List.getElem_cons_succ, List.getElem_cons_zero, Act.put, List.setIfInBounds_toArray, List.set_cons_zero, List.set_cons_succ]
        have RL := Lib.hid (ll_two EU3.out RA.out RB.out)
        refine tr 26 (fun K hK => ?_)
        go_simp
        (go_at_call 15; ((with_reducible refine (HFl.out _ DU3.out _ RL.out).mono ?_); rintro E U4 ⟨p9, k9, rfl, hb⟩; have DU4 := Lib.hid (DU3.out.trans (hb.mono DU3.out.size)); clear hb))
        refine hK.out _ _ ?_ (fun hHeld => ?_)
        · exact HS.out _ DU4.out
        clear hK K
        try simp only [List.getElem_toArray, List.getElem_cons_succ, List.getElem_cons_zero, Act.put, List.setIfInBounds_toArray, List.set_cons_zero, List.set_cons_succ]
        refine ty (v := ?_) 27 (fun w hSw => ?_) ?_
        rotate_left
        · (try dsimp only at hSw); go_simp; (try with_reducible rfl)
        try simp only [List.getElem_toArray, List.getElem_cons_succ, List.getElem_cons_zero, Act.put, List.setIfInBounds_toArray, List.set_cons_zero, List.set_cons_succ]
        refine ty (v := ?_) 28 (fun w hSw => ?_) ?_
        rotate_left
        · (try dsimp only at hSw); go_simp; (try with_reducible rfl)
        try simp only [List.getElem_toArray, List.getElem_cons_succ, List.getElem_cons_zero, Act.put, List.setIfInBounds_toArray, List.set_cons_zero, List.set_cons_succ]
        refine ty (v := ?_) 29 (fun w hSw => ?_) ?_
        rotate_left
        · (try dsimp only at hSw); go_simp; (try with_reducible rfl)
        try simp only [List.getElem_toArray, List.getElem_cons_succ, List.getElem_cons_zero, Act.put, List.setIfInBounds_toArray, List.set_cons_zero, List.set_cons_succ]
        refine ty (v := ?_) 30 (fun w hSw => ?_) ?_
        rotate_left
        · (try dsimp only at hSw); go_simp; (try with_reducible rfl)
        try simp only [List.getElem_toArray, List.getElem_cons_succ, List.getElem_cons_zero, Act.put, List.setIfInBounds_toArray, List.set_cons_zero, List.set_cons_succ]
        refine ty (v := ?_) 31 (fun w hSw => ?_) ?_
        rotate_left
        · (try dsimp only at hSw); go_simp; (try with_reducible rfl)
        try simp only [List.getElem_toArray, List.getElem_cons_succ, List.getElem_cons_zero, Act.put, List.setIfInBounds_toArray, List.set_cons_zero, List.set_cons_succ]
        refine ty (v := ?_) 32 (fun w hSw => ?_) ?_
        rotate_left
        · (try dsimp only at hSw); go_simp; (try with_reducible rfl)
        try simp only [List.getElem_toArray, List.getElem_cons_succ, List.getElem_cons_zero, Act.put, List.setIfInBounds_toArray, List.set_cons_zero, List.set_cons_succ]
        refine tr 33 (fun K hK => ?_)
        go_simp
        have hb := Cmd.below_one U4 (.cells #[.int .i64 1, .int .i64 1] 43)
        have EV1 := Lib.hid (heap_alloc_new U4 (.cells #[.int .i64 1, .int .i64 1] 43))
        have DV1 := Lib.hid (DU4.out.trans (hb.mono DU4.out.size))
        clear hb
        refine hK.out _ _ ?_ (fun hHeld => ?_)
        · exact HS.out _ DV1.out
        clear hK K
        generalize U4.alloc (.cells #[.int .i64 1, .int .i64 1] 43) = V1 at EV1 DV1 hHeld ⊢
        try simp only [List.getElem_toArray, List.getElem_cons_succ, List.getElem_cons_zero, Act.put, List.setIfInBounds_toArray, List.set_cons_zero, List.set_cons_succ]
        have RA := Lib.hid (Cps.one_id EV1.out)
        refine tr 34 (fun K hK => ?_)
        go_simp
        have hb := Cmd.below_one V1 (.cells #[.slice (some ⟨U4.heap.size, 0, none⟩) 1 1] 38)
        have EV2 := Lib.hid (heap_alloc_new V1 (.cells #[.slice (some ⟨U4.heap.size, 0, none⟩) 1 1] 38))
        have DV2 := Lib.hid (DV1.out.trans (hb.mono DV1.out.size))
        have RA := Lib.hid (RA.out.on hb)
        clear hb
        refine hK.out _ _ ?_ (fun hHeld => ?_)
        · exact HS.out _ DV2.out
        clear hK K
        generalize V1.alloc (.cells #[.slice (some ⟨U4.heap.size, 0, none⟩) 1 1] 38) = V2 at EV2 DV2 RA hHeld ⊢
        try simp only [List.getElem_toArray, List.getElem_cons_succ, List.getElem_cons_zero, Act.put, List.setIfInBounds_toArray, List.set_cons_zero, List.set_cons_succ]
        have RM := Lib.hid (ll_one EV2.out RA.out)
        refine tr 35 (fun K hK => ?_)
        go_simp
        (go_at_call 12; ((with_reducible refine (HRi.out _ DV2.out _ RM.out).mono ?_); rintro E V3 ⟨rfl, hb⟩; have DV3 := Lib.hid (DV2.out.trans (hb.mono DV2.out.size)); clear hb))
        refine hK.out _ _ ?_ (fun hHeld => ?_)
        · exact HS.out _ DV3.out
        clear hK K
        try simp only [List.getElem_toArray, List.getElem_cons_succ, List.getElem_cons_zero, Act.put, List.setIfInBounds_toArray, List.set_cons_zero, List.set_cons_succ]
        refine ty (v := ?_) 36 (fun w hSw => ?_) ?_
        rotate_left
        · (try dsimp only at hSw); go_simp; (try with_reducible rfl)
        try simp only [List.getElem_toArray, List.getElem_cons_succ, List.getElem_cons_zero, Act.put, List.setIfInBounds_toArray, List.set_cons_zero, List.set_cons_succ]
        refine ty (v := ?_) 37 (fun w hSw => ?_) ?_
        rotate_left
        · (try dsimp only at hSw); go_simp; (try with_reducible rfl)
        try simp only [List.getElem_toArray, List.getElem_cons_succ, List.getElem_cons_zero, Act.put, List.setIfInBounds_toArray, List.set_cons_zero, List.set_cons_succ]
        refine wpAnyH_done (by kernel_rfl) ?_ _
        go_wp2
        go_ret
        exact ⟨rfl, HB6.out.trans (DV3.out.mono HB6.out.size)⟩
      exact AllReadyH.nil
    exact AllReadyH.nil
end Go.Proofs.YtjokejcokgeeiaaGreat.Can
