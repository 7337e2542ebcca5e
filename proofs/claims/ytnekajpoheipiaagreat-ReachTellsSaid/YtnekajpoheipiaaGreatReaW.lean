/- What the developers' calls of layer 16 (reach) must give, said of any way to keep graphs; the small play of its statements: it returns true. No condition but those in each statement. (Written by tools/gen_reaw.py.) -/
import Derived.Test.YtnekajpoheipiaaGreatReaA
import Derived.Test.YtnekajpoheipiaaGreatGraW
namespace Go.Proofs.YtnekajpoheipiaaGreat.Rea
open Go.RowKit Cmd Bat Ids Rec Wid Gra
set_option linter.unusedVariables false
set_option linter.unusedSimpArgs false

/-- What the calls of layer 16 give, over whatever keeps graphs. -/
structure Reaches (G : Nat → Nat → List Rcd → World → Prop) : Prop where
  from_ : ∀ {N g : Nat} {rs : List Rcd} {W : World}, G N g rs W → ∀ (v : Value) (l : List Idn), RowAt W v l → l.length ≤ 1000 → (∀ x ∈ l, wfId x) → Calls Tryz.prog 10 #[gptr g, v] W (GivesRow (fromG rs l) W)
  path : ∀ {N g : Nat} {rs : List Rcd} {W : World}, G N g rs W → ∀ a b c d : Int, wfId (a, b) → wfId (c, d) → Calls Tryz.prog 12 #[gptr g, .agg #[.int .i64 a, .int .i64 b], .agg #[.int .i64 c, .int .i64 d]] W (RetBelow (.bool (decide ((c, d) ∈ fromG rs [(a, b)]))) W)
  closed : ∀ {N g : Nat} {rs : List Rcd} {W : World}, G N g rs W → Calls Tryz.prog 14 #[gptr g] W (GivesRow (closedG rs) W)
  whole : ∀ {N g : Nat} {rs : List Rcd} {W : World}, G N g rs W → ∀ (v : Value) (l : List Idn), RowAt W v l → l.length ≤ 1000 → (∀ x ∈ l, wfId x) → Calls Tryz.prog 16 #[gptr g, v] W (RetBelow (.bool (wholeG rs l)) W)
  nclosed : ∀ W : World, Calls Tryz.prog 14 #[.pointer none] W (GivesRow [] W)
  nwhole : ∀ W : World, Calls Tryz.prog 16 #[.pointer none, .slice none 0 0] W (RetBelow (.bool true) W)

/-! ### The play's records -/
def prs : List Rcd := [((0, 1), 1, [(0, 2)], []), ((0, 2), 1, [], []), ((0, 3), 1, [(0, 9)], [])]
theorem prs_err : gErr prs = 0 := by decide
theorem prs_lot : Lot prs := by
  have key : ∀ x ∈ prs, wfG x ∧ x.2.2.1.length ≤ 1000 ∧ x.2.2.2.length ≤ 1000 := fun x hx => by
    unfold prs at hx
    simp only [List.mem_cons, List.not_mem_nil, or_false] at hx
    rcases hx with rfl | rfl | rfl
    · exact ⟨⟨⟨by decide, by decide⟩, fun d hd => by rw [List.mem_singleton.1 hd]; exact ⟨by decide, by decide⟩, fun c hc => by cases hc⟩, by decide, by decide⟩
    · exact ⟨⟨⟨by decide, by decide⟩, fun d hd => (by cases hd), fun c hc => (by cases hc)⟩, by decide, by decide⟩
    · exact ⟨⟨⟨by decide, by decide⟩, fun d hd => by rw [List.mem_singleton.1 hd]; exact ⟨by decide, by decide⟩, fun c hc => by cases hc⟩, by decide, by decide⟩
  exact ⟨fun x hx => (key x hx).1, by decide, fun x hx => (key x hx).2⟩
theorem dp1 : dpG prs (0, 1) = [(0, 2)] := by decide
theorem dp2 : dpG prs (0, 2) = [] := by decide
theorem dp3 : dpG prs (0, 3) = [(0, 9)] := by decide
theorem rch2 {z : Idn} (h : Rch prs (0, 2) z) : z = (0, 2) := by
  induction h with
  | here => rfl
  | more _ hd ih => rw [ih, dp2] at hd; cases hd
theorem rch1 {z : Idn} (h : Rch prs (0, 1) z) : z = (0, 1) ∨ z = (0, 2) := by
  induction h with
  | here => exact .inl rfl
  | more _ hd ih =>
    rcases ih with ih | ih
    · rw [ih, dp1] at hd; exact .inr (List.mem_singleton.1 hd)
    · rw [ih, dp2] at hd; cases hd
theorem prs_closed : closedG prs = [(0, 1), (0, 2)] := by
  refine rise_eq (srt_rise _) (by decide) fun x => ?_
  rw [closed_mem]
  constructor
  · intro h
    have hx := h x (.here x)
    have hx : x ∈ [((0, 1) : Idn), (0, 2), (0, 3)] := hx
    simp only [List.mem_cons, List.not_mem_nil, or_false] at hx ⊢
    rcases hx with rfl | rfl | rfl
    · exact .inl rfl
    · exact .inr rfl
    · exact absurd (h (0, 9) (.more (.here _) (by rw [dp3]; exact List.mem_singleton.2 rfl))) (by decide)
  · intro h z hz
    simp only [List.mem_cons, List.not_mem_nil, or_false] at h
    rcases h with rfl | rfl
    · rcases rch1 hz with rfl | rfl <;> decide
    · rw [rch2 hz]; decide
theorem prs_path : ((0, 2) : Idn) ∈ fromG prs [(0, 1)] := from_mem.2 ⟨_, List.mem_singleton.2 rfl, .more (.here _) (by rw [dp1]; exact List.mem_singleton.2 rfl)⟩
theorem prs_not : ((0, 1) : Idn) ∉ fromG prs [(0, 2)] := fun h => by
  obtain ⟨a, ha, hr⟩ := from_mem.1 h
  rw [List.mem_singleton.1 ha] at hr
  have := rch2 hr
  revert this; decide
theorem prs_whole : wholeG prs [(0, 2)] = true := whole_iff.2 fun a ha z hz => by
  rw [List.mem_singleton.1 ha] at hz
  rw [rch2 hz]; exact ⟨by decide, by decide⟩
theorem two_id {W : World} {g : Nat} {x y a b : Int} (h : W.heap[g]? = some (.cells #[.int .i64 x, .int .i64 y, .int .i64 a, .int .i64 b] 25 (0, 0))) : RowAt W (.slice (some ⟨g, 0, none⟩) 2 2) [(x, y), (a, b)] := by
  refine ⟨_, 2, rfl, Nat.le_refl _, by omega, (fun e => by cases e), fun _ => ⟨g, 0, rfl, (Array.getElem?_eq_some_iff.1 h).1, fun j hj => ?_⟩⟩
  have hj2 : j = 0 ∨ j = 1 := by simp at hj; omega
  rcases hj2 with rfl | rfl
  · exact ⟨cell_row h rfl, cell_row h rfl⟩
  · exact ⟨cell_row h rfl, cell_row h rfl⟩
theorem three_rec {W : World} {g : Nat} {v1 v3 : Value} (h : W.heap[g]? = some (.cells #[.int .i64 0, .int .i64 1, .int .i64 1, v1, .slice none 0 0, .int .i64 0, .int .i64 2, .int .i64 1, .slice none 0 0, .slice none 0 0, .int .i64 0, .int .i64 3, .int .i64 1, v3, .slice none 0 0] 45 (0, 0)))
    (h1 : RowAt W v1 [(0, 2)]) (h3 : RowAt W v3 [(0, 9)]) : layG.Row W (.slice (some ⟨g, 0, none⟩) 3 3) prs := by
  have hn : RowAt W (.slice none 0 0) [] := ⟨none, 0, rfl, Nat.le_refl _, by omega, fun _ => rfl, fun h => absurd rfl h⟩
  refine ⟨_, 3, rfl, Nat.le_refl _, by omega, fun _ => ⟨g, 0, rfl, (Array.getElem?_eq_some_iff.1 h).1, fun j hj => ?_⟩⟩
  have hj3 : j = 0 ∨ j = 1 ∨ j = 2 := by have : j < 3 := hj; omega
  rcases hj3 with rfl | rfl | rfl
  · exact ⟨cell_row h rfl, cell_row h rfl, cell_row h rfl, ⟨v1, cell_row h rfl, h1⟩, _, cell_row h rfl, no_cmds W⟩
  · exact ⟨cell_row h rfl, cell_row h rfl, cell_row h rfl, ⟨_, cell_row h rfl, hn⟩, _, cell_row h rfl, no_cmds W⟩
  · exact ⟨cell_row h rfl, cell_row h rfl, cell_row h rfl, ⟨v3, cell_row h rfl, h3⟩, _, cell_row h rfl, no_cmds W⟩
set_option maxHeartbeats 16000000 in
set_option maxRecDepth 100000 in
theorem rplay_any {G : Nat → Nat → List Rcd → World → Prop} (HG : Graphs G) (RG : Reaches G) (w : World) : Calls Tryz.prog 7 #[] w (RetBelow (.bool true) w) := by
  have HK := Lib.hid HG
  have HR := Lib.hid RG
  have b1 := Cmd.below_one w (.cells #[.int .i64 0, .int .i64 1] 25)
  have n1 := heap_alloc_new w (.cells #[.int .i64 0, .int .i64 1] 25)
  obtain ⟨w1, h1⟩ : ∃ w1, w1 = w.alloc (.cells #[.int .i64 0, .int .i64 1] 25) := ⟨_, rfl⟩
  have s1 : w1.heap.size = w.heap.size + 1 := by rw [h1]; simp
  rw [← h1] at b1 n1
  have b2 := Cmd.below_one w1 (.cells #[.int .i64 0, .int .i64 2] 25)
  have n2 := heap_alloc_new w1 (.cells #[.int .i64 0, .int .i64 2] 25)
  obtain ⟨w2, h2⟩ : ∃ w2, w2 = w1.alloc (.cells #[.int .i64 0, .int .i64 2] 25) := ⟨_, rfl⟩
  have s2 : w2.heap.size = w.heap.size + 1 + 1 := by rw [h2, World.size_alloc, s1]
  rw [← h2] at b2 n2
  have b3 := Cmd.below_one w2 (.cells #[.int .i64 0, .int .i64 3] 25)
  obtain ⟨w3, h3⟩ : ∃ w3, w3 = w2.alloc (.cells #[.int .i64 0, .int .i64 3] 25) := ⟨_, rfl⟩
  have s3 : w3.heap.size = w.heap.size + 1 + 1 + 1 := by rw [h3, World.size_alloc, s2]
  rw [← h3] at b3
  have b4 := Cmd.below_one w3 (.cells #[.int .i64 0, .int .i64 2] 25)
  have n4 := heap_alloc_new w3 (.cells #[.int .i64 0, .int .i64 2] 25)
  obtain ⟨w4, h4⟩ : ∃ w4, w4 = w3.alloc (.cells #[.int .i64 0, .int .i64 2] 25) := ⟨_, rfl⟩
  have s4 : w4.heap.size = w.heap.size + 1 + 1 + 1 + 1 := by rw [h4, World.size_alloc, s3]
  rw [← h4] at b4 n4
  have b5 := Cmd.below_one w4 (.cells #[.int .i64 0, .int .i64 9] 25)
  have n5 := heap_alloc_new w4 (.cells #[.int .i64 0, .int .i64 9] 25)
  obtain ⟨w5, h5⟩ : ∃ w5, w5 = w4.alloc (.cells #[.int .i64 0, .int .i64 9] 25) := ⟨_, rfl⟩
  have s5 : w5.heap.size = w.heap.size + 1 + 1 + 1 + 1 + 1 := by rw [h5, World.size_alloc, s4]
  rw [← h5] at b5 n5
  rw [s1] at n2
  rw [s3] at n4
  rw [s4] at n5
  have b6 := Cmd.below_one w5 (.cells #[.int .i64 0, .int .i64 1, .int .i64 1, .slice (some ⟨w.heap.size + 1 + 1 + 1, 0, none⟩) 1 1, .slice none 0 0, .int .i64 0, .int .i64 2, .int .i64 1, .slice none 0 0, .slice none 0 0, .int .i64 0, .int .i64 3, .int .i64 1, .slice (some ⟨w.heap.size + 1 + 1 + 1 + 1, 0, none⟩) 1 1, .slice none 0 0] 45)
  have n6 := heap_alloc_new w5 (.cells #[.int .i64 0, .int .i64 1, .int .i64 1, .slice (some ⟨w.heap.size + 1 + 1 + 1, 0, none⟩) 1 1, .slice none 0 0, .int .i64 0, .int .i64 2, .int .i64 1, .slice none 0 0, .slice none 0 0, .int .i64 0, .int .i64 3, .int .i64 1, .slice (some ⟨w.heap.size + 1 + 1 + 1 + 1, 0, none⟩) 1 1, .slice none 0 0] 45)
  rw [s5] at n6
  have r6 := three_rec n6 ((one_id n4).on (b5.trans (b6.mono b5.size))) ((one_id n5).on b6)
  have HB0 := b1.trans ((b2.trans ((b3.trans ((b4.trans ((b5.trans (b6.mono b5.size)).mono b4.size)).mono b3.size)).mono b2.size)).mono b1.size)
  have CN := HG.new _ prs _ r6 prs_lot
  have k1 := (b2.trans ((b3.trans ((b4.trans ((b5.trans (b6.mono b5.size)).mono b4.size)).mono b3.size)).mono b2.size)).block w.heap.size (by omega)
  have k2 := (b3.trans ((b4.trans ((b5.trans (b6.mono b5.size)).mono b4.size)).mono b3.size)).block (w.heap.size + 1) (by omega)
  have T1 := Lib.hid (And.intro (k1.trans n1) (k2.trans n2))
  have HB5 := Lib.hid HB0
  have HCN := Lib.hid CN
  subst h5; subst h4; subst h3; subst h2; subst h1
  clear b1 n1 s1 b2 n2 s2 b3 s3 b4 n4 s4 b5 n5 s5 b6 n6 r6 HB0 CN k1 k2
  obtain ⟨c0, c1, c2, c3⟩ : True ∧ True ∧ True ∧ True := ⟨trivial, trivial, trivial, trivial⟩
  go_enter Tryz.func7, Tryz.ntmps7
  go_upto_region 3 with (first
    | (go_at_call 8; ((with_reducible refine HCN.out.mono ?_); rintro E w6 ⟨hb, (⟨-, g, rfl, hg⟩ | ⟨hne, -⟩)⟩; rotate_left; exact absurd prs_err hne; have G6 := Lib.hid hg; have T6 := Lib.hid (And.intro ((hb.block _ (Array.getElem?_eq_some_iff.1 T1.out.1).1).trans T1.out.1) ((hb.block _ (Array.getElem?_eq_some_iff.1 T1.out.2).1).trans T1.out.2)); have HB6 := Lib.hid (HB5.out.trans (hb.mono HB5.out.size)); clear hb hg)))
  have HCl : Hid (∀ X, Below w6.heap.size w6 X → Calls Tryz.prog 14 #[gptr g] X (GivesRow [(0, 1), (0, 2)] X)) := Lib.hid fun X hb => by
    have := HR.out.closed (HK.out.on G6.out hb)
    rwa [prs_closed] at this
  have HPa : Hid (∀ X, Below w6.heap.size w6 X → Calls Tryz.prog 12 #[gptr g, .agg #[.int .i64 0, .int .i64 1], .agg #[.int .i64 0, .int .i64 2]] X (RetBelow (.bool true) X)) := Lib.hid fun X hb => by
    have := HR.out.path (HK.out.on G6.out hb) 0 1 0 2 ⟨by decide, by decide⟩ ⟨by decide, by decide⟩
    rwa [decide_eq_true prs_path] at this
  have HPb : Hid (∀ X, Below w6.heap.size w6 X → Calls Tryz.prog 12 #[gptr g, .agg #[.int .i64 0, .int .i64 2], .agg #[.int .i64 0, .int .i64 1]] X (RetBelow (.bool false) X)) := Lib.hid fun X hb => by
    have := HR.out.path (HK.out.on G6.out hb) 0 2 0 1 ⟨by decide, by decide⟩ ⟨by decide, by decide⟩
    rwa [decide_eq_false prs_not] at this
  have HWh : Hid (∀ X, Below w6.heap.size w6 X → ∀ v, RowAt X v [(0, 2)] → Calls Tryz.prog 16 #[gptr g, v] X (RetBelow (.bool true) X)) := Lib.hid fun X hb v hv => by
    have := HR.out.whole (HK.out.on G6.out hb) v [(0, 2)] hv (by decide) (fun x hx => by rw [List.mem_singleton.1 hx]; exact ⟨by decide, by decide⟩)
    rwa [prs_whole] at this
  have HS : Hid (∀ w', Below w6.heap.size w6 w' → w'.cell? ⟨w.heap.size, 0, none⟩ = some (.int .i64 0) ∧ w'.cell? ⟨w.heap.size, 1, none⟩ = some (.int .i64 1) ∧ w'.cell? ⟨w.heap.size + 1, 0, none⟩ = some (.int .i64 0) ∧ w'.cell? ⟨w.heap.size + 1, 1, none⟩ = some (.int .i64 2)) := Lib.hid fun w' hb => by
    have t1 := (hb.block _ (Array.getElem?_eq_some_iff.1 T6.out.1).1).trans T6.out.1
    have t2 := (hb.block _ (Array.getElem?_eq_some_iff.1 T6.out.2).1).trans T6.out.2
    exact ⟨cell_row (i := 0) t1 rfl, cell_row (i := 1) t1 rfl, cell_row (i := 0) t2 rfl, cell_row (i := 1) t2 rfl⟩
  have DY0 : Hid (Below w6.heap.size w6 w6.drew) := Lib.hid (Below.refl _ _).drew
  refine wp_region_held_drew (S := (fun w' => w'.cell? ⟨w.heap.size, 0, none⟩ = some (.int .i64 0) ∧ w'.cell? ⟨w.heap.size, 1, none⟩ = some (.int .i64 1) ∧ w'.cell? ⟨w.heap.size + 1, 0, none⟩ = some (.int .i64 0) ∧ w'.cell? ⟨w.heap.size + 1, 1, none⟩ = some (.int .i64 2))) (by kernel_rfl) (HS.out _ DY0.out) (fun hHeld => ?_)
  generalize w6.drew = Y0 at DY0 hHeld ⊢
  refine wpAnyH_take (i := 0) (v := ?_) rfl (by kernel_rfl) (by kernel_rfl) (by kernel_rfl) (fun _ _ _ h => h) (Or.inl ⟨by rfl, fun w hSw => ?_⟩) (by assumption) ?_
  rotate_left
  · (try dsimp only at hSw); go_simp; (try with_reducible rfl)
  try simp only [List.getElem_toArray, List.getElem_cons_succ, List.getElem_cons_zero, Act.put, List.setIfInBounds_toArray, List.set_cons_zero, List.set_cons_succ]
  refine wpAnyH_take (i := 1) (v := ?_) rfl (by kernel_rfl) (by kernel_rfl) (by kernel_rfl) (fun _ _ _ h => h) (Or.inl ⟨by rfl, fun w hSw => ?_⟩) (by assumption) ?_
  rotate_left
  · (try dsimp only at hSw); go_simp; (try with_reducible rfl)
  try simp only [List.getElem_toArray, List.getElem_cons_succ, List.getElem_cons_zero, Act.put, List.setIfInBounds_toArray, List.set_cons_zero, List.set_cons_succ]
  refine wpAnyH_take (i := 2) (v := ?_) rfl (by kernel_rfl) (by kernel_rfl) (by kernel_rfl) (fun _ _ _ h => h) (Or.inl ⟨by rfl, fun w hSw => ?_⟩) (by assumption) ?_
  rotate_left
  · (try dsimp only at hSw); go_simp; (try with_reducible rfl)
  try simp only [List.getElem_toArray, List.getElem_cons_succ, List.getElem_cons_zero, Act.put, List.setIfInBounds_toArray, List.set_cons_zero, List.set_cons_succ]
  refine wpAnyH_take (i := 3) (v := ?_) rfl (by kernel_rfl) (by kernel_rfl) (by kernel_rfl) (fun _ _ _ h => h) (Or.inl ⟨by rfl, fun w hSw => ?_⟩) (by assumption) ?_
  rotate_left
  · (try dsimp only at hSw); go_simp; (try with_reducible rfl)
  try simp only [List.getElem_toArray, List.getElem_cons_succ, List.getElem_cons_zero, Act.put, List.setIfInBounds_toArray, List.set_cons_zero, List.set_cons_succ]
  refine wpAnyH_take (i := 5) (v := ?_) rfl (by kernel_rfl) (by kernel_rfl) (by kernel_rfl) (fun _ _ _ h => h) (Or.inl ⟨by rfl, fun w hSw => ?_⟩) (by assumption) ?_
  rotate_left
  · (try dsimp only at hSw); go_simp; (try with_reducible rfl)
  try simp only [List.getElem_toArray, List.getElem_cons_succ, List.getElem_cons_zero, Act.put, List.setIfInBounds_toArray, List.set_cons_zero, List.set_cons_succ]
  refine wpAnyH_take (i := 6) (v := ?_) rfl (by kernel_rfl) (by kernel_rfl) (by kernel_rfl) (fun _ _ _ h => h) (Or.inl ⟨by rfl, fun w hSw => ?_⟩) (by assumption) ?_
  rotate_left
  · (try dsimp only at hSw); go_simp; (try with_reducible rfl)
  try simp only [List.getElem_toArray, List.getElem_cons_succ, List.getElem_cons_zero, Act.put, List.setIfInBounds_toArray, List.set_cons_zero, List.set_cons_succ]
  refine wpAnyH_ready (rs := [4, 7]) (by kernel_rfl) (by simp) ?_
  refine AllReadyH.cons rfl (fun K hK => ?_) ?_
  · go_simp
    (go_at_call 14; ((with_reducible refine (HCl.out _ DY0.out).mono ?_); rintro E Y1 ⟨v1, rfl, hr, hb⟩; have DY1 := Lib.hid (DY0.out.trans (hb.mono DY0.out.size)); have RY1 := Lib.hid hr; clear hb))
    refine hK.out _ _ ?_ (fun hHeld => ?_)
    · exact HS.out _ DY1.out
    clear hK K
    try simp only [List.getElem_toArray, List.getElem_cons_succ, List.getElem_cons_zero, Act.put, List.setIfInBounds_toArray, List.set_cons_zero, List.set_cons_succ]
    refine wpAnyH_ready (rs := [7]) (by kernel_rfl) (by simp) ?_
    refine AllReadyH.cons rfl (fun K hK => ?_) ?_
    · go_simp
      have hb := Cmd.below_one Y1 (.cells #[.int .i64 0, .int .i64 1, .int .i64 0, .int .i64 2] 25)
      have EY2 := Lib.hid (heap_alloc_new Y1 (.cells #[.int .i64 0, .int .i64 1, .int .i64 0, .int .i64 2] 25))
      have DY2 := Lib.hid (DY1.out.trans (hb.mono DY1.out.size))
      have RY2 := Lib.hid (RY1.out.on hb)
      clear hb
      refine hK.out _ _ ?_ (fun hHeld => ?_)
      · exact HS.out _ DY2.out
      clear hK K
      generalize Y1.alloc (.cells #[.int .i64 0, .int .i64 1, .int .i64 0, .int .i64 2] 25) = Y2 at EY2 DY2 RY2 hHeld ⊢
      try simp only [List.getElem_toArray, List.getElem_cons_succ, List.getElem_cons_zero, Act.put, List.setIfInBounds_toArray, List.set_cons_zero, List.set_cons_succ]
      have EE := EY2
      refine wpAnyH_ready (rs := [8]) (by kernel_rfl) (by simp) ?_
      refine AllReadyH.cons rfl (fun K hK => ?_) ?_
      · go_simp
        (go_at_call 9; ((with_reducible refine (Ids.same_any _ _ _ _ _ RY2.out (two_id EE.out)).mono ?_); rintro E Y3 ⟨rfl, hb⟩; have DY3 := Lib.hid (DY2.out.trans (hb.mono DY2.out.size)); clear hb))
        refine hK.out _ _ ?_ (fun hHeld => ?_)
        · exact HS.out _ DY3.out
        clear hK K
        try simp only [List.getElem_toArray, List.getElem_cons_succ, List.getElem_cons_zero, Act.put, List.setIfInBounds_toArray, List.set_cons_zero, List.set_cons_succ]
        refine wpAnyH_take (i := 9) (v := ?_) rfl (by kernel_rfl) (by kernel_rfl) (by kernel_rfl) (fun _ _ _ h => h) (Or.inl ⟨by rfl, fun w hSw => ?_⟩) (by assumption) ?_
        rotate_left
        · (try dsimp only at hSw); go_simp; (try with_reducible rfl)
        try simp only [List.getElem_toArray, List.getElem_cons_succ, List.getElem_cons_zero, Act.put, List.setIfInBounds_toArray, List.set_cons_zero, List.set_cons_succ]
        refine wpAnyH_take (i := 10) (v := ?_) rfl (by kernel_rfl) (by kernel_rfl) (by kernel_rfl) (fun _ _ _ h => h) (Or.inl ⟨by rfl, fun w hSw => ?_⟩) (by assumption) ?_
        rotate_left
        · (try dsimp only at hSw); go_simp; (try with_reducible rfl)
        try simp only [List.getElem_toArray, List.getElem_cons_succ, List.getElem_cons_zero, Act.put, List.setIfInBounds_toArray, List.set_cons_zero, List.set_cons_succ]
        refine wpAnyH_take (i := 11) (v := ?_) rfl (by kernel_rfl) (by kernel_rfl) (by kernel_rfl) (fun _ _ _ h => h) (Or.inl ⟨by rfl, fun w hSw => ?_⟩) (by assumption) ?_
        rotate_left
        · (try dsimp only at hSw); go_simp; (try with_reducible rfl)
        try simp only [List.getElem_toArray, List.getElem_cons_succ, List.getElem_cons_zero, Act.put, List.setIfInBounds_toArray, List.set_cons_zero, List.set_cons_succ]
        refine wpAnyH_take (i := 12) (v := ?_) rfl (by kernel_rfl) (by kernel_rfl) (by kernel_rfl) (fun _ _ _ h => h) (Or.inl ⟨by rfl, fun w hSw => ?_⟩) (by assumption) ?_
        rotate_left
        · (try dsimp only at hSw); go_simp; (try with_reducible rfl)
        try simp only [List.getElem_toArray, List.getElem_cons_succ, List.getElem_cons_zero, Act.put, List.setIfInBounds_toArray, List.set_cons_zero, List.set_cons_succ]
        refine wpAnyH_take (i := 13) (v := ?_) rfl (by kernel_rfl) (by kernel_rfl) (by kernel_rfl) (fun _ _ _ h => h) (Or.inl ⟨by rfl, fun w hSw => ?_⟩) (by assumption) ?_
        rotate_left
        · (try dsimp only at hSw); go_simp; (try with_reducible rfl)
        try simp only [List.getElem_toArray, List.getElem_cons_succ, List.getElem_cons_zero, Act.put, List.setIfInBounds_toArray, List.set_cons_zero, List.set_cons_succ]
        refine wpAnyH_ready (rs := [14]) (by kernel_rfl) (by simp) ?_
        refine AllReadyH.cons rfl (fun K hK => ?_) ?_
        · go_simp
          (go_at_call 12; ((with_reducible refine (HPa.out _ DY3.out).mono ?_); rintro E Y4 ⟨rfl, hb⟩; have DY4 := Lib.hid (DY3.out.trans (hb.mono DY3.out.size)); clear hb))
          refine hK.out _ _ ?_ (fun hHeld => ?_)
          · exact HS.out _ DY4.out
          clear hK K
          try simp only [List.getElem_toArray, List.getElem_cons_succ, List.getElem_cons_zero, Act.put, List.setIfInBounds_toArray, List.set_cons_zero, List.set_cons_succ]
          refine wpAnyH_take (i := 15) (v := ?_) rfl (by kernel_rfl) (by kernel_rfl) (by kernel_rfl) (fun _ _ _ h => h) (Or.inl ⟨by rfl, fun w hSw => ?_⟩) (by assumption) ?_
          rotate_left
          · (try dsimp only at hSw); go_simp; (try with_reducible rfl)
          try simp only [List.getElem_toArray, List.getElem_cons_succ, List.getElem_cons_zero, Act.put, List.setIfInBounds_toArray, List.set_cons_zero, List.set_cons_succ]
          refine wpAnyH_take (i := 16) (v := ?_) rfl (by kernel_rfl) (by kernel_rfl) (by kernel_rfl) (fun _ _ _ h => h) (Or.inl ⟨by rfl, fun w hSw => ?_⟩) (by assumption) ?_
          rotate_left
          · (try dsimp only at hSw); go_simp; (try with_reducible rfl)
          try simp only [List.getElem_toArray, List.getElem_cons_succ, List.getElem_cons_zero, Act.put, List.setIfInBounds_toArray, List.set_cons_zero, List.set_cons_succ]
          refine wpAnyH_take (i := 17) (v := ?_) rfl (by kernel_rfl) (by kernel_rfl) (by kernel_rfl) (fun _ _ _ h => h) (Or.inl ⟨by rfl, fun w hSw => ?_⟩) (by assumption) ?_
          rotate_left
          · (try dsimp only at hSw); go_simp; (try with_reducible rfl)
          try simp only [List.getElem_toArray, List.getElem_cons_succ, List.getElem_cons_zero, Act.put, List.setIfInBounds_toArray, List.set_cons_zero, List.set_cons_succ]
          refine wpAnyH_take (i := 18) (v := ?_) rfl (by kernel_rfl) (by kernel_rfl) (by kernel_rfl) (fun _ _ _ h => h) (Or.inl ⟨by rfl, fun w hSw => ?_⟩) (by assumption) ?_
          rotate_left
          · (try dsimp only at hSw); go_simp; (try with_reducible rfl)
          try simp only [List.getElem_toArray, List.getElem_cons_succ, List.getElem_cons_zero, Act.put, List.setIfInBounds_toArray, List.set_cons_zero, List.set_cons_succ]
          refine wpAnyH_take (i := 19) (v := ?_) rfl (by kernel_rfl) (by kernel_rfl) (by kernel_rfl) (fun _ _ _ h => h) (Or.inl ⟨by rfl, fun w hSw => ?_⟩) (by assumption) ?_
          rotate_left
          · (try dsimp only at hSw); go_simp; (try with_reducible rfl)
          try simp only [List.getElem_toArray, List.getElem_cons_succ, List.getElem_cons_zero, Act.put, List.setIfInBounds_toArray, List.set_cons_zero, List.set_cons_succ]
          refine wpAnyH_ready (rs := [20]) (by kernel_rfl) (by simp) ?_
          refine AllReadyH.cons rfl (fun K hK => ?_) ?_
          · go_simp
            (go_at_call 12; ((with_reducible refine (HPb.out _ DY4.out).mono ?_); rintro E Y5 ⟨rfl, hb⟩; have DY5 := Lib.hid (DY4.out.trans (hb.mono DY4.out.size)); clear hb))
            refine hK.out _ _ ?_ (fun hHeld => ?_)
            · exact HS.out _ DY5.out
            clear hK K
            try simp only [List.getElem_toArray, List.getElem_cons_succ, List.getElem_cons_zero, Act.put, List.setIfInBounds_toArray, List.set_cons_zero, List.set_cons_succ]
            refine wpAnyH_take (i := 21) (v := ?_) rfl (by kernel_rfl) (by kernel_rfl) (by kernel_rfl) (fun _ _ _ h => h) (Or.inl ⟨by rfl, fun w hSw => ?_⟩) (by assumption) ?_
            rotate_left
            · (try dsimp only at hSw); go_simp; (try with_reducible rfl)
            try simp only [List.getElem_toArray, List.getElem_cons_succ, List.getElem_cons_zero, Act.put, List.setIfInBounds_toArray, List.set_cons_zero, List.set_cons_succ]
            refine wpAnyH_take (i := 22) (v := ?_) rfl (by kernel_rfl) (by kernel_rfl) (by kernel_rfl) (fun _ _ _ h => h) (Or.inl ⟨by rfl, fun w hSw => ?_⟩) (by assumption) ?_
            rotate_left
            · (try dsimp only at hSw); go_simp; (try with_reducible rfl)
            try simp only [List.getElem_toArray, List.getElem_cons_succ, List.getElem_cons_zero, Act.put, List.setIfInBounds_toArray, List.set_cons_zero, List.set_cons_succ]
            refine wpAnyH_take (i := 23) (v := ?_) rfl (by kernel_rfl) (by kernel_rfl) (by kernel_rfl) (fun _ _ _ h => h) (Or.inl ⟨by rfl, fun w hSw => ?_⟩) (by assumption) ?_
            rotate_left
            · (try dsimp only at hSw); go_simp; (try with_reducible rfl)
            try simp only [List.getElem_toArray, List.getElem_cons_succ, List.getElem_cons_zero, Act.put, List.setIfInBounds_toArray, List.set_cons_zero, List.set_cons_succ]
            refine wpAnyH_take (i := 24) (v := ?_) rfl (by kernel_rfl) (by kernel_rfl) (by kernel_rfl) (fun _ _ _ h => h) (Or.inl ⟨by rfl, fun w hSw => ?_⟩) (by assumption) ?_
            rotate_left
            · (try dsimp only at hSw); go_simp; (try with_reducible rfl)
            try simp only [List.getElem_toArray, List.getElem_cons_succ, List.getElem_cons_zero, Act.put, List.setIfInBounds_toArray, List.set_cons_zero, List.set_cons_succ]
            refine wpAnyH_take (i := 25) (v := ?_) rfl (by kernel_rfl) (by kernel_rfl) (by kernel_rfl) (fun _ _ _ h => h) (Or.inl ⟨by rfl, fun w hSw => ?_⟩) (by assumption) ?_
            rotate_left
            · (try dsimp only at hSw); go_simp; (try with_reducible rfl)
            try simp only [List.getElem_toArray, List.getElem_cons_succ, List.getElem_cons_zero, Act.put, List.setIfInBounds_toArray, List.set_cons_zero, List.set_cons_succ]
            refine wpAnyH_ready (rs := [26]) (by kernel_rfl) (by simp) ?_
            refine AllReadyH.cons rfl (fun K hK => ?_) ?_
            · go_simp
              have hb := Cmd.below_one Y5 (.cells #[.int .i64 0, .int .i64 2] 25)
              have EY6 := Lib.hid (heap_alloc_new Y5 (.cells #[.int .i64 0, .int .i64 2] 25))
              have DY6 := Lib.hid (DY5.out.trans (hb.mono DY5.out.size))
              clear hb
              refine hK.out _ _ ?_ (fun hHeld => ?_)
              · exact HS.out _ DY6.out
              clear hK K
              generalize Y5.alloc (.cells #[.int .i64 0, .int .i64 2] 25) = Y6 at EY6 DY6 hHeld ⊢
              try simp only [List.getElem_toArray, List.getElem_cons_succ, List.getElem_cons_zero, Act.put, List.setIfInBounds_toArray, List.set_cons_zero, List.set_cons_succ]
              refine wpAnyH_ready (rs := [27]) (by kernel_rfl) (by simp) ?_
              refine AllReadyH.cons rfl (fun K hK => ?_) ?_
              · go_simp
                (go_at_call 16; ((with_reducible refine (HWh.out _ DY6.out _ (one_id EY6.out)).mono ?_); rintro E Y7 ⟨rfl, hb⟩; have DY7 := Lib.hid (DY6.out.trans (hb.mono DY6.out.size)); clear hb))
                refine hK.out _ _ ?_ (fun hHeld => ?_)
                · exact HS.out _ DY7.out
                clear hK K
                try simp only [List.getElem_toArray, List.getElem_cons_succ, List.getElem_cons_zero, Act.put, List.setIfInBounds_toArray, List.set_cons_zero, List.set_cons_succ]
                refine wpAnyH_take (i := 28) (v := ?_) rfl (by kernel_rfl) (by kernel_rfl) (by kernel_rfl) (fun _ _ _ h => h) (Or.inl ⟨by rfl, fun w hSw => ?_⟩) (by assumption) ?_
                rotate_left
                · (try dsimp only at hSw); go_simp; (try with_reducible rfl)
                try simp only [List.getElem_toArray, List.getElem_cons_succ, List.getElem_cons_zero, Act.put, List.setIfInBounds_toArray, List.set_cons_zero, List.set_cons_succ]
                refine wpAnyH_take (i := 29) (v := ?_) rfl (by kernel_rfl) (by kernel_rfl) (by kernel_rfl) (fun _ _ _ h => h) (Or.inl ⟨by rfl, fun w hSw => ?_⟩) (by assumption) ?_
                rotate_left
                · (try dsimp only at hSw); go_simp; (try with_reducible rfl)
                try simp only [List.getElem_toArray, List.getElem_cons_succ, List.getElem_cons_zero, Act.put, List.setIfInBounds_toArray, List.set_cons_zero, List.set_cons_succ]
                refine wpAnyH_done (by kernel_rfl) ?_ _
                go_wp2
                go_ret
                exact ⟨rfl, HB6.out.trans (DY7.out.mono HB6.out.size)⟩
              exact AllReadyH.nil
            exact AllReadyH.nil
          exact AllReadyH.nil
        exact AllReadyH.nil
      exact AllReadyH.nil
    exact AllReadyH.nil
  refine AllReadyH.cons rfl (fun K hK => ?_) ?_
  · go_simp
    have hb := Cmd.below_one Y0 (.cells #[.int .i64 0, .int .i64 1, .int .i64 0, .int .i64 2] 25)
    have EY1 := Lib.hid (heap_alloc_new Y0 (.cells #[.int .i64 0, .int .i64 1, .int .i64 0, .int .i64 2] 25))
    have DY1 := Lib.hid (DY0.out.trans (hb.mono DY0.out.size))
    clear hb
    refine hK.out _ _ ?_ (fun hHeld => ?_)
    · exact HS.out _ DY1.out
    clear hK K
    generalize Y0.alloc (.cells #[.int .i64 0, .int .i64 1, .int .i64 0, .int .i64 2] 25) = Y1 at EY1 DY1 hHeld ⊢
    try simp only [List.getElem_toArray, List.getElem_cons_succ, List.getElem_cons_zero, Act.put, List.setIfInBounds_toArray, List.set_cons_zero, List.set_cons_succ]
    refine wpAnyH_ready (rs := [4]) (by kernel_rfl) (by simp) ?_
    refine AllReadyH.cons rfl (fun K hK => ?_) ?_
    · go_simp
      (go_at_call 14; ((with_reducible refine (HCl.out _ DY1.out).mono ?_); rintro E Y2 ⟨v1, rfl, hr, hb⟩; have DY2 := Lib.hid (DY1.out.trans (hb.mono DY1.out.size)); have RY2 := Lib.hid hr; have DE := Lib.hid (hb.block _ (Array.getElem?_eq_some_iff.1 EY1.out).1); clear hb))
      refine hK.out _ _ ?_ (fun hHeld => ?_)
      · exact HS.out _ DY2.out
      clear hK K
      try simp only [List.getElem_toArray, List.getElem_cons_succ, List.getElem_cons_zero, Act.put, List.setIfInBounds_toArray, List.set_cons_zero, List.set_cons_succ]
      have EE := Lib.hid ((DE.out).trans EY1.out)
      refine wpAnyH_ready (rs := [8]) (by kernel_rfl) (by simp) ?_
      refine AllReadyH.cons rfl (fun K hK => ?_) ?_
      · go_simp
        (go_at_call 9; ((with_reducible refine (Ids.same_any _ _ _ _ _ RY2.out (two_id EE.out)).mono ?_); rintro E Y3 ⟨rfl, hb⟩; have DY3 := Lib.hid (DY2.out.trans (hb.mono DY2.out.size)); clear hb))
        refine hK.out _ _ ?_ (fun hHeld => ?_)
        · exact HS.out _ DY3.out
        clear hK K
        try simp only [List.getElem_toArray, List.getElem_cons_succ, List.getElem_cons_zero, Act.put, List.setIfInBounds_toArray, List.set_cons_zero, List.set_cons_succ]
        refine wpAnyH_take (i := 9) (v := ?_) rfl (by kernel_rfl) (by kernel_rfl) (by kernel_rfl) (fun _ _ _ h => h) (Or.inl ⟨by rfl, fun w hSw => ?_⟩) (by assumption) ?_
        rotate_left
        · (try dsimp only at hSw); go_simp; (try with_reducible rfl)
        try simp only [List.getElem_toArray, List.getElem_cons_succ, List.getElem_cons_zero, Act.put, List.setIfInBounds_toArray, List.set_cons_zero, List.set_cons_succ]
        refine wpAnyH_take (i := 10) (v := ?_) rfl (by kernel_rfl) (by kernel_rfl) (by kernel_rfl) (fun _ _ _ h => h) (Or.inl ⟨by rfl, fun w hSw => ?_⟩) (by assumption) ?_
        rotate_left
        · (try dsimp only at hSw); go_simp; (try with_reducible rfl)
        try simp only [List.getElem_toArray, List.getElem_cons_succ, List.getElem_cons_zero, Act.put, List.setIfInBounds_toArray, List.set_cons_zero, List.set_cons_succ]
        refine wpAnyH_take (i := 11) (v := ?_) rfl (by kernel_rfl) (by kernel_rfl) (by kernel_rfl) (fun _ _ _ h => h) (Or.inl ⟨by rfl, fun w hSw => ?_⟩) (by assumption) ?_
        rotate_left
        · (try dsimp only at hSw); go_simp; (try with_reducible rfl)
        try simp only [List.getElem_toArray, List.getElem_cons_succ, List.getElem_cons_zero, Act.put, List.setIfInBounds_toArray, List.set_cons_zero, List.set_cons_succ]
        refine wpAnyH_take (i := 12) (v := ?_) rfl (by kernel_rfl) (by kernel_rfl) (by kernel_rfl) (fun _ _ _ h => h) (Or.inl ⟨by rfl, fun w hSw => ?_⟩) (by assumption) ?_
        rotate_left
        · (try dsimp only at hSw); go_simp; (try with_reducible rfl)
        try simp only [List.getElem_toArray, List.getElem_cons_succ, List.getElem_cons_zero, Act.put, List.setIfInBounds_toArray, List.set_cons_zero, List.set_cons_succ]
        refine wpAnyH_take (i := 13) (v := ?_) rfl (by kernel_rfl) (by kernel_rfl) (by kernel_rfl) (fun _ _ _ h => h) (Or.inl ⟨by rfl, fun w hSw => ?_⟩) (by assumption) ?_
        rotate_left
        · (try dsimp only at hSw); go_simp; (try with_reducible rfl)
        try simp only [List.getElem_toArray, List.getElem_cons_succ, List.getElem_cons_zero, Act.put, List.setIfInBounds_toArray, List.set_cons_zero, List.set_cons_succ]
        refine wpAnyH_ready (rs := [14]) (by kernel_rfl) (by simp) ?_
        refine AllReadyH.cons rfl (fun K hK => ?_) ?_
        · go_simp
          (go_at_call 12; ((with_reducible refine (HPa.out _ DY3.out).mono ?_); rintro E Y4 ⟨rfl, hb⟩; have DY4 := Lib.hid (DY3.out.trans (hb.mono DY3.out.size)); clear hb))
          refine hK.out _ _ ?_ (fun hHeld => ?_)
          · exact HS.out _ DY4.out
          clear hK K
          try simp only [List.getElem_toArray, List.getElem_cons_succ, List.getElem_cons_zero, Act.put, List.setIfInBounds_toArray, List.set_cons_zero, List.set_cons_succ]
          refine wpAnyH_take (i := 15) (v := ?_) rfl (by kernel_rfl) (by kernel_rfl) (by kernel_rfl) (fun _ _ _ h => h) (Or.inl ⟨by rfl, fun w hSw => ?_⟩) (by assumption) ?_
          rotate_left
          · (try dsimp only at hSw); go_simp; (try with_reducible rfl)
          try simp only [List.getElem_toArray, List.getElem_cons_succ, List.getElem_cons_zero, Act.put, List.setIfInBounds_toArray, List.set_cons_zero, List.set_cons_succ]
          refine wpAnyH_take (i := 16) (v := ?_) rfl (by kernel_rfl) (by kernel_rfl) (by kernel_rfl) (fun _ _ _ h => h) (Or.inl ⟨by rfl, fun w hSw => ?_⟩) (by assumption) ?_
          rotate_left
          · (try dsimp only at hSw); go_simp; (try with_reducible rfl)
          try simp only [List.getElem_toArray, List.getElem_cons_succ, List.getElem_cons_zero, Act.put, List.setIfInBounds_toArray, List.set_cons_zero, List.set_cons_succ]
          refine wpAnyH_take (i := 17) (v := ?_) rfl (by kernel_rfl) (by kernel_rfl) (by kernel_rfl) (fun _ _ _ h => h) (Or.inl ⟨by rfl, fun w hSw => ?_⟩) (by assumption) ?_
          rotate_left
          · (try dsimp only at hSw); go_simp; (try with_reducible rfl)
          try simp only [List.getElem_toArray, List.getElem_cons_succ, List.getElem_cons_zero, Act.put, List.setIfInBounds_toArray, List.set_cons_zero, List.set_cons_succ]
          refine wpAnyH_take (i := 18) (v := ?_) rfl (by kernel_rfl) (by kernel_rfl) (by kernel_rfl) (fun _ _ _ h => h) (Or.inl ⟨by rfl, fun w hSw => ?_⟩) (by assumption) ?_
          rotate_left
          · (try dsimp only at hSw); go_simp; (try with_reducible rfl)
          try simp only [List.getElem_toArray, List.getElem_cons_succ, List.getElem_cons_zero, Act.put, List.setIfInBounds_toArray, List.set_cons_zero, List.set_cons_succ]
          refine wpAnyH_take (i := 19) (v := ?_) rfl (by kernel_rfl) (by kernel_rfl) (by kernel_rfl) (fun _ _ _ h => h) (Or.inl ⟨by rfl, fun w hSw => ?_⟩) (by assumption) ?_
          rotate_left
          · (try dsimp only at hSw); go_simp; (try with_reducible rfl)
          try simp only [List.getElem_toArray, List.getElem_cons_succ, List.getElem_cons_zero, Act.put, List.setIfInBounds_toArray, List.set_cons_zero, List.set_cons_succ]
          refine wpAnyH_ready (rs := [20]) (by kernel_rfl) (by simp) ?_
          refine AllReadyH.cons rfl (fun K hK => ?_) ?_
          · go_simp
            (go_at_call 12; ((with_reducible refine (HPb.out _ DY4.out).mono ?_); rintro E Y5 ⟨rfl, hb⟩; have DY5 := Lib.hid (DY4.out.trans (hb.mono DY4.out.size)); clear hb))
            refine hK.out _ _ ?_ (fun hHeld => ?_)
            · exact HS.out _ DY5.out
            clear hK K
            try simp only [List.getElem_toArray, List.getElem_cons_succ, List.getElem_cons_zero, Act.put, List.setIfInBounds_toArray, List.set_cons_zero, List.set_cons_succ]
            refine wpAnyH_take (i := 21) (v := ?_) rfl (by kernel_rfl) (by kernel_rfl) (by kernel_rfl) (fun _ _ _ h => h) (Or.inl ⟨by rfl, fun w hSw => ?_⟩) (by assumption) ?_
            rotate_left
            · (try dsimp only at hSw); go_simp; (try with_reducible rfl)
            try simp only [List.getElem_toArray, List.getElem_cons_succ, List.getElem_cons_zero, Act.put, List.setIfInBounds_toArray, List.set_cons_zero, List.set_cons_succ]
            refine wpAnyH_take (i := 22) (v := ?_) rfl (by kernel_rfl) (by kernel_rfl) (by kernel_rfl) (fun _ _ _ h => h) (Or.inl ⟨by rfl, fun w hSw => ?_⟩) (by assumption) ?_
            rotate_left
            · (try dsimp only at hSw); go_simp; (try with_reducible rfl)
            try simp only [List.getElem_toArray, List.getElem_cons_succ, List.getElem_cons_zero, Act.put, List.setIfInBounds_toArray, List.set_cons_zero, List.set_cons_succ]
            refine wpAnyH_take (i := 23) (v := ?_) rfl (by kernel_rfl) (by kernel_rfl) (by kernel_rfl) (fun _ _ _ h => h) (Or.inl ⟨by rfl, fun w hSw => ?_⟩) (by assumption) ?_
            rotate_left
            · (try dsimp only at hSw); go_simp; (try with_reducible rfl)
            try simp only [List.getElem_toArray, List.getElem_cons_succ, List.getElem_cons_zero, Act.put, List.setIfInBounds_toArray, List.set_cons_zero, List.set_cons_succ]
            refine wpAnyH_take (i := 24) (v := ?_) rfl (by kernel_rfl) (by kernel_rfl) (by kernel_rfl) (fun _ _ _ h => h) (Or.inl ⟨by rfl, fun w hSw => ?_⟩) (by assumption) ?_
            rotate_left
            · (try dsimp only at hSw); go_simp; (try with_reducible rfl)
            try simp only [List.getElem_toArray, List.getElem_cons_succ, List.getElem_cons_zero, Act.put, List.setIfInBounds_toArray, List.set_cons_zero, List.set_cons_succ]
            refine wpAnyH_take (i := 25) (v := ?_) rfl (by kernel_rfl) (by kernel_rfl) (by kernel_rfl) (fun _ _ _ h => h) (Or.inl ⟨by rfl, fun w hSw => ?_⟩) (by assumption) ?_
            rotate_left
            · (try dsimp only at hSw); go_simp; (try with_reducible rfl)
            try simp only [List.getElem_toArray, List.getElem_cons_succ, List.getElem_cons_zero, Act.put, List.setIfInBounds_toArray, List.set_cons_zero, List.set_cons_succ]
            refine wpAnyH_ready (rs := [26]) (by kernel_rfl) (by simp) ?_
            refine AllReadyH.cons rfl (fun K hK => ?_) ?_
            · go_simp
              have hb := Cmd.below_one Y5 (.cells #[.int .i64 0, .int .i64 2] 25)
              have EY6 := Lib.hid (heap_alloc_new Y5 (.cells #[.int .i64 0, .int .i64 2] 25))
              have DY6 := Lib.hid (DY5.out.trans (hb.mono DY5.out.size))
              clear hb
              refine hK.out _ _ ?_ (fun hHeld => ?_)
              · exact HS.out _ DY6.out
              clear hK K
              generalize Y5.alloc (.cells #[.int .i64 0, .int .i64 2] 25) = Y6 at EY6 DY6 hHeld ⊢
              try simp only [List.getElem_toArray, List.getElem_cons_succ, List.getElem_cons_zero, Act.put, List.setIfInBounds_toArray, List.set_cons_zero, List.set_cons_succ]
              refine wpAnyH_ready (rs := [27]) (by kernel_rfl) (by simp) ?_
              refine AllReadyH.cons rfl (fun K hK => ?_) ?_
              · go_simp
                (go_at_call 16; ((with_reducible refine (HWh.out _ DY6.out _ (one_id EY6.out)).mono ?_); rintro E Y7 ⟨rfl, hb⟩; have DY7 := Lib.hid (DY6.out.trans (hb.mono DY6.out.size)); clear hb))
                refine hK.out _ _ ?_ (fun hHeld => ?_)
                · exact HS.out _ DY7.out
                clear hK K
                try simp only [List.getElem_toArray, List.getElem_cons_succ, List.getElem_cons_zero, Act.put, List.setIfInBounds_toArray, List.set_cons_zero, List.set_cons_succ]
                refine wpAnyH_take (i := 28) (v := ?_) rfl (by kernel_rfl) (by kernel_rfl) (by kernel_rfl) (fun _ _ _ h => h) (Or.inl ⟨by rfl, fun w hSw => ?_⟩) (by assumption) ?_
                rotate_left
                · (try dsimp only at hSw); go_simp; (try with_reducible rfl)
                try simp only [List.getElem_toArray, List.getElem_cons_succ, List.getElem_cons_zero, Act.put, List.setIfInBounds_toArray, List.set_cons_zero, List.set_cons_succ]
                refine wpAnyH_take (i := 29) (v := ?_) rfl (by kernel_rfl) (by kernel_rfl) (by kernel_rfl) (fun _ _ _ h => h) (Or.inl ⟨by rfl, fun w hSw => ?_⟩) (by assumption) ?_
                rotate_left
                · (try dsimp only at hSw); go_simp; (try with_reducible rfl)
                try simp only [List.getElem_toArray, List.getElem_cons_succ, List.getElem_cons_zero, Act.put, List.setIfInBounds_toArray, List.set_cons_zero, List.set_cons_succ]
                refine wpAnyH_done (by kernel_rfl) ?_ _
                go_wp2
                go_ret
                exact ⟨rfl, HB6.out.trans (DY7.out.mono HB6.out.size)⟩
              exact AllReadyH.nil
            exact AllReadyH.nil
          exact AllReadyH.nil
        exact AllReadyH.nil
      exact AllReadyH.nil
    exact AllReadyH.nil
  exact AllReadyH.nil
end Go.Proofs.YtnekajpoheipiaaGreat.Rea
