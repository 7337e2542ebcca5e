/- What canon's Order gives (layer 18): all components in the canonical order. Conditions: those in each statement. -/
import Derived.Test.YtjokejcokgeeiaaGreatOdp
namespace Go.Proofs.YtjokejcokgeeiaaGreat.Can
open Go.RowKit Cmd Bat Ids Rec Wid Gra Rea Cps Mpg
set_option linter.unusedVariables false
set_option linter.unusedSimpArgs false

theorem held_join2 {P : Value → Value → World → Prop} {C : Value → Value → World → Prop} {Q : Prop} (h1 : (∀ o u Y, C o u Y → P o u Y) → Q) (h2 : ∀ o u Y, C o u Y → P o u Y) : Q := h1 h2
/-- The two rows that are made first. -/
structure Mk2 (rs : List Rcd) (W5 : World) (B m bo bp br : Nat) (rows : List Rw) (n : Nat) (u22 u25 : Value) (w : World) : Prop where
  ee : Ee rs W5 B m bo bp br rows w
  two : ∃ ub wb, u22 = .slice (some ⟨ub, 0, none⟩) n n ∧ u25 = .slice (some ⟨wb, 0, none⟩) n n ∧ w.ownsRow B 4 1 (.slice (some ⟨ub, 0, none⟩) n n) n (List.replicate n (.bool false)) ∧ w.ownsRow B 60 1 (.slice (some ⟨wb, 0, none⟩) n n) n (List.replicate n (.slice none 0 0))
theorem Om.start {rs : List Rcd} {W5 w : World} {B m bo bp br ub wb : Nat} {rows : List Rw} (ee : Ee rs W5 B m bo bp br rows w) (h1 : w.ownsRow B 4 1 (.slice (some ⟨ub, 0, none⟩) (ofG rs).length (ofG rs).length) (ofG rs).length (List.replicate (ofG rs).length (.bool false))) (h2 : w.ownsRow B 60 1 (.slice (some ⟨wb, 0, none⟩) (ofG rs).length (ofG rs).length) (ofG rs).length (List.replicate (ofG rs).length (.slice none 0 0))) :
    Om rs W5 B m bo bp br (w.heap.size + 1) wb ub rows (.slice (some ⟨w.heap.size, 0, none⟩) 0 0) [] (List.replicate (ofG rs).length ((none, 0, 0), [])) (.slice none 0 0) [] [] ((w.alloc (.cells #[] 3)).alloc (.cells #[.slice (some ⟨w.heap.size, 0, none⟩) 0 0] 61)) := by
  have b1 := Cmd.below_one w (.cells #[] 3)
  have b2 := Cmd.below_one (w.alloc (.cells #[] 3)) (.cells #[.slice (some ⟨w.heap.size, 0, none⟩) 0 0] 61)
  have b3 := b1.trans (b2.mono b1.size)
  have hB := ee.hi
  have hl : (List.replicate (ofG rs).length (((none, 0, 0), []) : Wtr)).length = (ofG rs).length := List.length_replicate
  have hg : ∀ i (hi : i < (List.replicate (ofG rs).length (((none, 0, 0), []) : Wtr)).length), (List.replicate (ofG rs).length (((none, 0, 0), []) : Wtr))[i] = ((none, 0, 0), []) := fun i hi => List.getElem_replicate ..
  refine ⟨ee.on b3, by unfold OwnB; rw [u_none]; exact own_below h1 b3, ⟨?_, own_below (Wd.Own.made (D := wdN) 3 w (by omega)) b2⟩, by omega, hl, by rw [List.map_replicate]; exact own_below h2 b3, fun i hi => ?_, fun i hi b e => ?_, fun i j hi hj _ b e => ?_, World.ownsRow_nil _ _ _ _, fun r hr => (by cases hr)⟩
  · have := heap_alloc_new (w.alloc (.cells #[] 3)) (.cells #[.slice (some ⟨w.heap.size, 0, none⟩) 0 0] 61)
    rw [World.size_alloc] at this; exact this
  · rw [hg i hi]; exact World.ownsRow_nil _ _ _ _
  · rw [hg i hi] at e; cases e
  · rw [hg i hi] at e; cases e
theorem set_back {op : List (List Idn)} {k : Nat} (hk : k < op.length) (c : List Idn) : (op.set k c).set k (nthL op k) = op := by
  rw [List.set_set]
  refine List.ext_getElem? fun j => ?_
  rw [List.getElem?_set]
  by_cases e : k = j
  · subst e; rw [if_pos rfl, if_pos hk]; unfold nthL; rw [List.getD_eq_getElem?_getD, List.getElem?_eq_getElem hk]; rfl
  · rw [if_neg e]
theorem placed {rs : List Rcd} (L : Lot rs) {i : Nat} (hi : i < (ofG rs).length) {d : Idn} (hd : d ∈ depsL rs (nthL (ofG rs) i)) : wfId d ∧ ∃ p, p < (ofG rs).length ∧ d ∈ nthL (ofG rs) p := by
  obtain ⟨y, hy, hd⟩ := depsL_mem.1 hd
  have hc := closed_dep (of_in (nthL_in hi) hy) hd
  obtain ⟨c, hcm, hdc⟩ := comp_cov hc
  obtain ⟨p, hp, rfl⟩ := in_nthL hcm
  exact ⟨closed_wf L d hc, p, hp, hdc⟩
/-- While a component's edges are looked at: the next one has been told, or there is none. -/
def Inn (rs : List Rcd) (W5 : World) (B m bo bp br tb wb ub : Nat) (v : Value) (ys : List Nat) (ws : List Wtr) (vo : Value) (os : List Rw) (loc : Nat → Loc) (tk : List Nat) (k F : Nat) (p : Nat) (b : Bool) (w : World) : Prop :=
  ∃ rows, Om rs W5 B m bo bp br tb wb ub rows v ys ws vo os tk w ∧ ((b = false ∧ Sk rs (ofG rs).length loc tk (k :: ys) (ws.map Prod.snd) (rows.map Prod.snd) ∧ nthL (rows.map Prod.snd) k = [] ∧ (rows.map Prod.snd).flatten.length ≤ F) ∨
    (b = true ∧ ∃ d, p < (ofG rs).length ∧ d ∈ nthL (ofG rs) p ∧ Sk rs (ofG rs).length loc tk (k :: ys) (ws.map Prod.snd) ((rows.map Prod.snd).set k (d :: nthL (rows.map Prod.snd) k)) ∧ (rows.map Prod.snd).flatten.length + 1 ≤ F))
theorem inn_next {rs : List Rcd} (L : Lot rs) {W5 : World} {B m bo bp br tb wb ub : Nat} {rows : List Rw} {v : Value} {ys : List Nat} {ws : List Wtr} {vo : Value} {os : List Rw} {loc : Nat → Loc} {tk : List Nat} {k F : Nat} {w : World} (h : Om rs W5 B m bo bp br tb wb ub rows v ys ws vo os tk w) (S : Sk rs (ofG rs).length loc tk (k :: ys) (ws.map Prod.snd) (rows.map Prod.snd)) (hF : (rows.map Prod.snd).flatten.length ≤ F) :
    Calls Tryz.prog 54 #[.int .i64 k, .pointer (some ⟨bo, 0, none⟩), .pointer (some ⟨bp, 0, none⟩)] w fun E w' => ∃ (p : Nat) (b : Bool), E = .returned (.tuple #[.int .i64 p, .bool b]) ∧ Inn rs W5 B m bo bp br tb wb ub v ys ws vo os loc tk k F p b w' := by
  have hk := ((S.lhs k).1 List.mem_cons_self).1
  have hkr : k < rows.length := by rw [h.ee.len]; exact hk
  refine (next_run rs W5 B m bo bp br rows k w h.ee hkr (fun d hd => placed L hk (S.sub k hk d hd)) (of_few L)).mono fun E w' ⟨hK, hc⟩ => ?_
  rcases hc with ⟨h1, h2, h3⟩ | ⟨d, ds, p, q, h1, h2, h3, h4, h5⟩
  · exact ⟨0, false, h2, rows, h.next hK h3, .inl ⟨rfl, S, h1, hF⟩⟩
  · have hm : (rows.set k (q, ds)).map Prod.snd = (rows.map Prod.snd).set k ds := List.map_set ..
    have hkl : k < (rows.map Prod.snd).length := by rw [List.length_map]; exact hkr
    refine ⟨p, true, h4, rows.set k (q, ds), h.next hK h5, .inr ⟨rfl, d, h2, h3, ?_, ?_⟩⟩
    · rw [hm, nthL_set hkl, if_pos rfl, List.set_set, ← h1, show (rows.map Prod.snd).set k (nthL (rows.map Prod.snd) k) = rows.map Prod.snd from by
        have := set_back hkl []; rw [List.set_set] at this; exact this]
      exact S
    · rw [hm]; have := flat_set h1; omega
theorem inn_drop {rs : List Rcd} {n : Nat} {rows : List Rw} {ys : List Nat} {wt : List (List Nat)} {loc : Nat → Loc} {tk : List Nat} {k p : Nat} {d : Idn} (S : Sk rs n loc tk (k :: ys) wt ((rows.map Prod.snd).set k (d :: nthL (rows.map Prod.snd) k))) (hp : p < n) (hd : d ∈ nthL (ofG rs) p) (hc : p = k ∨ p ∈ tk) : Sk rs n loc tk (k :: ys) wt (rows.map Prod.snd) := by
  have hk := ((S.lhs k).1 List.mem_cons_self).1
  have hl : k < (rows.map Prod.snd).length := by have := S.ol; rw [List.length_set] at this; omega
  have h := S.drop (d := d) (ds := nthL (rows.map Prod.snd) k) (by rw [nthL_set hl, if_pos rfl]) hp hd hc
  rwa [set_back hl] at h
theorem inn_wait {rs : List Rcd} {n : Nat} {rows : List Rw} {ys : List Nat} {wt : List (List Nat)} {loc : Nat → Loc} {tk : List Nat} {k p : Nat} {d : Idn} (S : Sk rs n loc tk (k :: ys) wt ((rows.map Prod.snd).set k (d :: nthL (rows.map Prod.snd) k))) (hp : p < n) (hd : d ∈ nthL (ofG rs) p) (h1 : p ≠ k) (h2 : p ∉ tk) : Sk rs n (updL loc k (.wait p)) tk ys (wt.set p (wt.getD p [] ++ [k])) (rows.map Prod.snd) := by
  have hk := ((S.lhs k).1 List.mem_cons_self).1
  have hl : k < (rows.map Prod.snd).length := by have := S.ol; rw [List.length_set] at this; omega
  have h := S.wait (d := d) (ds := nthL (rows.map Prod.snd) k) (by rw [nthL_set hl, if_pos rfl]) hp hd h1 h2
  rwa [set_back hl] at h
theorem wt_few {rs : List Rcd} {n : Nat} {loc : Nat → Loc} {tk hs : List Nat} {ws : List Wtr} {op : List (List Idn)} (S : Sk rs n loc tk hs (ws.map Prod.snd) op) {p : Nat} (hp : p < ws.length) (hg : p ∉ tk) : ws[p].2.length ≤ n ∧ (ws.map Prod.snd).getD p [] = ws[p].2 := by
  have hpn : p < n := by have := S.wl; rw [List.length_map] at this; omega
  have hl : loc p ≠ .gone := fun e => hg ((S.ltk p).2 ⟨hpn, e⟩)
  have e : (ws.map Prod.snd).getD p [] = ws[p].2 := by rw [List.getD_eq_getElem?_getD, List.getElem?_map, List.getElem?_eq_getElem hp]; rfl
  have h1 := S.nwt p hpn hl
  have h2 := S.lwt p hpn hl
  rw [e] at h1 h2
  exact ⟨nodup_low h1 fun i hi => ((h2 i).1 hi).1, e⟩
theorem heads {W : World} {B : Nat} {v : Value} {ys : List Nat} (h : OwnN W B v ys) : ∃ p cap, v = .slice p ys.length cap := wd_shape h
set_option maxRecDepth 100000 in
set_option maxHeartbeats 16000000 in
theorem order_go (gp : Option Addr) (rs : List Rcd) (W : World) (HO : Calls Tryz.prog 23 #[.pointer gp] W (GivesLL (ofG rs) W)) (HR : RecIs gp rs W) (L : Lot rs) :
    Calls Tryz.prog 9 #[.pointer gp] W (GivesLL (orderG rs) W) := by
  have HOf := Lib.hid HO
  have HRc := Lib.hid HR
  have HLt := Lib.hid L
  have hmk := make_row (t := 57) (e := 4) (z := .bool false) (bytes := 1) Tryz.underlying57 (by kernel_rfl) rfl (by decide)
  have hmk' := make_row (t := 58) (e := 60) (z := .slice none 0 0) (bytes := 24) Tryz.underlying58 (by kernel_rfl) rfl (by decide)
  clear HO HR L
  go_enter Tryz.func9, Tryz.ntmps9
  go_wp2
  go_step3
  go_wp2_with (first
    | (go_at_call 23; (with_reducible refine HOf.out.mono ?_); rintro E w1 ⟨v1, rfl, hr, hb⟩; obtain ⟨p1, k1, rfl, hnn, -⟩ := hr.parts; have HA1 := Lib.hid hr; have HB1 := Lib.hid hb; have HEach := Lib.hid (each_run gp _ rs w1 (HRc.out.on hb) HLt.out hr); clear hr hb)
    | (go_at_call 24; (with_reducible refine HEach.out.mono ?_); rintro E w2 ⟨m, bo, bp, br, rows, rfl, hfull, hee⟩; have HFl := Lib.hid hfull; have HEe := Lib.hid hee; clear hfull hee HEach)
    | fail)
  obtain ⟨n, hn⟩ : ∃ n, n = (ofG rs).length := ⟨_, rfl⟩
  have HN := Lib.hid hn
  have HNL : Hid ((ofG rs).length ≤ 1000) := Lib.hid (of_few HLt.out)
  have hn1 : n ≤ 1000 := by rw [hn]; exact HNL.out
  have hmk1 := hmk n (by omega)
  have hmk2 := hmk' n (by omega)
  rw [← hn]
  have EE0 : Hid (Ee rs w1 w2.heap.size m bo bp br rows w2.drew) := Lib.hid (HEe.out.on (Below.refl _ _).drew)
  have HZ : Hid (w2.heap.size ≤ w2.drew.heap.size) := Lib.hid (Nat.le_refl _)
  clear hmk hmk' hn hnn
  go_wp2_with fail
  refine wp_region_held_drew (S := (fun _ => True)) (by kernel_rfl) (trivial) (fun hHeld => ?_)
  generalize w2.drew = Y0 at EE0 HZ hHeld ⊢
  refine ty (v := ?_) 0 (fun w hSw => ?_) ?_
  rotate_left
  · (try dsimp only at hSw); go_simp; (try with_reducible rfl)
  try simp only [List.getElem_toArray, List.getElem_cons_succ, List.getElem_cons_zero, Act.put, List.setIfInBounds_toArray, List.set_cons_zero, List.set_cons_succ]
  refine ty (v := ?_) 1 (fun w hSw => ?_) ?_
  rotate_left
  · (try dsimp only at hSw); go_simp; (try with_reducible rfl)
  try simp only [List.getElem_toArray, List.getElem_cons_succ, List.getElem_cons_zero, Act.put, List.setIfInBounds_toArray, List.set_cons_zero, List.set_cons_succ]
  refine ty (v := ?_) 3 (fun w hSw => ?_) ?_
  rotate_left
  · (try dsimp only at hSw); go_simp; (try with_reducible rfl)
  try simp only [List.getElem_toArray, List.getElem_cons_succ, List.getElem_cons_zero, Act.put, List.setIfInBounds_toArray, List.set_cons_zero, List.set_cons_succ]
  refine ty (v := ?_) 4 (fun w hSw => ?_) ?_
  rotate_left
  · (try dsimp only at hSw); go_simp; (try with_reducible rfl)
  try simp only [List.getElem_toArray, List.getElem_cons_succ, List.getElem_cons_zero, Act.put, List.setIfInBounds_toArray, List.set_cons_zero, List.set_cons_succ]
  apply held_join2 (C := fun o u Y => Hid (Mk2 rs w1 w2.heap.size m bo bp br rows n o u Y))
  case h1 =>
    intro tail
    refine wpAnyH_ready (rs := [2, 5]) (by kernel_rfl) (by simp) ?_
    refine AllReadyH.cons rfl (fun K hK => ?_) ?_
    · go_simp
      have E1 := Lib.hid (EE0.out.on (Cmd.below_one Y0 (.cells (madeCells #[.bool false] n) 4)))
      have O1 := Lib.hid (own_row_made (e := 4) (z := .bool false) n (by omega) (W := Y0) HZ.out)
      have Z1 : Hid (w2.heap.size ≤ (Y0.alloc (.cells (madeCells #[.bool false] n) 4)).heap.size) := Lib.hid (by have := HZ.out; simp only [World.size_alloc]; omega)
      refine hK.out _ _ ?_ (fun hHeld => ?_)
      · trivial
      clear hK K
      try simp only [List.getElem_toArray, List.getElem_cons_succ, List.getElem_cons_zero, Act.put, List.setIfInBounds_toArray, List.set_cons_zero, List.set_cons_succ]
      generalize Y0.alloc (.cells (madeCells #[.bool false] n) 4) = Y1 at E1 O1 Z1 hHeld ⊢
      refine ty (v := ?_) 6 (fun w hSw => ?_) ?_
      rotate_left
      · (try dsimp only at hSw); go_simp; (try with_reducible rfl)
      try simp only [List.getElem_toArray, List.getElem_cons_succ, List.getElem_cons_zero, Act.put, List.setIfInBounds_toArray, List.set_cons_zero, List.set_cons_succ]
      refine tr 5 (fun K hK => ?_)
      go_simp
      have hC : Hid (Mk2 rs w1 w2.heap.size m bo bp br rows n (.slice (some ⟨Y0.heap.size, 0, none⟩) n n) (.slice (some ⟨Y1.heap.size, 0, none⟩) n n) (Y1.alloc (.cells (madeCells #[.slice none 0 0] n) 60))) := Lib.hid ⟨E1.out.on (Cmd.below_one _ _), _, _, rfl, rfl, own_below O1.out (Cmd.below_one _ _), own_row_made (e := 60) n (by omega) Z1.out⟩
      refine hK.out _ _ ?_ (fun hHeld => ?_)
      · trivial
      clear hK K
      try simp only [List.getElem_toArray, List.getElem_cons_succ, List.getElem_cons_zero, Act.put, List.setIfInBounds_toArray, List.set_cons_zero, List.set_cons_succ]
      refine to_listed (L' := #[true, true, true, true, true, true, true, false]) (f' := 1) (by kernel_rfl) (by kernel_rfl) ?_
      generalize Y1.alloc (.cells (madeCells #[.slice none 0 0] n) 60) = Y9 at hC ⊢
      generalize Value.slice (some ⟨Y0.heap.size, 0, none⟩) n n = o9 at hC ⊢
      generalize Value.slice (some ⟨Y1.heap.size, 0, none⟩) n n = u9 at hC ⊢
      exact tail o9 u9 Y9 hC
    refine AllReadyH.cons rfl (fun K hK => ?_) ?_
    · go_simp
      have E1 := Lib.hid (EE0.out.on (Cmd.below_one Y0 (.cells (madeCells #[.slice none 0 0] n) 60)))
      have O1 := Lib.hid (own_row_made (e := 60) (z := .slice none 0 0) n (by omega) (W := Y0) HZ.out)
      have Z1 : Hid (w2.heap.size ≤ (Y0.alloc (.cells (madeCells #[.slice none 0 0] n) 60)).heap.size) := Lib.hid (by have := HZ.out; simp only [World.size_alloc]; omega)
      refine hK.out _ _ ?_ (fun hHeld => ?_)
      · trivial
      clear hK K
      try simp only [List.getElem_toArray, List.getElem_cons_succ, List.getElem_cons_zero, Act.put, List.setIfInBounds_toArray, List.set_cons_zero, List.set_cons_succ]
      generalize Y0.alloc (.cells (madeCells #[.slice none 0 0] n) 60) = Y1 at E1 O1 Z1 hHeld ⊢
      refine tr 2 (fun K hK => ?_)
      go_simp
      have hC : Hid (Mk2 rs w1 w2.heap.size m bo bp br rows n (.slice (some ⟨Y1.heap.size, 0, none⟩) n n) (.slice (some ⟨Y0.heap.size, 0, none⟩) n n) (Y1.alloc (.cells (madeCells #[.bool false] n) 4))) := Lib.hid ⟨E1.out.on (Cmd.below_one _ _), _, _, rfl, rfl, own_row_made (e := 4) n (by omega) Z1.out, own_below O1.out (Cmd.below_one _ _)⟩
      refine hK.out _ _ ?_ (fun hHeld => ?_)
      · trivial
      clear hK K
      try simp only [List.getElem_toArray, List.getElem_cons_succ, List.getElem_cons_zero, Act.put, List.setIfInBounds_toArray, List.set_cons_zero, List.set_cons_succ]
      refine ty (v := ?_) 6 (fun w hSw => ?_) ?_
      rotate_left
      · (try dsimp only at hSw); go_simp; (try with_reducible rfl)
      try simp only [List.getElem_toArray, List.getElem_cons_succ, List.getElem_cons_zero, Act.put, List.setIfInBounds_toArray, List.set_cons_zero, List.set_cons_succ]
      refine to_listed (L' := #[true, true, true, true, true, true, true, false]) (f' := 1) (by kernel_rfl) (by kernel_rfl) ?_
      generalize Y1.alloc (.cells (madeCells #[.bool false] n) 4) = Y9 at hC ⊢
      generalize Value.slice (some ⟨Y1.heap.size, 0, none⟩) n n = o9 at hC ⊢
      generalize Value.slice (some ⟨Y0.heap.size, 0, none⟩) n n = u9 at hC ⊢
      exact tail o9 u9 Y9 hC
    exact AllReadyH.nil
  intro u22 u25 Y2 hC
  have hHeld : (fun _ => True) Y2 := trivial
  obtain ⟨ub, wb, rfl, rfl, ho1, ho2⟩ := hC.out.two
  refine ty (v := ?_) 7 (fun w hSw => ?_) ?_
  rotate_left
  · (try dsimp only at hSw); go_simp; (try with_reducible rfl)
  try simp only [List.getElem_toArray, List.getElem_cons_succ, List.getElem_cons_zero, Act.put, List.setIfInBounds_toArray, List.set_cons_zero, List.set_cons_succ]
  refine wpAnyH_done (by kernel_rfl) ?_ _
  have HOm0 := Lib.hid (Om.start hC.out.ee (by rw [← HN.out]; exact ho1) (by rw [← HN.out]; exact ho2))
  have HSz : Hid (w2.heap.size ≤ Y2.heap.size) := Lib.hid hC.out.ee.hi.2.2.2.2.2.2.2
  clear ho1 ho2 hC hmk1 hmk2 EE0 HZ hHeld HEe
  go_wp2_with fail
  generalize (Y2.alloc (.cells #[] 3)).alloc (.cells #[.slice (some ⟨Y2.heap.size, 0, none⟩) 0 0] 61) = Y3 at HOm0 ⊢
  generalize Value.slice (some ⟨Y2.heap.size, 0, none⟩) 0 0 = v0 at HOm0 ⊢
  generalize Y2.heap.size + 1 = tb at HOm0 ⊢
  have hti := as_int
  go_loopw [30] (fun i wr => ∃ (k : Nat) (v : Value) (ys : List Nat), i = .int .i64 k ∧ k ≤ n ∧ Hid (Om rs w1 w2.heap.size m bo bp br tb wb ub rows v ys (List.replicate (ofG rs).length ((none, 0, 0), [])) (.slice none 0 0) [] [] wr) ∧ Hid (ys.Perm (List.range k) ∧ Hpy ys ys.length)) (fun i _ => n - (intOf i).toNat)
  case atStart => exact ⟨0, v0, [], rfl, Nat.zero_le _, HOm0, Lib.hid ⟨List.Perm.refl _, fun j h1 h2 => absurd h2 (Nat.not_lt_zero _)⟩⟩
  case round =>
    clear HOm0 HSz
    obtain ⟨k, v, ys, rfl, hk, hO, hP⟩ := hrel
    have k0 : (0 : Int) ≤ k := by omega
    by_cases hkn : k < n
    · have kn : (k : Int) < n := by omega
      have HPu := Lib.hid (hpush_any tb w2.heap.size v k ys wr hO.out.tr hP.out.2 hO.out.hB.2.2.2.2 (by have := hP.out.1.length_eq; rw [List.length_range] at this; omega))
      go_wp2_with (first
        | (go_at_call 25; (with_reducible refine HPu.out.mono ?_); rintro E w4 ⟨rfl, v4, y4, hr4, hp4, hy4, ht4, hv4⟩; have HO4 := Lib.hid (hO.out.heap ht4 hr4 hv4); have HP4 : Hid (y4.Perm (List.range (k + 1)) ∧ Hpy y4 y4.length) := Lib.hid ⟨by rw [List.range_succ]; exact hp4.trans (List.Perm.append_right [k] hP.out.1), hy4⟩; clear hr4 hp4 hy4 ht4 hv4)
        | fail)
      go_roundw
      case rel => exact ⟨k + 1, v4, y4, by go_num, by omega, HO4, HP4⟩
      case measure => simp [intOf]; omega
    · have kn : ¬ (k : Int) < n := by omega
      have hke : k = n := by omega
      have HSk : Hid (Sk rs (ofG rs).length (fun _ => .trial) [] ys ((List.replicate (ofG rs).length (((none, 0, 0), []) : Wtr)).map Prod.snd) (rows.map Prod.snd)) := Lib.hid (by
        rw [HFl.out, List.map_replicate]
        refine (Sk.start rs).perm ?_
        have := hP.out.1
        rwa [hke, HN.out] at this)
      have HPy := Lib.hid hP.out.2
      clear hP hke
      have HAI : Hid (n = 0 ∨ ∃ B off, p1 = some ⟨B, off, none⟩ ∧ Hid (layLL.In w1 B off (ofG rs))) := Lib.hid (by
        obtain ⟨p', c', e, -, h5⟩ := HA1.out.parts
        injection e with e1 e2 e3
        subst e1
        rw [HN.out]; exact h5)
      have HEG := enters_of Tryz.func54 (by kernel_rfl) rfl
      go_wp2
      go_step3
      go_wp2_with fail
      obtain ⟨N0, hN0⟩ : ∃ N0, Hid (todoS n [] (rows.map Prod.snd) ≤ N0) := ⟨_, Lib.hid (Nat.le_refl _)⟩
      go_loopg [9] N0 (fun gk o wr => ∃ (loc : Nat → Loc) (tk ys : List Nat) (v : Value) (ws : List Wtr) (rows : List Rw) (os : List Rw), Hid (Om rs w1 w2.heap.size m bo bp br tb wb ub rows v ys ws o os tk wr) ∧ Hid (Sk rs (ofG rs).length loc tk ys (ws.map Prod.snd) (rows.map Prod.snd)) ∧ Hid (Hpy ys ys.length) ∧ Hid (os.map Prod.snd = tk.map (nthL (ofG rs))) ∧ Hid (todoS n tk (rows.map Prod.snd) ≤ gk))
      case atStart => exact ⟨_, [], ys, v, _, rows, [], hO, HSk, HPy, Lib.hid rfl, hN0⟩
      case round =>
        clear hN0 hO HSk HPy kn hkn hk k0 HFl HA1
        obtain ⟨loc, tk, ys, v, ws, rows, os, hO, hS, hPy, hOs, hT⟩ := hrel
        obtain ⟨gko, hgko⟩ : ∃ x, x = gk := ⟨gk, rfl⟩
        subst hgko
        have hbx := hO.out.tr.cell
        obtain ⟨pv, cv, hv⟩ := heads hO.out.tr.own
        obtain ⟨s, hs⟩ : ∃ s, s = ys.length := ⟨_, rfl⟩
        rw [← hs] at hv
        subst hv
        have HSl := Lib.hid hs
        have HLen := Lib.hid (hlen_any pv s cv wr)
        clear hs
        cases s with
        | zero =>
          have hz : ys = [] := List.eq_nil_of_length_eq_zero HSl.out.symm
          subst hz
          have HFin : Hid (os.map Prod.snd = orderG rs) := Lib.hid (by rw [hOs.out]; exact hS.out.fin.symm)
          go_wp2_with (first
            | (go_at_call 26; (with_reducible refine HLen.out.mono ?_); rintro E w5 ⟨rfl, hw5⟩; obtain rfl := hw5.symm)
            | fail)
          rw [Exit.noGoto_ret]
          go_ret
          exact ⟨_, rfl, by rw [← HFin.out]; exact rowLL hO.out.vo.row (fun r hr => (hO.out.orow r hr).1), HB1.out.trans (hO.out.low.mono HB1.out.size)⟩
        | succ s =>
          have s0 : (s : Int) + 1 > 0 := by omega
          have HYl : Hid (s + 1 ≤ 1000) := Lib.hid (by
            have h1 := nodup_low hS.out.nhs fun i hi => ((hS.out.lhs i).1 hi).1
            have h2 := HSl.out
            have h3 := HNL.out
            omega)
          have HPo := Lib.hid (hpop_any tb w2.heap.size s (.slice pv (s + 1) cv) ys wr hO.out.tr hPy.out HSl.out.symm (by have := HYl.out; omega))
          have HMin : Hid (∀ j ∈ ys, ys.getD 0 0 ≤ j) := Lib.hid fun j hj => by
            obtain ⟨i, hi, e⟩ := List.getElem_of_mem hj
            have := hPy.out.min i hi
            rw [getD_at hi, e] at this; exact this
          have hH : ∀ w' v' ys', HTurn tb (.slice pv (s + 1) cv) wr w' → RowQ w' w2.heap.size tb v' ys' → v'.ownBlock = (Value.slice pv (s + 1) cv).ownBlock → Om rs w1 w2.heap.size m bo bp br tb wb ub rows v' ys' ws u9 os tk w' := fun w' v' ys' h1 h2 h3 => hO.out.heap h1 h2 (.inl h3)
          have HH := Lib.hid hH
          generalize ys.getD 0 0 = t at HPo HMin
          clear hH
          obtain ⟨F0, hF0⟩ : ∃ F0, F0 = (rows.map Prod.snd).flatten.length := ⟨_, rfl⟩
          have HF0 := Lib.hid hF0
          clear hF0
          go_wp2_with (first
            | (go_at_call 26; (with_reducible refine HLen.out.mono ?_); rintro E w5 ⟨rfl, hw5⟩; obtain rfl := hw5.symm)
            | (go_at_call 27; (with_reducible refine HPo.out.mono ?_); rintro E w6 ⟨rfl, v6, y6, hr6, hp6, hy6, ht6, hv6⟩
               have HO6 := Lib.hid (HH.out w6 v6 y6 ht6 hr6 hv6)
               have HS6 := Lib.hid (hS.out.perm hp6)
               have HY6 : Hid (Hpy y6 y6.length ∧ ∀ j ∈ y6, t ≤ j) := Lib.hid ⟨hy6, fun j hj => HMin.out j (hp6.mem_iff.1 (List.mem_cons_of_mem _ hj))⟩
               have HN6 := Lib.hid (inn_next HLt.out HO6.out HS6.out (F := F0) (by rw [HF0.out]; exact Nat.le_refl _))
               clear hr6 hp6 hy6 ht6 hv6)
            | (go_at_call 54; (with_reducible refine HN6.out.mono ?_); rintro E w7 ⟨p, b, rfl, hi7⟩; have HI7 := Lib.hid hi7; clear hi7)
            | fail)
          go_loopg [11, 12] F0 (fun kk s11 s12 wr => ∃ (p : Nat) (b : Bool), s11 = .int .i64 p ∧ s12 = .bool b ∧ kk ≤ F0 ∧ Hid (Inn rs w1 w2.heap.size m bo bp br tb wb ub v6 y6 ws u9 os loc tk t kk p b wr))
          case atStart => exact ⟨p, b, rfl, rfl, Nat.le_refl _, HI7⟩
          case round =>
            clear HI7 HPo HLen hbx s0 HH
            obtain ⟨p, b, rfl, rfl, hkk, hI⟩ := hrel
            obtain ⟨rows7, hO7, hcs⟩ := hI.out
            have HO7 := Lib.hid hO7
            have hTn : Hid (t < n) := Lib.hid (by rw [HN.out]; exact ((HS6.out.lhs t).1 List.mem_cons_self).1)
            have t0 : (0 : Int) ≤ t := by omega
            have t1 : (t : Int) < n := by have := hTn.out; omega
            clear hI hO7
            cases b with
            | true =>
              obtain ⟨-, d, hp, hdp, hS7, hfl⟩ := hcs.resolve_left (fun h => by cases h.1)
              have HS7 := Lib.hid hS7
              have HP7 := Lib.hid (And.intro hp hdp)
              have HFl7 := Lib.hid hfl
              have pi0 : (0 : Int) ≤ p := by omega
              have pi1 : (p : Int) < n := by rw [HN.out]; omega
              clear hcs hS7 hfl hp hdp
              by_cases hpt : p = t
              · subst hpt
                have HN8 := Lib.hid (inn_next HLt.out HO7.out (inn_drop HS7.out HP7.out.1 HP7.out.2 (.inl rfl)) (F := gk - 1) (by have := HFl7.out; omega))
                have hne : ((p : Int) != (p : Int)) = false := by simp
                go_wp2_with (first
                  | (go_at_call 54; (with_reducible refine HN8.out.mono ?_); rintro E w8 ⟨p8, b8, rfl, hi8⟩; have HI8 := Lib.hid hi8; clear hi8)
                  | fail)
                go_roundg (gk - 1)
                case measure => have := HFl7.out; omega
                case rel => exact ⟨p8, b8, rfl, rfl, by omega, HI8⟩
              · have hne : ((p : Int) != (t : Int)) = true := by simp; omega
                have c4 := ob_cell HO7.out.tk HP7.out.1
                by_cases htk : p ∈ tk
                · rw [decide_eq_true htk] at c4
                  have HN8 := Lib.hid (inn_next HLt.out HO7.out (inn_drop HS7.out HP7.out.1 HP7.out.2 (.inr htk)) (F := gk - 1) (by have := HFl7.out; omega))
                  clear htk hpt
                  go_wp2_with (first
                    | (go_at_call 54; (with_reducible refine HN8.out.mono ?_); rintro E w8 ⟨p8, b8, rfl, hi8⟩; have HI8 := Lib.hid hi8; clear hi8)
                    | fail)
                  go_roundg (gk - 1)
                  case measure => have := HFl7.out; omega
                  case rel => exact ⟨p8, b8, rfl, rfl, by omega, HI8⟩
                · rw [decide_eq_false htk] at c4
                  have hwl : p < ws.length := by rw [HO7.out.wl]; exact HP7.out.1
                  have hfw := wt_few HS7.out hwl htk
                  have HSw := inn_wait HS7.out HP7.out.1 HP7.out.2 hpt htk
                  rw [hfw.2] at HSw
                  have c5 := (HO7.out.wcell hwl).1
                  have hb1 := Cmd.below_one wr (.cells #[.int .i64 (t : Int)] 3)
                  have HOa := HO7.out.on hb1
                  have HG := Lib.hid (grow_wd wtN (wr.alloc (.cells #[.int .i64 (t : Int)] 3)) 60 w2.heap.size (sliceOf ws[p].1) ws[p].2 (HOa.wi p hwl) HOa.hB.2.2.2.2 wr.heap.size t #[.int .i64 (t : Int)] rfl (heap_alloc_new wr _) (by have h1 := hfw.1; have h2 := HNL.out; omega))
                  have HWt := Lib.hid (fun w' (q : Slc) h1 h2 h3 => HOa.wait (w' := w') (q := q) (x := t) hwl h1 h2 h3)
                  have HMap : Hid (∀ q : Slc, (ws.set p (q, ws[p].2 ++ [t])).map Prod.snd = (ws.map Prod.snd).set p (ws[p].2 ++ [t])) := Lib.hid fun q => List.map_set ..
                  have HSk8 := Lib.hid HSw
                  have hpl : (ws.map Prod.snd).getD p [] = ws[p].2 := hfw.2
                  clear hpl HSw hfw hb1 HOa
                  generalize ws[p].2 ++ [t] = wn at HG HWt HMap HSk8
                  obtain ⟨⟨qp, np, cp⟩, hq⟩ : ∃ q, ws[p].1 = q := ⟨_, rfl⟩
                  rw [hq] at c5 HG HWt
                  have c6 : wr.cell? ⟨wb, p, none⟩ = some (.slice qp np cp) := c5
                  have HG2 : Hid (∃ v' w', (Builtin.append_ #[60, 60] 60 #[.slice qp np cp, .slice (some ⟨wr.heap.size, 0, none⟩) 1 1]).run Tryz.prog (wr.alloc (.cells #[.int .i64 (t : Int)] 3)) = .ok v' w' ∧ (wdN.Own 3 w' w2.heap.size v' wn ∧ (wr.alloc (.cells #[.int .i64 (t : Int)] 3)).grownBy w' (sliceOf (qp, np, cp)).ownBlock ∧ (v'.ownBlock = (sliceOf (qp, np, cp)).ownBlock ∨ v'.ownBlock = some (wr.alloc (.cells #[.int .i64 (t : Int)] 3)).heap.size))) := HG
                  clear c5 HG hpt htk hq
                  go_wp2_with (first
                    | (at_builtin; refine wp_app rfl _ _ 60 rfl _ _ rfl rfl HG2.out ?_; intro v8 w8 HV8
                       obtain ⟨p8, k8, hv8⟩ := wd_shape HV8.out.1
                       generalize wn.length = n8 at hv8
                       subst hv8
                       have HO8 := Lib.hid (HWt.out w8 (p8, n8, k8) HV8.out.2.1 HV8.out.1 HV8.out.2.2)
                       have d0 : w8.cell? ⟨wb, p, none⟩ = some (.slice qp np cp) := HO8.out.1.1
                       have d1 := HO8.out.1.2)
                    | fail)
                  go_roundg (gko - 1)
                  case measure =>
                    have h1 := HFl7.out
                    have h2 := HF0.out
                    have h3 := hT.out
                    unfold todoS at h3
                    omega
                  case rel => exact ⟨_, tk, y6, v6, _, rows7, os, Lib.hid HO8.out.2, Lib.hid (by rw [HMap.out]; exact HSk8.out), Lib.hid HY6.out.1, hOs, Lib.hid (by
                    have h1 := HFl7.out
                    have h2 := HF0.out
                    have h3 := hT.out
                    unfold todoS at h3 ⊢
                    omega)⟩
            | false =>
              obtain ⟨-, hS7, hnil, hF7⟩ := hcs.resolve_right (fun h => by cases h.1)
              have hTl : t < (ofG rs).length := by rw [← HN.out]; exact hTn.out
              have HTl := Lib.hid hTl
              have hTt : t ∉ tk := fun h => by
                have h1 := ((hS7.ltk t).1 h).2
                rw [((hS7.lhs t).1 List.mem_cons_self).2] at h1; cases h1
              have hwl : t < ws.length := by rw [HO7.out.wl]; exact hTl
              have HWf := Lib.hid (wt_few hS7 hwl hTt)
              have HTake := Lib.hid (fun hs' (hp : hs'.Perm (y6 ++ ws[t].2)) => hS7.take (hs' := hs') hnil HY6.out.2 (by rw [HWf.out.2]; exact hp))
              have HYl6 : Hid (y6.length ≤ 1000) := Lib.hid (by
                have h1 := nodup_low hS7.nhs fun i hi => ((hS7.lhs i).1 hi).1
                have h3 := HNL.out
                rw [List.length_cons] at h1
                omega)
              have HTk : Hid (tk.length + 1 ≤ n) := Lib.hid (by
                have h1 := (hS7.take hnil HY6.out.2 (List.Perm.refl _)).tkl
                rw [List.length_append, List.length_singleton] at h1
                rw [HN.out]; exact h1)
              have HF7 := Lib.hid hF7
              have c4 := ob_cell HO7.out.tk hTl
              have f4 := ob_free (k := t) HO7.out.tk
              have hO8 := HO7.out.take hTl
              obtain ⟨B1, off1, rfl, HC1⟩ := HAI.out.resolve_left (by omega)
              obtain ⟨q1, cq1, d0', hrow1⟩ := llAt HC1.out hTl
              obtain ⟨s1, hs1⟩ : ∃ s1, s1 = ((ofG rs).getD t []).length := ⟨_, rfl⟩
              rw [← hs1] at d0' hrow1
              have hblk : ∀ b, (sliceOf (q1, s1, cq1)).ownBlock = some b → b < w1.heap.size := fun b e => by
                obtain ⟨p', c', e', -, -, -, h3⟩ := hrow1
                obtain ⟨b', off', rfl, hlt, -⟩ := h3 (comp_some (nthL_in hTl))
                injection e' with e1 e2 e3
                subst e1
                injection e with e; subst e; exact hlt
              have d0 := (hO8.low.cell (p := ⟨B1, off1 + t, none⟩) (World.block_lt_of_cell? _ _ d0')).trans d0'
              have hb1 := Cmd.below_one (wr.setCell ⟨ub, t, none⟩ (.bool true)) (.cells #[.slice q1 s1 cq1] 38)
              have hOA := hO8.on hb1
              have hsz : (wr.setCell ⟨ub, t, none⟩ (.bool true)).heap.size = wr.heap.size := size_sc _ _ _
              have hG := grow_wd wtRw ((wr.setCell ⟨ub, t, none⟩ (.bool true)).alloc (.cells #[.slice q1 s1 cq1] 38)) 30 w2.heap.size u9 os hOA.vo hOA.hB.2.2.2.2 (wr.setCell ⟨ub, t, none⟩ (.bool true)).heap.size ((q1, s1, cq1), nthL (ofG rs) t) #[.slice q1 s1 cq1] rfl (heap_alloc_new _ _) (by
                have h1 := congrArg List.length hOs.out
                rw [List.length_map, List.length_map] at h1
                have h2 := HTk.out
                omega)
              rw [hsz] at hG
              have HG := Lib.hid hG
              have HSn := Lib.hid (fun v' w' h1 h2 => hOA.snoc (w' := w') (vo' := v') (r := ((q1, s1, cq1), nthL (ofG rs) t)) h1 h2 (hrow1.on (hOA.low)) hblk)
              obtain ⟨⟨qt, nt, ct⟩, hq⟩ : ∃ q, ws[t].1 = q := ⟨_, rfl⟩
              have HQ := Lib.hid hq
              have HWl := Lib.hid hwl
              have hnt : nt = ws[t].2.length := by
                have h1 := HO7.out.wi t hwl
                rw [hq] at h1
                obtain ⟨p', c', e⟩ := wd_shape h1
                have e : Value.slice qt nt ct = .slice p' ws[t].2.length c' := e
                injection e
              have HNt := Lib.hid hnt
              clear hcs hS7 hnil hF7 hTl hTt hO8 hrow1 hs1 hblk d0' hb1 hOA hG hq hnt hsz
              go_wp2_with (first
                | (at_builtin; refine wp_app rfl _ _ 30 rfl _ _ rfl rfl HG.out ?_; intro v9 w9 HV9
                   have hO9 := HSn.out v9 w9 HV9.out.2.1 HV9.out.1
                   have HO9 := Lib.hid hO9
                   have c9 := (hO9.wcell HWl.out).1
                   rw [HQ.out] at c9
                   have c9' : w9.cell? ⟨wb, t, none⟩ = some (.slice qt nt ct) := c9
                   clear hO9 c9)
                | fail)
              have hnn9 : nt ≤ 1000 := by have h1 := HNt.out; have h2 := HWf.out.1; have h3 := HNL.out; omega
              go_loopw [96] (fun i wr => ∃ (j : Nat) (v : Value) (ys : List Nat), i = .int .i64 j ∧ j ≤ nt ∧ Hid (Om rs w1 w2.heap.size m bo bp br tb wb ub rows7 v ys ws v9 (os ++ [((q1, s1, cq1), nthL (ofG rs) t)]) (tk ++ [t]) wr) ∧ Hid (ys.Perm (y6 ++ ws[t].2.take j) ∧ Hpy ys ys.length)) (fun i _ => nt - (intOf i).toNat)
              case atStart => exact ⟨0, v6, y6, rfl, Nat.zero_le _, HO9, Lib.hid ⟨by rw [List.take_zero, List.append_nil], HY6.out.1⟩⟩
              case round =>
                clear HO9 c9' c4 f4 d0
                obtain ⟨j, v, ys, rfl, hj, hO, hP⟩ := hrel
                have j0 : (0 : Int) ≤ j := by omega
                by_cases hjn : j < nt
                · have jn : (j : Int) < nt := by omega
                  have hjl : j < ws[t].2.length := by rw [← HNt.out]; exact hjn
                  have hwi := hO.out.wi t hwl
                  rw [HQ.out] at hwi
                  have hwi : OwnN wr w2.heap.size (.slice qt nt ct) ws[t].2 := hwi
                  obtain ⟨bt, rfl, -⟩ := wd_ptr hwi (by omega)
                  have e0 := (ownN_cell hwi hjl).1
                  have HT1 : Hid (ws[t].2.take (j + 1) = ws[t].2.take j ++ [ws[t].2.getD j 0]) := Lib.hid (by rw [List.take_succ_eq_append_getElem hjl, getD_at hjl])
                  have HPu := Lib.hid (hpush_any tb w2.heap.size v (ws[t].2.getD j 0) ys wr hO.out.tr hP.out.2 hO.out.hB.2.2.2.2 (by
                    have h1 := hP.out.1.length_eq
                    rw [List.length_append, List.length_take] at h1
                    have h2 := HYl6.out
                    omega))
                  generalize ws[t].2.getD j 0 = x at e0 HT1 HPu
                  clear hwi hjl
                  go_wp2_with (first
                    | (go_at_call 25; (with_reducible refine HPu.out.mono ?_); rintro E w10 ⟨rfl, v10, y10, hr10, hp10, hy10, ht10, hv10⟩; have HO10 := Lib.hid (hO.out.heap ht10 hr10 hv10); have HP10 : Hid (y10.Perm (y6 ++ ws[t].2.take (j + 1)) ∧ Hpy y10 y10.length) := Lib.hid ⟨by rw [HT1.out, ← List.append_assoc]; exact hp10.trans (List.Perm.append_right [x] hP.out.1), hy10⟩; clear hr10 hp10 hy10 ht10 hv10)
                    | fail)
                  go_roundw
                  case rel => exact ⟨j + 1, v10, y10, by go_num, by omega, HO10, HP10⟩
                  case measure => simp [intOf]; omega
                · have jn : ¬ (j : Int) < nt := by omega
                  have hje : j = nt := by omega
                  have HFin : Hid (Sk rs (ofG rs).length (freeL loc t) (tk ++ [t]) ys (ws.map Prod.snd) (rows7.map Prod.snd)) := Lib.hid (HTake.out ys (by
                    have := hP.out.1
                    rwa [hje, HNt.out, List.take_length] at this))
                  clear hje
                  go_wp2
                  go_roundg (gko - 1)
                  case measure =>
                    have h1 := HTk.out
                    have h2 := HF7.out
                    have h3 := hT.out
                    unfold todoS at h3
                    omega
                  case rel => exact ⟨_, tk ++ [t], ys, v, ws, rows7, os ++ [((q1, s1, cq1), nthL (ofG rs) t)], hO, HFin, Lib.hid hP.out.2, Lib.hid (by rw [List.map_append, List.map_append, hOs.out]; rfl), Lib.hid (by
                    have h1 := HTk.out
                    have h2 := HF7.out
                    have h3 := hT.out
                    have h4 := HF0.out
                    unfold todoS at h3 ⊢
                    rw [List.length_append, List.length_singleton]
                    omega)⟩
end Go.Proofs.YtjokejcokgeeiaaGreat.Can
