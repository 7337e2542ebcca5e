/- What the developers' Closed gives; what all calls of layer 16 (reach) give. Conditions: those in each statement. -/
import Derived.Test.YtjokejcokgeeiaaGreatReaM
import Derived.Test.YtjokejcokgeeiaaGreatGraN
namespace Go.Proofs.YtjokejcokgeeiaaGreat.Rea
open Go.RowKit Cmd Bat Ids Rec Wid Gra Sqm Cps Go.Shelf
set_option linter.unusedVariables false
set_option linter.unusedSimpArgs false
attribute [local go_sem] Oper.semAt_some

/-! ### Plain: who reaches what is missing -/
theorem gusers_iff {rs : List Rcd} {x y : Idn} (hd : (idsG rs).Nodup) : y ∈ gUsers rs x ↔ y ∈ idsG rs ∧ x ∈ dpG rs y := by
  unfold gUsers usersL
  rw [srt_mem]
  have key : ∀ r ∈ rs, dpG rs r.1 = r.2.2.1 := fun r hr => by
    have hf : rs.find? (fun t => decide (t.1 = r.1)) = some r := by
      clear x y
      induction rs with
      | nil => cases hr
      | cons t l ih =>
        rw [List.find?_cons]
        by_cases e : t.1 = r.1
        · rw [decide_eq_true e]
          rcases List.mem_cons.1 hr with rfl | hr
          · rfl
          · exfalso
            have := (List.nodup_cons.1 hd).1
            exact this (List.mem_map.2 ⟨r, hr, e.symm⟩)
        · rw [decide_eq_false e]
          refine ih (List.nodup_cons.1 hd).2 ((List.mem_cons.1 hr).resolve_left fun h => e (by rw [h]))
    unfold dpG; rw [hf]
  constructor
  · intro h
    obtain ⟨r, hr, rfl⟩ := List.mem_map.1 h
    obtain ⟨h1, h2⟩ := List.mem_filter.1 hr
    refine ⟨List.mem_map.2 ⟨r, h1, rfl⟩, ?_⟩
    rw [key r h1]; exact of_decide_eq_true h2
  · rintro ⟨h, h2⟩
    obtain ⟨r, hr, rfl⟩ := List.mem_map.1 h
    rw [key r hr] at h2
    exact List.mem_map.2 ⟨r, List.mem_filter.2 ⟨hr, decide_eq_true h2⟩, rfl⟩
theorem RchS.trans {s : Idn → List Idn} {x y z : Idn} (h : RchS s x y) (k : RchS s y z) : RchS s x z := by
  induction k with
  | here => exact h
  | more _ hd ih => exact .more ih hd
theorem back_iff {rs : List Rcd} (hd : (idsG rs).Nodup) {x z : Idn} : RchS (gUsers rs) x z ↔ Rch rs z x := by
  constructor
  · intro h
    induction h with
    | here => exact .here _
    | more _ hm ih =>
      exact Rch.trans (.more (.here _) ((gusers_iff hd).1 hm).2) ih
  · intro h
    induction h with
    | here => exact .here _
    | @more y v _ hm ih =>
      have hy : y ∈ idsG rs := Classical.byContradiction fun hn => by rw [dp_no hn] at hm; cases hm
      exact RchS.trans (.more (.here _) ((gusers_iff hd).2 ⟨hy, hm⟩)) ih
theorem gmiss_iff {rs : List Rcd} {x : Idn} : x ∈ gMiss rs ↔ x ∈ depsG rs ∧ x ∉ idsG rs := by unfold gMiss; rw [srt_mem, miss_mem]
theorem closed_is {rs : List Rcd} (hd : (idsG rs).Nodup) {xs : List Idn} (h : AllS (gUsers rs) (gMiss rs) xs) : minus (srt (gIds rs)) xs = closedG rs := by
  refine rise_eq ((srt_rise _).filter _) (srt_rise _) fun z => ?_
  rw [minus_mem, srt_mem, show z ∈ gIds rs ↔ z ∈ idsG rs from srt_mem _ _, closed_mem, h.2]
  constructor
  · rintro ⟨h1, h2⟩ y hy
    refine Classical.byContradiction fun hn => h2 ⟨y, ?_, (back_iff hd).2 hy⟩
    rw [gmiss_iff]
    refine ⟨?_, hn⟩
    cases hy with
    | here => exact absurd h1 hn
    | more _ hm => exact dp_sub hm
  · intro hc
    refine ⟨hc z (.here z), ?_⟩
    rintro ⟨m, hm, hr⟩
    exact (gmiss_iff.1 hm).2 (hc m ((back_iff hd).1 hr))
theorem del_minus (zs pre : List Idn) (x : Idn) : del (minus zs pre) x = minus zs (pre ++ [x]) := by
  unfold del minus
  rw [List.filter_filter]
  refine List.filter_congr fun y _ => ?_
  rw [Bool.eq_iff_iff, Bool.and_eq_true, decide_eq_true_eq, decide_eq_true_eq, decide_eq_true_eq, List.mem_append, List.mem_singleton]
  constructor
  · rintro ⟨h1, h2⟩ (h | h)
    · exact h2 h
    · exact h1 h
  · intro h; exact ⟨fun e => h (.inr e), fun e => h (.inl e)⟩

/-! ### Memory -/
theorem cells_of_cell {W : World} {a : Addr} {v : Value} (h : W.cell? a = some v) : ∃ o : Obj, W.heap[a.block]? = some o ∧ o.isCells = true := by
  unfold World.cell? at h
  cases ho : W.heap[a.block]? with
  | none => simp [ho] at h
  | some o => exact ⟨o, rfl, by cases o <;> simp_all [Obj.isCells]⟩
theorem row_on {W W' : World} {v : Value} {l : List Idn} (h : RowAt W v l) (hs : W.heap.size ≤ W'.heap.size) (hk : ∀ (k : Nat) (o : Obj), W.heap[k]? = some o → o.isCells = true → W'.heap[k]? = some o) : RowAt W' v l := by
  obtain ⟨p, cap, rfl, h1, h2, h0, h3⟩ := h
  refine ⟨p, cap, rfl, h1, h2, h0, fun hz => ?_⟩
  obtain ⟨B, off, rfl, hlt, hc⟩ := h3 hz
  refine ⟨B, off, rfl, Nat.lt_of_lt_of_le hlt hs, fun j hj => ?_⟩
  obtain ⟨o, ho, hi⟩ := cells_of_cell (hc j hj).1
  have e : W'.heap[B]? = W.heap[B]? := (hk B o ho hi).trans ho.symm
  exact ⟨(World.cell?_of_block (w := W) (a := ⟨B, off + j * 2, none⟩) e).trans (hc j hj).1, (World.cell?_of_block (w := W) (a := ⟨B, off + j * 2 + 1, none⟩) e).trans (hc j hj).2⟩
/-- Between two rounds of Closed's loop: what has been told is out of the set. -/
structure Cld (w : World) (B sb gs ms : Nat) (zs pre : List Idn) (M : Nat → Prop) (W : World) : Prop where
  below : Below w.heap.size w W
  s : Go.Boxed W sb 120 (.pointer (some ⟨gs, 0, none⟩))
  set : SetP W gs ms (minus zs pre)
  size : B ≤ W.heap.size
  far : ∀ k, M k → B ≤ k
theorem Cld.bears {w : World} {B sb gs ms : Nat} {zs : List Idn} (hw : w.heap.size ≤ B) (h1 : sb < B) (h2 : gs < B) (h3 : ms < B) : BearsFar B (fun pre M W => Cld w B sb gs ms zs pre M W) := fun pre M M' W W' h k => by
  have low : ∀ j, j < B → W'.heap[j]? = W.heap[j]? := fun j hj => by
    have hj2 : j < W.heap.size := Nat.lt_of_lt_of_le hj h.size
    rw [Array.getElem?_eq_getElem hj2]
    exact k.block j _ (Array.getElem?_eq_getElem hj2) (fun hm => by have := h.far j hm; omega) (fun hh => by omega)
  exact ⟨⟨k.os.trans h.below.os, k.tape.trans h.below.tape, k.output.trans h.below.output, Nat.le_trans h.below.size k.size, fun j hj => (low j (by omega)).trans (h.below.block j hj)⟩,
    (low sb h1).trans h.s, ⟨(World.cell?_of_block (w := W) (a := ⟨gs, 0, none⟩) (low gs h2)).trans h.set.cell, Nat.lt_of_lt_of_le h.set.lt k.size, h.set.set.block (low ms h3)⟩, Nat.le_trans h.size k.size, fun j hj => by
      rcases k.new j hj with h' | h'
      · exact h.far j h'
      · have := h.size; omega⟩
/-- What Closed's loop goes over, laid by follow. -/
theorem follow_laid (p : Option Addr) (n c : Nat) (gp : Option Addr) (w : World) : Calls Tryz.prog 79 #[.slice p n c, .func (.func 49) #[.pointer gp] #[]] w fun E w' => E = .returned (flw w.heap.size (w.heap.size + 1)) ∧ Below w.heap.size w w' ∧ w'.heap.size = w.heap.size + 1 + 1 ∧
    w'.cell? ⟨w.heap.size, 0, none⟩ = some (sliceOf (p, n, c)) ∧ w'.cell? ⟨w.heap.size + 1, 0, none⟩ = some (.func (.func 49) #[.pointer gp] #[]) := (follow_any p n c _ _ _ w).mono fun E w' ⟨h1, h2⟩ => by
  refine ⟨h1, ?_⟩
  subst h2
  have b1 := Cmd.below_one w (.cells #[.slice p n c] 38)
  have n1 := heap_alloc_new w (.cells #[.slice p n c] 38)
  have s1 : (w.alloc (.cells #[.slice p n c] 38)).heap.size = w.heap.size + 1 := by simp
  obtain ⟨w1, hw1⟩ : ∃ w1, w1 = w.alloc (.cells #[.slice p n c] 38) := ⟨_, rfl⟩
  rw [← hw1] at b1 n1 s1 ⊢
  have b2 := Cmd.below_one w1 (.cells #[.func (.func 49) #[.pointer gp] #[]] 81)
  have n2 := heap_alloc_new w1 (.cells #[.func (.func 49) #[.pointer gp] #[]] 81)
  rw [s1] at n2
  exact ⟨b1.trans (b2.mono b1.size), by simp [s1], cell_row (i := 0) ((b2.block _ (by omega)).trans n1) rfl, cell_row (i := 0) n2 rfl⟩
set_option maxRecDepth 100000 in
set_option maxHeartbeats 4000000 in
theorem closed_in (F : Fence) (hF : F = Fence.wide) (n : Nat) (hfn : ∀ k, F.fn k) (hro : F.round = none) (hn : 9 ≤ n) (gp : Option Addr) (rs : List Rcd) (w : World) (A : Asks gp rs w) :
    CallsIn F n Tryz.prog 45 #[.pointer gp] w (GivesRow (closedG rs) w) := by
  have h1 : 1 ≤ n := by omega
  have h2 : 1 ≤ n - 1 := by omega
  have h3 : 1 ≤ n - 1 - 1 := by omega
  have hd := gerr_nodup A.lot.2
  have hfew := A.lot.1.few
  have hil : (gIds rs).length ≤ 1000 := by
    have h1 := srt_length (idsG rs)
    unfold idsG at h1
    rw [List.length_map] at h1
    unfold gIds idsG; omega
  have hiw : ∀ x ∈ gIds rs, wfId x := fun x hx => by
    obtain ⟨r, hr, rfl⟩ := List.mem_map.1 ((srt_mem _ _).1 hx)
    exact (A.lot.1.wf r hr).id
  have HF := Lib.hid hF
  have HA := Lib.hid A
  have HD := Lib.hid (And.intro hd (And.intro hil hiw))
  have CI := Lib.hid (inWide hF (n := n - 1) (A.ids w (Below.refl _ _)))
  have CN := Lib.hid (fun u (W : World) (h : RowAt W u (gIds rs)) => inWide hF (n := n - 1) (new_any u (gIds rs) W h hiw (by omega)))
  have CM := Lib.hid (fun W (hb : Below w.heap.size w W) => inWide hF (n := n - 1) (A.miss W hb))
  have CF := Lib.hid (fun p m c W => inWide hF (n := n - 1) (follow_laid p m c gp W))
  clear hF A hd hfew hil hiw
  refine callsIn_of_wp_marks Tryz.func45 rfl (hfn _) ?_ hro
  simp only [Tryz.ntmps45, List.size_toArray, List.length_cons, List.length_nil, Nat.reduceAdd, Nat.reduceSub, Array.replicate_succ, Array.replicate_zero, List.push_toArray, List.append_toArray, List.nil_append, List.cons_append]
  gi_wp2_with (first
    | (gi_at_call 78; refine CI.out.mono ?_; rintro E W1 ⟨u, rfl, hr1, hb1⟩; have HC1 := Lib.hid (CN.out u W1 hr1); have HB1 := Lib.hid hb1; clear hr1 hb1)
    | (gi_at_call 77; refine HC1.out.mono ?_; rintro E W2 ⟨gs, ms, hE, hgs, hms, hset, hb2⟩; obtain rfl : E = .returned (.pointer (some ⟨gs, 0, none⟩)) := hE; have HB2 := Lib.hid (HB1.out.trans (hb2.mono HB1.out.size)); have HS2 := Lib.hid hset; have HL2 := Lib.hid (And.intro hgs (And.intro hms HB1.out.size)); have HCM := Lib.hid (CM.out (W2.alloc (.cells #[.pointer (some ⟨gs, 0, none⟩)] 120)) (HB2.out.alloc HB2.out.size _)); clear hgs hms hset hb2)
    | (gi_at_call 80; refine HCM.out.mono ?_; rintro E W4 ⟨u4, rfl, hr4, hb4⟩; obtain ⟨p, m, c, rfl⟩ : ∃ p m c, u4 = .slice p m c := by obtain ⟨p, c, rfl, -⟩ := hr4; exact ⟨_, _, _, rfl⟩
       have HR4 := Lib.hid hr4; have HB4 := Lib.hid hb4; clear hr4 hb4)
    | (gi_at_call 79; refine (CF.out _ _ _ _).mono ?_; rintro E W5 ⟨rfl, lb, ls, l1, l2⟩)
    | gi_in)
  have b3 := Cmd.below_one W2 (.cells #[.pointer (some ⟨gs, 0, none⟩)] 120)
  have n3 := heap_alloc_new W2 (.cells #[.pointer (some ⟨gs, 0, none⟩)] 120)
  have s3 : (W2.alloc (.cells #[.pointer (some ⟨gs, 0, none⟩)] 120)).heap.size = W2.heap.size + 1 := by simp
  have hb4 := HB4.out
  rw [s3] at hb4
  have hb35 : Below (W2.heap.size + 1) (W2.alloc (.cells #[.pointer (some ⟨gs, 0, none⟩)] 120)) W5 := hb4.trans (lb.mono (by have := hb4.size; rw [s3] at this; exact this))
  have hset5 : SetP W5 gs ms (srt (gIds rs)) := (HS2.out.on b3).on (by rw [s3]; exact hb35)
  have hs5 : Go.Boxed W5 W2.heap.size 120 (.pointer (some ⟨gs, 0, none⟩)) := (hb35.block _ (by omega)).trans n3
  have hb5 : Below w.heap.size w W5 := (HB2.out.trans (b3.mono HB2.out.size)).trans (hb35.mono (by have := HB2.out.size; omega))
  have hr5 : RowAt W5 (.slice p m c) (gMiss rs) := HR4.out.on lb
  have z1 := HL2.out
  have z2 := HS2.out.lt
  have z3 := HS2.out.set.lt
  have z4 := hb4.size
  rw [s3] at z4
  have hmap := hset5.set.isMap
  have HD5 := Lib.hid (And.intro hset5 (And.intro hs5 (And.intro hb5 ls)))
  have hzw : ∀ x ∈ srt (gIds rs), wfId x := fun x hx => HD.out.2.2 x ((srt_mem _ _).1 hx)
  have hzl : (srt (gIds rs)).length ≤ 1000 := Nat.le_trans (srt_length _) HD.out.2.1
  have HZ := Lib.hid (And.intro hzw hzl)
  have HU := Lib.hid (And.intro z1 (And.intro z2 (And.intro z3 z4)))
  have hr0 : ∀ X, Kept w.heap.size (fun k => k < W5.heap.size ∧ k ≠ ms) W5 X → RowAt X (.slice p m c) (gMiss rs) := fun X hX => row_on hr5 hX.low.size fun k o hk ho => by
    obtain ⟨es, cc, hm⟩ := hmap
    refine (hX.mine k ⟨(Array.getElem?_eq_some_iff.1 hk).1, fun e => ?_⟩).trans hk
    rw [e, hm] at hk; cases hk; cases ho
  clear b3 n3 s3 hb4 hb35 hr5 hzw hzl lb
  refine range_mine (α := Idn) hro h1 (gf := 107) (lb := #[.pointer (some ⟨W4.heap.size, 0, none⟩), .pointer (some ⟨W4.heap.size + 1, 0, none⟩)]) rfl (hfn _) (enters_of Tryz.func107 (by kernel_rfl) rfl)
    (follow_stops F HF.out (n - 1) (hfn _) hfn hro (by omega) W4.heap.size (W4.heap.size + 1) (p, m, c) (gMiss rs) 49 #[.pointer gp] #[] (enters_of Tryz.func49 (by kernel_rfl) rfl) (gUsers rs) (gMiss rs ++ idsG rs) w.heap.size (fun k => k < W5.heap.size ∧ k ≠ ms) W5 hb5.size (fun k hk => hk.1)
      l1 (.inr ⟨by omega, by omega⟩) l2 (.inr ⟨by omega, by omega⟩) hr0 (fun q X a b hX hab => inWide HF.out (HA.out.users X a b (hb5.trans hX.low) hab))
      (fun a ha z hz => by
        cases hz with
        | here => exact List.mem_append_left _ ha
        | more _ hm => exact List.mem_append_right _ ((gusers_iff HD.out.1).1 hm).1)
      (fun z hz => (List.mem_append.1 hz).elim (fun h => deps_wf HA.out.lot.1 z (gmiss_iff.1 h).1) (fun h => HD.out.2.2 z ((srt_mem _ _).2 h)))
      (by
        have q1 := deps_len HA.out.lot
        have q2 := HA.out.lot.1.few
        have q3 : (gMiss rs).length ≤ (depsG rs).length := by
          unfold gMiss missL
          exact Nat.le_trans (srt_length _) (List.length_filter_le _ _)
        have q4 : (idsG rs).length = rs.length := by unfold idsG; rw [List.length_map]
        rw [List.length_append]; omega))
    (Kept.refl _ _ _) hb5.size (fun k hk => hk.1) (fun _ => rfl)
    (fun x => .cells #[.int .i64 x.1, .int .i64 x.2] 43) (fun _ => rfl)
    (fun x Bx => { tmps := #[.pointer gp, undef, .slice none 0 0, .pointer (some ⟨W2.heap.size, 0, none⟩), .pointer (some ⟨Bx, 0, none⟩), .pointer gp, u, .pointer (some ⟨gs, 0, none⟩), .pointer gp, .slice p m c, .pointer gp, .func (.func 49) #[.pointer gp] #[], flw W4.heap.size (W4.heap.size + 1), .agg #[.int .i64 x.1, .int .i64 x.2], undef, undef, undef, undef, undef], defers := [] })
    (fun pre M W => Cld w W5.heap.size W2.heap.size gs ms (srt (gIds rs)) pre M W) (fun _ _ _ _ => False) (Cld.bears hb5.size (by omega) (by omega) (by omega)) (fun cc => BearsFar.false _)
    ⟨hb5, hs5, by rw [minus_nil]; exact hset5, Nat.le_refl _, fun k hk => hk.elim⟩
    ?assign ?body ?done ?stop
  case assign =>
    clear ls l1 l2 z1 z2 z3 z4
    rintro l x W K hK
    simp only [Itr.encI]
    gi_wp2
    exact hK
  case body =>
    clear ls l1 l2 z1 z2 z3 z4 hr0 hset5 hs5 hb5
    rintro lp pre ⟨x, y⟩ M Bx W hok hBx bX hM hnB hC hlt
    have bX : W.heap[Bx]? = some (.cells #[.int .i64 x, .int .i64 y] 43 (0, 0)) := bX
    have c0 := cell_row (i := 0) bX rfl
    have c1 := cell_row (i := 1) bX rfl
    have g0 := hC.s.cell
    have hwx : wfId (x, y) := (List.mem_append.1 hok).elim (fun h => deps_wf HA.out.lot.1 _ (gmiss_iff.1 h).1) (fun h => HD.out.2.2 _ ((srt_mem _ _).2 h))
    have HCR := Lib.hid (CallsIn.inRound lp (inWide HF.out (n := n - 1 - 1 - 1) (remove_p gs ms _ x y W hC.set hwx)))
    have HC := Lib.hid hC
    have HM := Lib.hid hM
    have h4 : 1 ≤ n - 1 - 1 := by omega
    clear bX hM hC hok hwx hlt
    gi_wp2_with (first
      | (gi_at_call 81; refine HCR.out.mono ?_; rintro E X ⟨rfl, ht⟩; have HT := Lib.hid ht; clear ht)
      | gi_in)
    have hg := HT.out.grown
    have hC := HC.out
    obtain ⟨q1, q2, q3, q4⟩ := HU.out
    have hsz := HD5.out.2.2.2
    have low : ∀ k, k < W.heap.size → k ≠ ms → X.heap[k]? = W.heap[k]? := fun k hk hne => hg.block k hk (fun e => hne (by cases e; rfl))
    have hWs := hC.size
    have hbs := hC.below.size
    have hbX : Below w.heap.size W X := ⟨hg.os, hg.tape, hg.output, hg.size, fun k hk => low k (by omega) (by omega)⟩
    refine ⟨⟨⟨hbX, fun k hk => ?_⟩, fun k o hk ho _ => (low k (Array.getElem?_eq_some_iff.1 ho).1 (by omega)).trans ho⟩, hC.below.trans hbX, (low _ hC.s.lt (by omega)).trans hC.s, ?_, Nat.le_trans hC.size hg.size, hC.far⟩
    · rcases hk with ⟨hk, hk2⟩ | hk
      · exact low k (by omega) hk2
      · have := HM.out k hk
        exact low k this.1 (by omega)
    · rw [← del_minus]; exact HT.out.set
  case done =>
    clear ls l1 l2 z1 z2 z3 z4 hr0 hset5 hs5 hb5
    rintro D xs M W hD hS hC hK
    have g0 := hC.s.cell
    have hlen : (minus (srt (gIds rs)) xs).length ≤ 100000 := Nat.le_trans (List.length_filter_le _ _) (by have := HZ.out.2; omega)
    have HCL := Lib.hid (inWide HF.out (n := n - 1) (setlist_any (.pointer (some ⟨gs, 0, none⟩)) _ W (.inr ⟨gs, ms, rfl, hC.set⟩) hlen))
    have HC := Lib.hid hC
    clear hC hlen
    gi_wp2_with (first
      | (gi_at_call 82; refine HCL.out.mono ?_; rintro E X ⟨v, rfl, hr, hb⟩; have HRX := Lib.hid hr; have HBX := Lib.hid hb; clear hr hb)
      | gi_in)
    have hK2 := (HBX.out.block D (Array.getElem?_eq_some_iff.1 hK).1).trans hK
    have hsz := HC.out.below.size
    have hD2 := HBX.out.size
    have hb0 := HD5.out.2.2.1.size
    refine ⟨by simp, .inl ⟨_, _, rfl, run_takeDeferred hK2, ?_⟩⟩
    refine ⟨_, results_tmp rfl _ _ _, _, rfl, ?_, (HC.out.below.trans (HBX.out.mono hsz)).trans (belowK_b (w := w) (Nat.le_refl _) X D _ _ (by omega) hK2 rfl rfl)⟩
    rw [← closed_is HD.out.1 hS]
    refine row_on HRX.out (by simp) fun k o hk ho => ?_
    exact (World.putObj_heap_other (fun e => by rw [e, hK2] at hk; cases hk; cases ho)).trans hk
  case stop =>
    rintro D cc pre M W _ _ h _
    exact h.elim
theorem closed_run (gp : Option Addr) (rs : List Rcd) (w : World) (A : Asks gp rs w) : Calls Tryz.prog 45 #[.pointer gp] w (GivesRow (closedG rs) w) := (callsIn_wide (n := 9)).1 (closed_in Fence.wide rfl 9 (fun _ => trivial) rfl (by omega) gp rs w A)
end Go.Proofs.YtjokejcokgeeiaaGreat.Rea
