/- What canon's helpers give (layer 18): a set of ids, the Deps of a list's records, the places of ids; Flat, Leads. Conditions: those in each statement. -/
import Derived.Test.YtjokejcokgeeiaaGreatCanE
import Derived.Test.YtjokejcokgeeiaaGreatHep
import Derived.Test.YtjokejcokgeeiaaGreatTreI
import Derived.Test.YtjokejcokgeeiaaGreatGraN
namespace Go.Proofs.YtjokejcokgeeiaaGreat.Can
open Go.RowKit Cmd Bat Ids Rec Wid Gra Rea Cps Mpg
set_option linter.unusedVariables false
set_option linter.unusedSimpArgs false

theorem map_isMap {w : World} {b N : Nat} {f : Idn → Option Value} (h : MapG kyI w b N f) : ∃ es c, w.heap[b]? = some (.map es c) := by obtain ⟨D, ks, ⟨es, c, h, _⟩, _⟩ := h; exact ⟨es, c, h⟩

/-! ### A set of ids -/
def inF (a : List Idn) : Idn → Option Value := fun d => if d ∈ a then some (.bool true) else none
def GivesSet (a : List Idn) (W : World) (E : Ending) (W' : World) : Prop := ∃ m, E = .returned (.map (some m)) ∧ W.heap.size ≤ m ∧ MapG kyI W' m 1000000 (inF a) ∧ Below W.heap.size W W'
theorem inF_snoc (a : List Idn) (x : Idn) : ∀ d, setF (inF a) x (some (.bool true)) d = inF (a ++ [x]) d := fun d => by
  by_cases e : d = x
  · subst e; rw [setF_same]; unfold inF; rw [if_pos (by simp)]
  · rw [setF_other _ _ e]
    unfold inF
    by_cases h : d ∈ a
    · rw [if_pos h, if_pos (by simp [h])]
    · rw [if_neg h, if_neg (by simp [h, e])]
set_option maxRecDepth 100000 in
set_option maxHeartbeats 4000000 in
theorem cset_any (v : Value) (a : List Idn) (W : World) (h : RowAt W v a) (hl : a.length ≤ 1000000) (hw : ∀ x ∈ a, wfId x) : Calls Tryz.prog 36 #[v] W (GivesSet a W) := by
  obtain ⟨p, cap, rfl, h1, hd⟩ := Rec.RowAt.parts h
  obtain ⟨n, hn⟩ : ∃ n, n = a.length := ⟨_, rfl⟩
  rw [← hn] at h1 hd ⊢
  have HN := Lib.hid hn
  have HW := Lib.hid hw
  have hnl : n ≤ 1000000 := by omega
  have hmm := @run_makeMap Tryz.prog
  clear h hn hw hl
  go_enter Tryz.func36, Tryz.ntmps36
  go_wp2
  have HM0 : Hid (MapG kyI (W.alloc (.map #[] 0)) W.heap.size 0 (inF [])) := Lib.hid (MapG.made W)
  have HB0 : Hid (Below W.heap.size W (W.alloc (.map #[] 0))) := Lib.hid (Cmd.below_one W _)
  go_loopw [9] (fun i wr => ∃ k : Nat, i = .int .i64 k ∧ k ≤ n ∧ Hid (MapG kyI wr W.heap.size k (inF (a.take k))) ∧ Hid (Below W.heap.size W wr)) (fun i _ => n - (intOf i).toNat)
  case atStart => exact ⟨0, rfl, Nat.zero_le _, HM0, HB0⟩
  case round =>
    clear HM0 HB0
    obtain ⟨k, rfl, hk, hM, hB⟩ := hrel
    have k0 : (0 : Int) ≤ k := by omega
    by_cases hkn : k < n
    · have kn : (k : Int) < n := by omega
      obtain ⟨B, off, rfl, HC⟩ := hd.resolve_left (by omega)
      have hkl : k < a.length := by rw [← HN.out]; exact hkn
      obtain ⟨⟨x, y⟩, hxy⟩ : ∃ z, nth a k = z := ⟨_, rfl⟩
      have e0 := (HC.out.on hB.out).fst k hkl
      have e1 := (HC.out.on hB.out).snd k hkl
      rw [hxy] at e0 e1
      have hb1 := Cmd.below_one wr (.cells #[.int .i64 x, .int .i64 y] 43)
      have hx1 := heap_alloc_new wr (.cells #[.int .i64 x, .int .i64 y] 43)
      have c0 := cell_row (i := 0) hx1 rfl
      have c1 := cell_row (i := 1) hx1 rfl
      have hwf : wfId (x, y) := HW.out _ (by rw [← hxy]; exact nth_in hkl)
      obtain ⟨w2, hst, hm2, ht2⟩ := (hM.out.on hb1).store Tryz.underlying73 (by omega) (x := (x, y)) hwf (.bool true)
      have HM2 := Lib.hid hm2
      have HX : Hid (a.take (k + 1) = a.take k ++ [(x, y)]) := Lib.hid (by rw [take_nth hkl, hxy])
      have HB2 : Hid (Below W.heap.size W w2) := Lib.hid ((hB.out.trans (hb1.mono hB.out.size)).trans (grown_belowT ht2.grown (Nat.le_refl _) (by have := hB.out.size; have := hb1.size; omega)))
      have hst2 : (Instr.mapUpdate 73 (.map (some W.heap.size)) (.agg #[.int .i64 x, .int .i64 y]) (.bool true)).run Tryz.prog (wr.alloc (.cells #[.int .i64 x, .int .i64 y] 43)) = .ok () w2 := hst
      clear hst hm2 ht2 hb1 hx1 hxy hkl hwf
      go_wp2
      go_roundw
      case rel => exact ⟨k + 1, by go_num, by omega, Lib.hid (by rw [HX.out]; exact HM2.out.ext (inF_snoc _ _)), HB2⟩
      case measure => simp [intOf]; omega
    · have kn : ¬ (k : Int) < n := by omega
      have hke : k = n := by omega
      go_wp2
      go_ret
      have h2 := hM.out
      rw [hke, HN.out, List.take_length] at h2
      exact ⟨_, rfl, Nat.le_refl _, h2.mono (by rw [← HN.out]; exact hnl), hB.out⟩

/-! ### The Deps of a list's records -/
def depsL (rs : List Rcd) (a : List Idn) : List Idn := (a.map (dpG rs)).flatten
theorem depsL_snoc (rs : List Rcd) (a : List Idn) (x : Idn) : depsL rs (a ++ [x]) = depsL rs a ++ dpG rs x := by unfold depsL; rw [List.map_append, List.flatten_append]; simp
theorem depsL_mem {rs : List Rcd} {a : List Idn} {d : Idn} : d ∈ depsL rs a ↔ ∃ x ∈ a, d ∈ dpG rs x := by
  unfold depsL
  rw [List.mem_flatten]
  exact ⟨fun ⟨l, h1, h2⟩ => by obtain ⟨x, hx, rfl⟩ := List.mem_map.1 h1; exact ⟨x, hx, h2⟩, fun ⟨x, hx, h⟩ => ⟨_, List.mem_map.2 ⟨x, hx, rfl⟩, h⟩⟩
theorem dp_1000 {rs : List Rcd} (h : Lot rs) (x : Idn) : (dpG rs x).length ≤ 1000 := by
  unfold dpG
  cases hf : rs.find? (fun r => decide (r.1 = x)) with
  | none => simp
  | some r => exact (h.low r (List.mem_of_find?_eq_some hf)).1
theorem depsL_len {rs : List Rcd} (h : Lot rs) : ∀ a : List Idn, (depsL rs a).length ≤ a.length * 1000
  | [] => by simp [depsL]
  | x :: a => by
    have h1 := depsL_len h a
    have h2 := dp_1000 h x
    unfold depsL at *
    rw [List.map_cons, List.flatten_cons, List.length_append, List.length_cons]; omega
set_option maxRecDepth 100000 in
set_option maxHeartbeats 4000000 in
theorem cdeps_any (gp : Option Addr) (v : Value) (rs : List Rcd) (a : List Idn) (W : World) (HR : ∀ X (x y : Int), Below W.heap.size W X → wfId (x, y) → Calls Tryz.prog 62 #[.pointer gp, .agg #[.int .i64 x, .int .i64 y]] X (GivesD (dpG rs (x, y)) X)) (L : Lot rs) (h : RowAt W v a) (hl : a.length ≤ 1000000) (hw : ∀ x ∈ a, wfId x) :
    Calls Tryz.prog 32 #[.pointer gp, v] W (GivesOwned (depsL rs a) W) := by
  obtain ⟨p, cap, rfl, h1, hd⟩ := Rec.RowAt.parts h
  obtain ⟨n, hn⟩ : ∃ n, n = a.length := ⟨_, rfl⟩
  rw [← hn] at h1 hd ⊢
  have HN := Lib.hid hn
  have HW := Lib.hid hw
  have HRC := Lib.hid HR
  have HLT := Lib.hid L
  have hnl : n ≤ 1000000 := by omega
  clear h hn hw hl HR L
  go_enter Tryz.func32, Tryz.ntmps32
  go_wp2
  go_loopw [5, 12] (fun o i wr => ∃ k : Nat, i = .int .i64 k ∧ k ≤ n ∧ Hid (Owns wr W.heap.size o (depsL rs (a.take k))) ∧ Hid (Below W.heap.size W wr)) (fun _ i _ => n - (intOf i).toNat)
  case atStart => exact ⟨0, rfl, Nat.zero_le _, Lib.hid (World.ownsRow_nil _ _ _ _), Lib.hid (Below.refl _ _)⟩
  case round =>
    obtain ⟨k, rfl, hk, hO, hB⟩ := hrel
    have k0 : (0 : Int) ≤ k := by omega
    by_cases hkn : k < n
    · have kn : (k : Int) < n := by omega
      obtain ⟨B, off, rfl, HC⟩ := hd.resolve_left (by omega)
      have hkl : k < a.length := by rw [← HN.out]; exact hkn
      obtain ⟨⟨x, y⟩, hxy⟩ : ∃ z, nth a k = z := ⟨_, rfl⟩
      have e0 := (HC.out.on hB.out).fst k hkl
      have e1 := (HC.out.on hB.out).snd k hkl
      rw [hxy] at e0 e1
      have hb1 := Cmd.below_one wr (.cells #[.int .i64 x, .int .i64 y] 43)
      have hx1 := heap_alloc_new wr (.cells #[.int .i64 x, .int .i64 y] 43)
      have c0 := cell_row (i := 0) hx1 rfl
      have c1 := cell_row (i := 1) hx1 rfl
      have hwf : wfId (x, y) := HW.out _ (by rw [← hxy]; exact nth_in hkl)
      have HB1 : Hid (Below W.heap.size W (wr.alloc (.cells #[.int .i64 x, .int .i64 y] 43))) := Lib.hid (hB.out.trans (hb1.mono hB.out.size))
      have HO1 := Lib.hid (own_below hO.out hb1)
      have HRk := Lib.hid (HRC.out _ x y HB1.out hwf)
      have HX : Hid (depsL rs (a.take (k + 1)) = depsL rs (a.take k) ++ dpG rs (x, y)) := Lib.hid (by rw [take_nth hkl, hxy, depsL_snoc])
      have HLn : Hid ((depsL rs (a.take k)).length + (dpG rs (x, y)).length ≤ 100000000000) := Lib.hid (by
        have h1 := depsL_len HLT.out (a.take k)
        have h2 := dp_1000 HLT.out (x, y)
        have h3 : (a.take k).length ≤ 1000000 := by rw [List.length_take]; omega
        omega)
      clear hb1 hx1 hxy hkl hwf
      go_wp2_with (first
        | (go_at_call 62; (with_reducible refine HRk.out.mono ?_); rintro E w1 ⟨x0, x1, x2, p3, n3, c3, p4, n4, c4, ok, rfl, ho, hb⟩
           have hb2 := Cmd.below_one w1 (.cells #[.int .i64 x0, .int .i64 x1, .int .i64 x2, .slice p3 n3 c3, .slice p4 n4 c4] 46)
           have d2 := cell_row (i := 3) (heap_alloc_new w1 (.cells #[.int .i64 x0, .int .i64 x1, .int .i64 x2, .slice p3 n3 c3, .slice p4 n4 c4] 46)) rfl
           have HB2 := Lib.hid ((HB1.out.trans (hb.mono HB1.out.size)).trans (hb2.mono (by have := HB1.out.size; have := hb.size; omega)))
           have HO2 := Lib.hid (own_below (own_below HO1.out hb) hb2)
           have HG2 := Lib.hid (run_wideB wtId _ 38 W.heap.size _ _ HO2.out HB2.out.size _ _ (rowId (ho.row.on hb2)) HLn.out)
           clear ho hb hb2)
        | (at_builtin; refine wp_app rfl _ _ 38 rfl _ _ rfl rfl HG2.out ?_; intro v4 w4 HV4)
        | fail)
      go_roundw
      case rel => exact ⟨k + 1, by go_num, by omega, Lib.hid (by rw [HX.out]; exact HV4.out.1), Lib.hid (HB2.out.trans HV4.out.2.1)⟩
      case measure => simp [intOf]; omega
    · have kn : ¬ (k : Int) < n := by omega
      have hke : k = n := by omega
      go_wp2
      go_ret
      have h2 := hO.out
      rw [hke, HN.out, List.take_length] at h2
      exact ⟨_, rfl, h2, hB.out⟩

/-! ### Is there one of which a closure tells true? -/
theorem contI_any (fn : Nat) (lb : Array Value) (q : Idn → Bool) (v : Value) (zs : List Idn) (W : World) (h : RowAt W v zs) (hw : ∀ x ∈ zs, wfId x) (eg : ∀ args w, (callFunc fn args).run Tryz.prog w = .ok (.enter fn args) w)
    (hp : ∀ X (x y : Int), Below W.heap.size W X → wfId (x, y) → Calls Tryz.prog fn (#[.agg #[.int .i64 x, .int .i64 y]] ++ lb) X (RetBelow (.bool (q (x, y))) X)) :
    Calls Tryz.prog 31 #[v, .func (.func fn) #[] lb] W (RetBelow (.bool (zs.any q)) W) := by
  obtain ⟨p, cap, rfl, h1, h2, -, h3⟩ := h
  by_cases hz : zs = []
  · subst hz
    exact (contains_none p cap _ W).mono fun e w' ⟨he, hw⟩ => ⟨he, by rw [← hw]; exact Below.refl _ _⟩
  · obtain ⟨B, off, rfl, hlt, hc⟩ := h3 hz
    letI : Inhabited {x : Idn // wfId x} := ⟨⟨(0, 0), ⟨by omega, by omega⟩, ⟨by omega, by omega⟩⟩⟩
    have hl : (zs.pmap Subtype.mk hw).length = zs.length := List.length_pmap
    have hat : ∀ j (hj : j < (zs.pmap Subtype.mk hw).length), ((zs.pmap Subtype.mk hw)[j]!).1 = nth zs j := fun j hj => by
      rw [getElem!_pos _ j hj, List.getElem_pmap]
      unfold nth; rw [List.getD_eq_getElem?_getD, List.getElem?_eq_getElem (by omega)]; rfl
    have hcon := AnyQ.slices_ContainsFunc Tryz.hasId 2 Tryz.isAgg43 Tryz.sizeOf43 (fun x : {x : Idn // wfId x} => ids x.1) (fun _ => rfl) (fun x => q x.1) fn lb eg B off zs.length cap (zs.pmap Subtype.mk hw) W
      (fun X x hb => ((hp X x.1.1 x.1.2 hb x.2).mono fun e w' ⟨he, hb'⟩ => ⟨he, hb.trans (hb'.mono hb.size)⟩)) (by omega) (by omega) hlt (fun j hj i u hi => by
        have hj2 := hc j (by omega)
        have e := hat j hj
        generalize (zs.pmap Subtype.mk hw)[j]! = y at hi e
        rw [e] at hi
        match i, hi with
        | 0, hi => simp [ids] at hi; rw [← hi]; exact hj2.1
        | 1, hi => simp [ids] at hi; rw [← hi]; exact hj2.2
        | i + 2, hi => simp [ids] at hi)
    have hr : ((zs.pmap Subtype.mk hw).take zs.length).any (fun x => q x.1) = zs.any q := by
      rw [List.take_of_length_le (by omega), Bool.eq_iff_iff, List.any_eq_true, List.any_eq_true]
      constructor
      · rintro ⟨x, hx, hq⟩
        obtain ⟨a, ha, rfl⟩ := List.mem_pmap.1 hx
        exact ⟨a, ha, hq⟩
      · rintro ⟨x, hx, hq⟩
        exact ⟨⟨x, hw x hx⟩, List.mem_pmap.2 ⟨x, hx, rfl⟩, hq⟩
    rw [hr] at hcon
    exact hcon

/-! ### Leads -/
theorem leads_any_eq (rs : List Rcd) (a b : List Idn) : leadsG rs a b = (depsL rs a).any fun d => decide (d ∈ b) && !decide (d ∈ a) := by
  rw [Bool.eq_iff_iff, leads_iff, List.any_eq_true]
  constructor
  · rintro ⟨x, hx, d, hd, h1, h2⟩
    exact ⟨d, depsL_mem.2 ⟨x, hx, hd⟩, by rw [decide_eq_true h1, decide_eq_false h2]; rfl⟩
  · rintro ⟨d, hd, h⟩
    obtain ⟨x, hx, hd⟩ := depsL_mem.1 hd
    rw [Bool.and_eq_true, decide_eq_true_eq, Bool.not_eq_true', decide_eq_false_iff_not] at h
    exact ⟨x, hx, d, hd, h.1, h.2⟩
theorem zero_bool (w : World) : (zeroValue 4).run Tryz.prog w = .ok (.bool false) w := by kernel_rfl
theorem mapB_look {w : World} {m N : Nat} {a : List Idn} (h : MapG kyI w m N (inF a)) (x y : Int) (hw : wfId (x, y)) : (Instr.lookup 73 (.map (some m)) (.agg #[.int .i64 x, .int .i64 y]) false).run Tryz.prog w = .ok (.bool (decide ((x, y) ∈ a))) w := by
  have := h.look Tryz.underlying73 zero_bool (x := (x, y)) hw
  have e : ((inF a (x, y)).getD (.bool false)) = .bool (decide ((x, y) ∈ a)) := by
    unfold inF
    by_cases h : (x, y) ∈ a
    · rw [if_pos h, decide_eq_true h]; rfl
    · rw [if_neg h, decide_eq_false h]; rfl
  rw [e] at this; exact this
set_option maxHeartbeats 4000000 in
theorem leadc_any (bo bw mo mw : Nat) (a b : List Idn) (x y : Int) (W : World) (ho : W.cell? ⟨bo, 0, none⟩ = some (.map (some mo))) (hw : W.cell? ⟨bw, 0, none⟩ = some (.map (some mw))) (Mo : MapG kyI W mo 1000000 (inF b)) (Mw : MapG kyI W mw 1000000 (inF a)) (hx : wfId (x, y)) :
    Calls Tryz.prog 37 #[.agg #[.int .i64 x, .int .i64 y], .pointer (some ⟨bo, 0, none⟩), .pointer (some ⟨bw, 0, none⟩)] W (RetBelow (.bool (decide ((x, y) ∈ b) && !decide ((x, y) ∈ a))) W) := by
  have hb1 := Cmd.below_one W (.cells #[.int .i64 x, .int .i64 y] 43)
  have hx1 := heap_alloc_new W (.cells #[.int .i64 x, .int .i64 y] 43)
  have c0 := cell_row (i := 0) hx1 rfl
  have c1 := cell_row (i := 1) hx1 rfl
  have c2 := (hb1.cell (p := ⟨bo, 0, none⟩) (World.block_lt_of_cell? _ _ ho)).trans ho
  have c3 := (hb1.cell (p := ⟨bw, 0, none⟩) (World.block_lt_of_cell? _ _ hw)).trans hw
  have l0 := mapB_look (Mo.on hb1) x y hx
  have l1 := mapB_look (Mw.on hb1) x y hx
  have HB := Lib.hid hb1
  generalize decide ((x, y) ∈ b) = s at l0 ⊢
  generalize decide ((x, y) ∈ a) = t at l1 ⊢
  clear hb1 hx1 ho hw Mo Mw hx
  cases s with
  | false =>
    go_enter Tryz.func37, Tryz.ntmps37
    go_wp2
    go_ret
    exact ⟨rfl, HB.out⟩
  | true =>
    go_enter Tryz.func37, Tryz.ntmps37
    go_wp2
    go_ret
    exact ⟨rfl, HB.out⟩
set_option maxRecDepth 100000 in
set_option maxHeartbeats 4000000 in
theorem leads_run (g : Nat) (v u : Value) (rs : List Rcd) (a b : List Idn) (W : World) (HR : ∀ X (x y : Int), Below W.heap.size W X → wfId (x, y) → Calls Tryz.prog 62 #[gptr g, .agg #[.int .i64 x, .int .i64 y]] X (GivesD (dpG rs (x, y)) X)) (L : Lot rs) (ha : RowAt W v a) (hb : RowAt W u b) (hla : a.length ≤ 1000000) (hlb : b.length ≤ 1000000) (hwa : ∀ x ∈ a, wfId x) (hwb : ∀ x ∈ b, wfId x) :
    Calls Tryz.prog 17 #[gptr g, v, u] W (RetBelow (.bool (leadsG rs a b)) W) := by
  have HA := Lib.hid (cset_any v a W ha hla hwa)
  have HB := Lib.hid (fun X (hX : Below W.heap.size W X) => cset_any u b X (hb.on hX) hlb hwb)
  have HD := Lib.hid (fun X (hX : Below W.heap.size W X) => cdeps_any (some ⟨g, 0, none⟩) v rs a X (fun Y x y hY => HR Y x y (hX.trans (hY.mono hX.size))) L (ha.on hX) hla hwa)
  have HW : Hid (∀ x ∈ depsL rs a, wfId x) := Lib.hid fun d hd => by
    obtain ⟨x, hx, hd⟩ := depsL_mem.1 hd
    exact deps_wf L d (dp_sub hd)
  have HE : Hid (leadsG rs a b = _) := Lib.hid (leads_any_eq rs a b)
  generalize leadsG rs a b = r at HE ⊢
  clear HR L ha hb hla hlb hwa hwb
  go_enter Tryz.func17, Tryz.ntmps17
  go_wp2_with (first
    | (go_at_call 36; (with_reducible refine HA.out.mono ?_); rintro E w1 ⟨m1, rfl, hm1, hM1, hb1⟩; have HB1 := Lib.hid (HB.out w1 hb1); have B1 := Lib.hid hb1; have M1 := Lib.hid hM1; clear hm1 hM1 hb1 HA)
    | (go_at_call 36; (with_reducible refine HB1.out.mono ?_); rintro E w2 ⟨m2, rfl, hm2, hM2, hb2⟩
       have b2 := B1.out.trans (hb2.mono B1.out.size)
       have a1 := Cmd.below_one w2 (.cells #[.map (some m1)] 73)
       have a2 := Cmd.below_one (w2.alloc (.cells #[.map (some m1)] 73)) (.cells #[.map (some m2)] 73)
       have a3 := a1.trans (a2.mono a1.size)
       have HK := Lib.hid (And.intro (cell_row (i := 0) (heap_alloc_new (w2.alloc (.cells #[.map (some m1)] 73)) (.cells #[.map (some m2)] 73)) rfl) ((a2.cell (p := ⟨w2.heap.size, 0, none⟩) (by simp)).trans (cell_row (i := 0) (heap_alloc_new w2 (.cells #[.map (some m1)] 73)) rfl)))
       have B2 := Lib.hid (b2.trans (a3.mono b2.size))
       have HD2 := Lib.hid (HD.out _ B2.out)
       have M2 := Lib.hid ((M1.out.on hb2).on a3); have N2 := Lib.hid (hM2.on a3); clear hm2 hM2 hb2 HB1 b2 a1 a2 a3)
    | (go_at_call 32; (with_reducible refine HD2.out.mono ?_); rintro E w3 ⟨v3, rfl, ho3, hb3⟩
       have c1 := (hb3.cell (p := ⟨(w2.alloc (.cells #[.map (some m1)] 73)).heap.size, 0, none⟩) (by simp)).trans HK.out.1
       have c2 := (hb3.cell (p := ⟨w2.heap.size, 0, none⟩) (by simp only [World.size_alloc]; omega)).trans HK.out.2
       rw [World.size_alloc] at c1
       have HC3 := Lib.hid (contI_any 37 #[.pointer (some ⟨w2.heap.size + 1, 0, none⟩), .pointer (some ⟨w2.heap.size, 0, none⟩)] (fun d => decide (d ∈ b) && !decide (d ∈ a)) v3 (depsL rs a) w3 ho3.row HW.out (enters_of Tryz.func37 (by kernel_rfl) rfl) (fun X x y hX hxy => leadc_any (w2.heap.size + 1) w2.heap.size m2 m1 a b x y X ((hX.cell (p := ⟨w2.heap.size + 1, 0, none⟩) (World.block_lt_of_cell? _ _ c1)).trans c1) ((hX.cell (p := ⟨w2.heap.size, 0, none⟩) (World.block_lt_of_cell? _ _ c2)).trans c2) ((N2.out.on hb3).on hX) ((M2.out.on hb3).on hX) hxy))
       rw [← HE.out] at HC3
       have B3 := Lib.hid (B2.out.trans (hb3.mono B2.out.size))
       clear c1 c2 ho3 hb3)
    | (go_at_call 31; (with_reducible refine HC3.out.mono ?_); rintro E w4 ⟨rfl, hb4⟩; have B4 := Lib.hid (B3.out.trans (hb4.mono B3.out.size)); clear hb4)
    | fail)
  go_ret
  exact ⟨rfl, B4.out⟩

/-! ### Flat -/
theorem flat_run (v : Value) (l : List (List Idn)) (W : World) (h : layLL.Row W v l) (hl : l.flatten.length ≤ 1000000) (hl2 : l.length ≤ 100000) : Calls Tryz.prog 15 #[v] W (GivesRow l.flatten W) := by
  have HC := Lib.hid (concatL_any v l W h hl hl2)
  clear h hl hl2
  go_enter Tryz.func15, Tryz.ntmps15
  go_wp2_with (first
    | (go_at_call 35; (with_reducible refine HC.out.mono ?_); rintro E w1 ⟨v1, rfl, ho, hb⟩; have HO := Lib.hid ho; have HB := Lib.hid hb; clear ho hb)
    | fail)
  go_ret
  exact ⟨_, rfl, HO.out.row, HB.out⟩

/-! ### The places of ids -/
/-- The last of the first k lists that has an id. -/
def plN (all : List (List Idn)) : Nat → Idn → Option Nat
  | 0, _ => none
  | k + 1, d => if d ∈ nthL all k then some k else plN all k d
abbrev plL (all : List (List Idn)) (d : Idn) : Option Nat := plN all all.length d
def plV (i : Nat) : Value := .int .i64 (i : Int)
def plF (all : List (List Idn)) (k j : Nat) : Idn → Option Value := fun d => if d ∈ (nthL all k).take j then some (plV k) else (plN all k d).map plV
theorem plF_zero (all : List (List Idn)) (k : Nat) : ∀ d, plF all k 0 d = (plN all k d).map plV := fun d => by unfold plF; rw [List.take_zero, if_neg (by simp)]
theorem plF_all (all : List (List Idn)) (k : Nat) : ∀ d, plF all k (nthL all k).length d = plF all (k + 1) 0 d := fun d => by
  rw [plF_zero]
  unfold plF
  rw [List.take_length]
  show _ = (if d ∈ nthL all k then some k else plN all k d).map _
  by_cases h : d ∈ nthL all k
  · rw [if_pos h, if_pos h]; rfl
  · rw [if_neg h, if_neg h]
theorem plF_step (all : List (List Idn)) (k : Nat) {j : Nat} (hj : j < (nthL all k).length) : ∀ d, setF (plF all k j) (nth (nthL all k) j) (some (plV k)) d = plF all k (j + 1) d := fun d => by
  by_cases e : d = nth (nthL all k) j
  · subst e; rw [setF_same]; unfold plF; rw [take_nth hj, if_pos (List.mem_append_right _ (List.mem_singleton.2 rfl))]
  · rw [setF_other _ _ e]
    unfold plF
    rw [take_nth hj]
    by_cases h : d ∈ (nthL all k).take j
    · rw [if_pos h, if_pos (List.mem_append_left _ h)]
    · rw [if_neg h, if_neg (fun h2 => (List.mem_append.1 h2).elim h (fun h3 => e (List.mem_singleton.1 h3)))]
def GivesPl (all : List (List Idn)) (W : World) (E : Ending) (W' : World) : Prop := ∃ m, E = .returned (.map (some m)) ∧ W.heap.size ≤ m ∧ MapG kyI W' m 1000000 (plF all all.length 0) ∧ Below W.heap.size W W'
set_option maxRecDepth 100000 in
set_option maxHeartbeats 4000000 in
theorem places_any (v : Value) (all : List (List Idn)) (W : World) (h : layLL.Row W v all) (hf : all.flatten.length ≤ 1000000) (hw : ∀ c ∈ all, ∀ x ∈ c, wfId x) : Calls Tryz.prog 29 #[v] W (GivesPl all W) := by
  obtain ⟨p, cap, rfl, h1, hd0⟩ := h.parts
  obtain ⟨n, hn⟩ : ∃ n, n = all.length := ⟨_, rfl⟩
  have HF := Lib.hid hf
  have HN := Lib.hid hn
  have HW := Lib.hid hw
  rw [← hn] at h1 hd0 ⊢
  have hd : n = 0 ∨ ∃ B off, p = some ⟨B, off, none⟩ ∧ Hid (layLL.In W B off all) := hd0
  have hmm := @run_makeMap Tryz.prog
  clear h hn hw hf hd0
  go_enter Tryz.func29, Tryz.ntmps29
  go_wp2
  have HM0 : Hid (MapG kyI (W.alloc (.map #[] 0)) W.heap.size ((all.take 0).flatten.length) (plF all 0 0)) := Lib.hid ((MapG.made W).ext fun d => (plF_zero all 0 d).symm)
  have HB0 : Hid (Below W.heap.size W (W.alloc (.map #[] 0))) := Lib.hid (Cmd.below_one W _)
  go_loopw [11] (fun i wr => ∃ k : Nat, i = .int .i64 k ∧ k ≤ n ∧ Hid (MapG kyI wr W.heap.size ((all.take k).flatten.length) (plF all k 0)) ∧ Hid (Below W.heap.size W wr)) (fun i _ => n - (intOf i).toNat)
  case atStart => exact ⟨0, rfl, Nat.zero_le _, HM0, HB0⟩
  case round =>
    clear HM0 HB0
    obtain ⟨k, rfl, hk, hM, hB⟩ := hrel
    have k0 : (0 : Int) ≤ k := by omega
    by_cases hkn : k < n
    · have kn : (k : Int) < n := by omega
      obtain ⟨B, off, rfl, HC⟩ := hd.resolve_left (by omega)
      have hkl : k < all.length := by rw [← HN.out]; exact hkn
      obtain ⟨q, cq, c1, hrow⟩ := llAt (HC.out.on hB.out) hkl
      obtain ⟨m, hm⟩ : ∃ m, m = (all.getD k []).length := ⟨_, rfl⟩
      obtain ⟨q', cq', eq', hm1, hdq0⟩ := Rec.RowAt.parts hrow
      injection eq' with e1 e2 e3
      subst e1
      rw [← hm] at c1 hm1 hdq0
      have hdq : m = 0 ∨ ∃ B off, q = some ⟨B, off, none⟩ ∧ Hid (Row2 wr B off (nthL all k)) := hdq0
      have HMm := Lib.hid hm
      have HWk : Hid (∀ x ∈ nthL all k, wfId x) := Lib.hid fun x hx => HW.out _ (nthL_in hkl) x hx
      have HT : Hid ((all.take (k + 1)).flatten.length = (all.take k).flatten.length + m) := Lib.hid (by rw [Cps.flat_step hkl, List.length_append, hm])
      have HTl : Hid ((all.take k).flatten.length + m ≤ 1000000) := Lib.hid (by have h1 := HT.out; have h2 := Cps.flat_len all (k + 1); have h3 := HF.out; omega)
      clear hrow hm hkl hdq0 e2 e3 cq'
      obtain ⟨wr', hwr'⟩ : ∃ X, X = wr := ⟨_, rfl⟩
      subst hwr'
      go_wp2_with fail
      go_loopw [18] (fun i X => ∃ j : Nat, i = .int .i64 j ∧ j ≤ m ∧ Hid (MapG kyI X W.heap.size ((all.take k).flatten.length + j) (plF all k j)) ∧ Hid (wr'.grownBy X (some W.heap.size))) (fun i _ => m - (intOf i).toNat)
      case atStart => exact ⟨0, rfl, Nat.zero_le _, hM, Lib.hid (grown_lowH _ (Below.refl _ _))⟩
      case round =>
        obtain ⟨j, rfl, hj, hM2, hG2⟩ := hrel
        have j0 : (0 : Int) ≤ j := by omega
        have hB2 : Below W.heap.size W wr := hB.out.trans (grown_belowT hG2.out (Nat.le_refl _) hB.out.size)
        by_cases hjm : j < m
        · have jm : (j : Int) < m := by omega
          obtain ⟨B', off', rfl, HC'⟩ := hdq.resolve_left (by omega)
          have hjl : j < (nthL all k).length := by have := HMm.out; unfold nthL; omega
          obtain ⟨⟨x, y⟩, hxy⟩ : ∃ z, nth (nthL all k) j = z := ⟨_, rfl⟩
          have e0 := grown_cell hG2.out (map_isMap hM.out) (HC'.out.fst j hjl)
          have e1 := grown_cell hG2.out (map_isMap hM.out) (HC'.out.snd j hjl)
          rw [hxy] at e0 e1
          have hb1 := Cmd.below_one wr (.cells #[.int .i64 x, .int .i64 y] 43)
          have hx1 := heap_alloc_new wr (.cells #[.int .i64 x, .int .i64 y] 43)
          have c2 := cell_row (i := 0) hx1 rfl
          have c3 := cell_row (i := 1) hx1 rfl
          have hwf : wfId (x, y) := HWk.out _ (by rw [← hxy]; exact nth_in hjl)
          obtain ⟨w2, hst, hm2, ht2⟩ := (hM2.out.on hb1).store Tryz.underlying66 (by have := HTl.out; omega) (x := (x, y)) hwf (plV k)
          have HM3 : Hid (MapG kyI w2 W.heap.size ((all.take k).flatten.length + (j + 1)) (plF all k (j + 1))) := Lib.hid (hm2.ext (by have := plF_step all k hjl; rw [hxy] at this; exact this))
          have HG3 : Hid (wr'.grownBy w2 (some W.heap.size)) := Lib.hid ((hG2.out.andThen (grown_lowH (some W.heap.size) hb1) (fun j hj => .inr hj)).andThen ht2.grown (fun j hj => .inr hj))
          have hst2 : (Instr.mapUpdate 66 (.map (some W.heap.size)) (.agg #[.int .i64 x, .int .i64 y]) (.int .i64 (k : Int))).run Tryz.prog (wr.alloc (.cells #[.int .i64 x, .int .i64 y] 43)) = .ok () w2 := hst
          clear hst hm2 ht2 hb1 hx1 hxy hjl hwf hB2
          go_wp2
          go_roundw
          case rel => exact ⟨j + 1, by go_num, by omega, HM3, HG3⟩
          case measure => simp [intOf]; omega
        · have jm : ¬ (j : Int) < m := by omega
          have hje : j = m := by omega
          go_wp2
          go_roundw
          case rel => exact ⟨k + 1, by go_num, by omega, Lib.hid (by rw [HT.out, ← hje]; exact hM2.out.ext (by have := plF_all all k; rw [show (nthL all k).length = j by rw [hje, HMm.out]] at this; exact this)), Lib.hid hB2⟩
          case measure => simp [intOf]; omega
    · have kn : ¬ (k : Int) < n := by omega
      have hke : k = n := by omega
      go_wp2
      go_ret
      have h2 := hM.out
      rw [hke, HN.out, List.take_length] at h2
      exact ⟨_, rfl, Nat.le_refl _, h2.mono HF.out, hB.out⟩
end Go.Proofs.YtjokejcokgeeiaaGreat.Can

/- What canon's Right gives (layer 18). Conditions: those in each statement. -/
namespace Go.Proofs.YtjokejcokgeeiaaGreat.Can
open Go.RowKit Cmd Bat Ids Rec Wid Gra Rea Cps Mpg
set_option linter.unusedVariables false
set_option linter.unusedSimpArgs false

/-! ### Plain: places of components; when lists are right -/
theorem plN_some {all : List (List Idn)} : ∀ {k : Nat} {d : Idn} {i : Nat}, plN all k d = some i → i < k ∧ d ∈ nthL all i
  | k + 1, d, i, h => by
    have h : (if d ∈ nthL all k then some k else plN all k d) = some i := h
    by_cases hd : d ∈ nthL all k
    · rw [if_pos hd] at h; injection h with h; subst h; exact ⟨by omega, hd⟩
    · rw [if_neg hd] at h
      have := plN_some h
      exact ⟨by omega, this.2⟩
theorem plN_none {all : List (List Idn)} : ∀ {k : Nat} {d : Idn}, plN all k d = none → ∀ i, i < k → d ∉ nthL all i
  | 0, d, _, i, hi => absurd hi (Nat.not_lt_zero _)
  | k + 1, d, h, i, hi => by
    have h : (if d ∈ nthL all k then some k else plN all k d) = none := h
    by_cases hd : d ∈ nthL all k
    · rw [if_pos hd] at h; cases h
    · rw [if_neg hd] at h
      by_cases e : i = k
      · rw [e]; exact hd
      · exact plN_none h i (by omega)
theorem dj_nth {all : List (List Idn)} (D : all.Pairwise fun c d => ∀ z, z ∈ c → z ∉ d) {i j : Nat} (hi : i < all.length) (hj : j < all.length) {d : Idn} (h1 : d ∈ nthL all i) (h2 : d ∈ nthL all j) : i = j := by
  have e : ∀ {k} (hk : k < all.length), nthL all k = all[k] := fun hk => by unfold nthL; rw [List.getD_eq_getElem?_getD, List.getElem?_eq_getElem hk]; rfl
  rw [e hi] at h1
  rw [e hj] at h2
  rcases Nat.lt_trichotomy i j with h | h | h
  · exact absurd h2 (List.pairwise_iff_getElem.1 D i j hi hj h d h1)
  · exact h
  · exact absurd h1 (List.pairwise_iff_getElem.1 D j i hj hi h d h2)
theorem plL_of {all : List (List Idn)} (D : all.Pairwise fun c d => ∀ z, z ∈ c → z ∉ d) {i : Nat} (hi : i < all.length) {d : Idn} (h : d ∈ nthL all i) : plL all d = some i := by
  cases hp : plL all d with
  | none => exact absurd h (plN_none hp i hi)
  | some j => rw [dj_nth D (plN_some hp).1 hi (plN_some hp).2 h]
theorem in_places {all : List (List Idn)} {ps : List Nat} {d : Idn} : d ∈ (ps.map (nthL all)).flatten ↔ ∃ p ∈ ps, d ∈ nthL all p := by
  rw [List.mem_flatten]
  exact ⟨fun ⟨l, h1, h2⟩ => by obtain ⟨p, hp, rfl⟩ := List.mem_map.1 h1; exact ⟨p, hp, h2⟩, fun ⟨p, hp, h⟩ => ⟨_, List.mem_map.2 ⟨p, hp, rfl⟩, h⟩⟩
/-- Those of the first k lists are right, and are the components at ps. -/
structure Sofar (rs : List Rcd) (x : List (List Idn)) (k : Nat) (ps : List Nat) : Prop where
  right : RightP rs (x.take k)
  is_ : x.take k = ps.map (nthL (ofG rs))
  low : ∀ p ∈ ps, p < (ofG rs).length
/-- Is one of the Deps in a component that is not among those at ps? -/
noncomputable def outQ (rs : List Rcd) (ps : List Nat) (d : Idn) : Bool := !decide ((plL (ofG rs) d).getD 0 ∈ ps)
section
variable {rs : List Rcd} {x : List (List Idn)} {k : Nat} {ps : List Nat}
theorem Sofar.start (rs : List Rcd) (x : List (List Idn)) : Sofar rs x 0 [] := ⟨fun i hi => (by simp at hi), by simp, fun p hp => (by cases hp)⟩
theorem Sofar.none (S : Sofar rs x k ps) (hk : k < x.length) (h : nthL x k = []) : ¬ RightP rs x := fun R => (R k hk).2.1 h
theorem Sofar.lost (S : Sofar rs x k ps) (hk : k < x.length) (h : nthL x k ≠ []) (hp : plL (ofG rs) (nth (nthL x k) 0) = Option.none) : ¬ RightP rs x := fun R => by
  obtain ⟨i, hi, e⟩ := in_nthL (R k hk).1
  refine plN_none hp i hi ?_
  rw [e]; exact nth_in (List.length_pos_iff.2 h)
theorem Sofar.twice (S : Sofar rs x k ps) (hk : k < x.length) (h : nthL x k ≠ []) {at' : Nat} (hp : plL (ofG rs) (nth (nthL x k) 0) = some at') (ha : at' ∈ ps) : ¬ RightP rs x := fun R => by
  refine (R k hk).2.2.1 ?_
  rw [S.is_]
  exact in_places.2 ⟨at', ha, (plN_some hp).2⟩
theorem Sofar.other (S : Sofar rs x k ps) (hk : k < x.length) (h : nthL x k ≠ []) {at' : Nat} (hp : plL (ofG rs) (nth (nthL x k) 0) = some at') (ha : nthL x k ≠ nthL (ofG rs) at') : ¬ RightP rs x := fun R => by
  obtain ⟨i, hi, e⟩ := in_nthL (R k hk).1
  have h1 : nth (nthL x k) 0 ∈ nthL (ofG rs) i := by rw [e]; exact nth_in (List.length_pos_iff.2 h)
  rw [dj_nth (of_parts rs).dj hi (plN_some hp).1 h1 (plN_some hp).2] at e
  exact ha e.symm
theorem out_iff {at' : Nat} (hat : at' < (ofG rs).length) (hl : ∀ p ∈ ps, p < (ofG rs).length) {d : Idn} (hd : ∃ y ∈ nthL (ofG rs) at', d ∈ dpG rs y) : outQ rs (ps ++ [at']) d = true ↔ ¬ (d ∈ (ps.map (nthL (ofG rs))).flatten ∨ d ∈ nthL (ofG rs) at') := by
  obtain ⟨y, hy, hd⟩ := hd
  have hc := closed_dep (comp_mut (nthL_in hat) hy hy).2 hd
  obtain ⟨c, hcm, hdc⟩ := comp_cov hc
  obtain ⟨i, hi, rfl⟩ := in_nthL hcm
  have hp := plL_of (of_parts rs).dj hi hdc
  unfold outQ
  rw [hp, Bool.not_eq_true', decide_eq_false_iff_not]
  show ¬ i ∈ ps ++ [at'] ↔ _
  rw [List.mem_append, List.mem_singleton, in_places]
  refine not_congr (or_congr ⟨fun h => ⟨i, h, hdc⟩, fun ⟨p, h1, h2⟩ => ?_⟩ ⟨fun h => h ▸ hdc, fun h => dj_nth (of_parts rs).dj hi hat hdc h⟩)
  rw [dj_nth (of_parts rs).dj hi (hl p h1) hdc h2]; exact h1
theorem Sofar.open_ (S : Sofar rs x k ps) (hk : k < x.length) {at' : Nat} (hat : at' < (ofG rs).length) (he : nthL x k = nthL (ofG rs) at') (h : (depsL rs (nthL x k)).any (outQ rs (ps ++ [at'])) = true) : ¬ RightP rs x := fun R => by
  obtain ⟨d, hd, hq⟩ := List.any_eq_true.1 h
  obtain ⟨y, hy, hd⟩ := depsL_mem.1 hd
  have := (R k hk).2.2.2 y hy d hd
  rw [S.is_] at this
  rw [he] at this hy
  exact (out_iff hat S.low ⟨y, hy, hd⟩).1 hq this
theorem Sofar.next (S : Sofar rs x k ps) (hk : k < x.length) (h0 : nthL x k ≠ []) {at' : Nat} (hp : plL (ofG rs) (nth (nthL x k) 0) = some at') (ha : at' ∉ ps) (he : nthL x k = nthL (ofG rs) at') (h : (depsL rs (nthL x k)).any (outQ rs (ps ++ [at'])) = false) : Sofar rs x (k + 1) (ps ++ [at']) := by
  have hat := (plN_some hp).1
  have hT : x.take (k + 1) = x.take k ++ [nthL x k] := take_nthL hk
  refine ⟨fun i hi => ?_, by rw [hT, S.is_, he, List.map_append]; rfl, fun p hp => by
    rcases List.mem_append.1 hp with h | h
    · exact S.low p h
    · rw [List.mem_singleton.1 h]; exact hat⟩
  rw [List.length_take] at hi
  have e1 : nthL (x.take (k + 1)) i = nthL x i := nthL_take (by omega)
  have e2 : (x.take (k + 1)).take i = x.take i := by rw [List.take_take]; congr 1; omega
  rw [e1, e2]
  by_cases e : i = k
  · subst e
    refine ⟨by rw [he]; exact nthL_in hat, h0, fun hm => ?_, fun y hy d hd => ?_⟩
    · rw [S.is_] at hm
      obtain ⟨p, h1, h2⟩ := in_places.1 hm
      have := plL_of (of_parts rs).dj (S.low p h1) h2
      rw [hp] at this
      injection this with this
      exact ha (this ▸ h1)
    · rw [S.is_, he]
      refine Classical.byContradiction fun hn => ?_
      have h2 := (out_iff hat S.low ⟨y, by rw [← he]; exact hy, hd⟩).2 hn
      have h3 := List.any_eq_false.1 h d (depsL_mem.2 ⟨y, hy, hd⟩)
      exact h3 h2
  · have h1 := S.right i (by rw [List.length_take]; omega)
    rw [nthL_take (by omega)] at h1
    have e3 : (x.take k).take i = x.take i := by rw [List.take_take]; congr 1; omega
    rw [e3] at h1; exact h1
theorem Sofar.all (S : Sofar rs x x.length ps) : rightG rs x = true := right_iff.2 (by have := S.right; rwa [List.take_length] at this)
end

/-! ### 'place, made := places(all), make([]T, len(all))', in whatever order -/
theorem make_row {t e : TypeId} {z : Value} {bytes : Nat} (ht : Tryz.prog.underlying t = some (.slice e)) (hi : (Tryz.prog.info? e).map (fun i => (i.zero, i.size, i.bytes)) = some (some z, 1, bytes)) (hz : z.cells = #[z]) (hb : bytes ≤ 100) (n : Nat) (hn : n ≤ 1000000) (W : World) :
    (Instr.makeSlice t (.int .i64 (n : Int)) (.int .i64 (n : Int))).run Tryz.prog W = .ok (.slice (some ⟨W.heap.size, 0, none⟩) n n) (W.alloc (.cells (madeCells #[z] n) e)) := by
  obtain ⟨i0, hi, hz0, hz1, hz2⟩ := info_parts hi
  have h1 : bytes * n ≤ 100 * 1000000 := Nat.mul_le_mul hb hn
  have h3 : (i0.bytes : Int) * (n : Int) ≤ 281474976710656 := by
    have h2 : ((bytes * n : Nat) : Int) ≤ 100000000 := by omega
    rw [Int.natCast_mul] at h2
    rw [hz2]; omega
  have := run_make (P := Tryz.prog) W t e i0 z ht hi hz0 .i64 .i64 n n (by omega) (by omega) h3 (by omega)
  rw [Int.toNat_natCast, hz1, hz, Nat.mul_one] at this
  exact this
theorem own_row_made {e : TypeId} {z : Value} (n : Nat) (hn : n ≤ 1000000) {W : World} {base : Nat} (hb : base ≤ W.heap.size) : (W.alloc (.cells (madeCells #[z] n) e)).ownsRow base e 1 (.slice (some ⟨W.heap.size, 0, none⟩) n n) n (List.replicate n z) :=
  ⟨by rw [List.length_replicate, Nat.mul_one], .inr ⟨W.heap.size, n, _, rfl, hb, heap_alloc_new _ _, Nat.le_refl _, by unfold maxLen; omega, by rw [size_madeCells, Nat.mul_one], by rw [toList_madeCells_one, List.take_of_length_le (by rw [List.length_replicate, Nat.mul_one]; exact Nat.le_refl _)]⟩⟩
/-- What stands in memory meanwhile: what each of the four has made; what has been stored. -/
structure Pv (all : List (List Idn)) (n : Nat) (W5 : World) (e tt : TypeId) (xs : List Value) (b1 b4 b5 b6 b7 b8 : Bool) (u17 u20 u6 u7 : Value) (w : World) : Prop where
  low : Below W5.heap.size W5 w
  map : b1 = true → ∃ m, u17 = .map (some m) ∧ W5.heap.size ≤ m ∧ MapG kyI w m 1000000 (plF all all.length 0)
  made : b4 = true → ∃ ub, u20 = .slice (some ⟨ub, 0, none⟩) n n ∧ w.ownsRow W5.heap.size e 1 (.slice (some ⟨ub, 0, none⟩) n n) n xs
  pbx : b5 = true → ∃ ba v, u6 = .pointer (some ⟨ba, 0, none⟩) ∧ W5.heap.size ≤ ba ∧ w.heap[ba]? = some (.cells #[v] 66 (0, 0)) ∧ (b7 = true → v = u17)
  tbx : b6 = true → ∃ bb v, u7 = .pointer (some ⟨bb, 0, none⟩) ∧ W5.heap.size ≤ bb ∧ w.heap[bb]? = some (.cells #[v] tt (0, 0)) ∧ (b8 = true → v = u20)
  o7 : b7 = true → b1 = true ∧ b5 = true ∧ b6 = true
  o8 : b8 = true → b7 = true ∧ b4 = true
section
variable {all : List (List Idn)} {n : Nat} {W5 w w' : World} {e tt : TypeId} {xs : List Value} {b1 b4 b5 b6 b7 b8 : Bool} {u17 u20 u6 u7 : Value}
theorem Pv.below (h : Pv all n W5 e tt xs b1 b4 b5 b6 b7 b8 u17 u20 u6 u7 w) (hb : Below w.heap.size w w') : Pv all n W5 e tt xs b1 b4 b5 b6 b7 b8 u17 u20 u6 u7 w' where
  low := h.low.trans (hb.mono h.low.size)
  map := fun t => by obtain ⟨m, e1, e2, e3⟩ := h.map t; exact ⟨m, e1, e2, e3.on hb⟩
  made := fun t => by obtain ⟨ub, e1, e2⟩ := h.made t; exact ⟨ub, e1, own_below e2 hb⟩
  pbx := fun t => by obtain ⟨ba, v, e1, e2, e3, e4⟩ := h.pbx t; exact ⟨ba, v, e1, e2, (hb.block ba (Array.getElem?_eq_some_iff.1 e3).1).trans e3, e4⟩
  tbx := fun t => by obtain ⟨ba, v, e1, e2, e3, e4⟩ := h.tbx t; exact ⟨ba, v, e1, e2, (hb.block ba (Array.getElem?_eq_some_iff.1 e3).1).trans e3, e4⟩
  o7 := h.o7
  o8 := h.o8
theorem Pv.one (h : Pv all n W5 e tt xs b1 b4 b5 b6 b7 b8 u17 u20 u6 u7 w) (h0 : b1 = false) (hb : Below w.heap.size w w') {m : Nat} (hm : w.heap.size ≤ m) (M : MapG kyI w' m 1000000 (plF all all.length 0)) : Pv all n W5 e tt xs true b4 b5 b6 b7 b8 (.map (some m)) u20 u6 u7 w' := by
  have k := h.below hb
  have h7 : b7 = false := by
    cases b7 with
    | false => rfl
    | true => exact absurd (h.o7 rfl).1 (by rw [h0]; decide)
  subst h7
  exact ⟨k.low, fun _ => ⟨m, rfl, Nat.le_trans h.low.size hm, M⟩, k.made, fun t => by obtain ⟨ba, v, e1, e2, e3, e4⟩ := k.pbx t; exact ⟨ba, v, e1, e2, e3, fun h => (by cases h)⟩, k.tbx, fun h => (by cases h), k.o8⟩
theorem Pv.four (h : Pv all n W5 e tt xs b1 b4 b5 b6 b7 b8 u17 u20 u6 u7 w) (h0 : b4 = false) (hb : Below w.heap.size w w') {ub : Nat} (ho : w'.ownsRow w.heap.size e 1 (.slice (some ⟨ub, 0, none⟩) n n) n xs) : Pv all n W5 e tt xs b1 true b5 b6 b7 b8 u17 (.slice (some ⟨ub, 0, none⟩) n n) u6 u7 w' := by
  have k := h.below hb
  have h8 : b8 = false := by
    cases b8 with
    | false => rfl
    | true => exact absurd (h.o8 rfl).2 (by rw [h0]; decide)
  subst h8
  exact ⟨k.low, k.map, fun _ => ⟨ub, rfl, own_mono ho h.low.size⟩, k.pbx, fun t => by obtain ⟨ba, v, e1, e2, e3, e4⟩ := k.tbx t; exact ⟨ba, v, e1, e2, e3, fun h => (by cases h)⟩, k.o7, fun h => (by cases h)⟩
theorem Pv.five (h : Pv all n W5 e tt xs b1 b4 b5 b6 b7 b8 u17 u20 u6 u7 w) (h0 : b5 = false) (v : Value) : Pv all n W5 e tt xs b1 b4 true b6 b7 b8 u17 u20 (.pointer (some ⟨w.heap.size, 0, none⟩)) u7 (w.alloc (.cells #[v] 66)) := by
  have k := h.below (Cmd.below_one w (.cells #[v] 66))
  have h7 : b7 = false := by
    cases b7 with
    | false => rfl
    | true => exact absurd (h.o7 rfl).2.1 (by rw [h0]; decide)
  subst h7
  exact ⟨k.low, k.map, k.made, fun _ => ⟨w.heap.size, v, rfl, h.low.size, heap_alloc_new _ _, fun h => (by cases h)⟩, k.tbx, fun h => (by cases h), k.o8⟩
theorem Pv.six (h : Pv all n W5 e tt xs b1 b4 b5 b6 b7 b8 u17 u20 u6 u7 w) (h0 : b6 = false) (v : Value) : Pv all n W5 e tt xs b1 b4 b5 true b7 b8 u17 u20 u6 (.pointer (some ⟨w.heap.size, 0, none⟩)) (w.alloc (.cells #[v] tt)) := by
  have k := h.below (Cmd.below_one w (.cells #[v] tt))
  have h7 : b7 = false := by
    cases b7 with
    | false => rfl
    | true => exact absurd (h.o7 rfl).2.2 (by rw [h0]; decide)
  have h8 : b8 = false := by
    cases b8 with
    | false => rfl
    | true => exact absurd (h.o8 rfl).1 (by rw [h7]; decide)
  subst h7; subst h8
  exact ⟨k.low, k.map, k.made, k.pbx, fun _ => ⟨w.heap.size, v, rfl, h.low.size, heap_alloc_new _ _, fun h => (by cases h)⟩, fun h => (by cases h), fun h => (by cases h)⟩
theorem map_store {f : Idn → Option Value} {m N g : Nat} {u v : Value} {t : TypeId} (M : MapG kyI w m N f) (hg : w.heap[g]? = some (.cells #[v] t (0, 0))) : MapG kyI (w.setCell ⟨g, 0, none⟩ u) m N f := by
  obtain ⟨es, c, hm⟩ := map_isMap M
  exact M.block (Below.heap_setCell _ _ _ _ (fun e => by have e : m = g := e; subst e; rw [hg] at hm; cases hm))
theorem box_other {g b : Nat} {u v : Value} {t t' : TypeId} {cs : Array Value} (ht : t ≠ t') (hg : w.heap[g]? = some (.cells #[v] t (0, 0))) (hb : w.heap[b]? = some (.cells cs t' (0, 0))) : (w.setCell ⟨g, 0, none⟩ u).heap[b]? = some (.cells cs t' (0, 0)) := by
  rw [Below.heap_setCell _ _ _ _ (fun e => by have e : b = g := e; subst e; rw [hg] at hb; injection hb with hb; injection hb with h1 h2; exact ht h2)]; exact hb
theorem own_store {g base n s : Nat} {u v z : Value} {t t' : TypeId} {xs : List Value} (ht : t ≠ t') (hg : w.heap[g]? = some (.cells #[v] t (0, 0))) (ho : w.ownsRow base t' s z n xs) : (w.setCell ⟨g, 0, none⟩ u).ownsRow base t' s z n xs := own_far ho (cell_grown w g 0 u) (fun e => by
  rcases ho.2 with ⟨e1, -⟩ | ⟨b, c', cur, e1, hb, hh, -⟩
  · rw [e1] at e; cases e
  · rw [e1] at e
    injection e with e
    subst e
    rw [hg] at hh
    injection hh with hh
    injection hh with h1 h2
    exact ht h2)
theorem Pv.seven (h : Pv all n W5 e tt xs b1 b4 b5 b6 b7 b8 u17 u20 u6 u7 w) (ht : 66 ≠ tt) (he : 66 ≠ e) (h1 : b1 = true) (h5 : b5 = true) (h6 : b6 = true) (h7 : b7 = false) {ba : Nat} (hu : u6 = .pointer (some ⟨ba, 0, none⟩)) : Pv all n W5 e tt xs b1 b4 b5 b6 true b8 u17 u20 u6 u7 (w.setCell ⟨ba, 0, none⟩ u17) := by
  obtain ⟨ba', v, e1, e2, e3, e4⟩ := h.pbx h5
  obtain rfl : ba' = ba := by rw [hu] at e1; injection e1 with e1; injection e1 with e1; injection e1 with e1; exact e1.symm
  have hlow : Below W5.heap.size W5 (w.setCell ⟨ba', 0, none⟩ u17) := h.low.trans (grown_belowT (cell_grown w ba' 0 u17) e2 h.low.size)
  refine ⟨hlow, fun t => ?_, fun t => ?_, fun t => ⟨ba', u17, e1, e2, box_store e3, fun _ => rfl⟩, fun t => ?_, fun _ => ⟨h1, h5, h6⟩, fun t => ⟨rfl, (h.o8 t).2⟩⟩
  · obtain ⟨m, q1, q2, q3⟩ := h.map t; exact ⟨m, q1, q2, map_store q3 e3⟩
  · obtain ⟨ub, q1, q2⟩ := h.made t; exact ⟨ub, q1, own_store he e3 q2⟩
  · obtain ⟨bb, v', q1, q2, q3, q4⟩ := h.tbx t; exact ⟨bb, v', q1, q2, box_other ht e3 q3, q4⟩
theorem Pv.eight (h : Pv all n W5 e tt xs b1 b4 b5 b6 b7 b8 u17 u20 u6 u7 w) (ht : 66 ≠ tt) (he : tt ≠ e) (h4 : b4 = true) (h6 : b6 = true) (h7 : b7 = true) {bb : Nat} (hu : u7 = .pointer (some ⟨bb, 0, none⟩)) : Pv all n W5 e tt xs b1 b4 b5 b6 b7 true u17 u20 u6 u7 (w.setCell ⟨bb, 0, none⟩ u20) := by
  obtain ⟨bb', v, e1, e2, e3, e4⟩ := h.tbx h6
  obtain rfl : bb' = bb := by rw [hu] at e1; injection e1 with e1; injection e1 with e1; injection e1 with e1; exact e1.symm
  have hlow : Below W5.heap.size W5 (w.setCell ⟨bb', 0, none⟩ u20) := h.low.trans (grown_belowT (cell_grown w bb' 0 u20) e2 h.low.size)
  refine ⟨hlow, fun t => ?_, fun t => ?_, fun t => ?_, fun t => ⟨bb', u20, e1, e2, box_store e3, fun _ => rfl⟩, h.o7, fun _ => ⟨h7, h4⟩⟩
  · obtain ⟨m, q1, q2, q3⟩ := h.map t; exact ⟨m, q1, q2, map_store q3 e3⟩
  · obtain ⟨ub, q1, q2⟩ := h.made t; exact ⟨ub, q1, own_store he e3 q2⟩
  · obtain ⟨ba, v', q1, q2, q3, q4⟩ := h.pbx t; exact ⟨ba, v', q1, q2, box_other ht.symm e3 q3, q4⟩
end
/-- What may come up next. -/
def chkP (b1 b4 b5 b6 b7 b8 : Bool) (i : Nat) : Bool := (decide (i = 1) && !b1) || ((decide (i = 4) && !b4) || ((decide (i = 5) && !b5) || ((decide (i = 6) && !b6) || ((decide (i = 7) && (!b7 && (b1 && (b5 && b6)))) || (decide (i = 8) && (!b8 && (b7 && (b4 && b6))))))))
theorem chk_out {b1 b4 b5 b6 b7 b8 : Bool} {i : Nat} (h : chkP b1 b4 b5 b6 b7 b8 i = true) : (i = 1 ∧ b1 = false) ∨ (i = 4 ∧ b4 = false) ∨ (i = 5 ∧ b5 = false) ∨ (i = 6 ∧ b6 = false) ∨ (i = 7 ∧ b7 = false ∧ b1 = true ∧ b5 = true ∧ b6 = true) ∨ (i = 8 ∧ b8 = false ∧ b7 = true ∧ b4 = true ∧ b6 = true) := by
  unfold chkP at h
  simpa only [Bool.or_eq_true, Bool.and_eq_true, decide_eq_true_eq, Bool.not_eq_true'] using h
theorem rdy_of {md : Region.Mode} {ops : Array Oper} {L : Array Bool} {i : Nat} {c : Nat → Bool} (hi : i ∈ Region.ready md ops L) (h : (Region.ready md ops L).all c = true) : c i = true := List.all_eq_true.1 h i hi
def cntP (b1 b4 b5 b6 b7 b8 : Bool) : Nat := b1.not.toNat + b4.not.toNat + b5.not.toNat + b6.not.toNat + b7.not.toNat + b8.not.toNat
theorem cnt1 {f : Nat} {b4 b5 b6 b7 b8 : Bool} (h : f + 1 = cntP false b4 b5 b6 b7 b8) : f = cntP true b4 b5 b6 b7 b8 := by unfold cntP at *; simp only [Bool.not_false, Bool.not_true, Bool.toNat_true, Bool.toNat_false] at *; omega
theorem cnt4 {f : Nat} {b1 b5 b6 b7 b8 : Bool} (h : f + 1 = cntP b1 false b5 b6 b7 b8) : f = cntP b1 true b5 b6 b7 b8 := by unfold cntP at *; simp only [Bool.not_false, Bool.not_true, Bool.toNat_true, Bool.toNat_false] at *; omega
theorem cnt5 {f : Nat} {b1 b4 b6 b7 b8 : Bool} (h : f + 1 = cntP b1 b4 false b6 b7 b8) : f = cntP b1 b4 true b6 b7 b8 := by unfold cntP at *; simp only [Bool.not_false, Bool.not_true, Bool.toNat_true, Bool.toNat_false] at *; omega
theorem cnt6 {f : Nat} {b1 b4 b5 b7 b8 : Bool} (h : f + 1 = cntP b1 b4 b5 false b7 b8) : f = cntP b1 b4 b5 true b7 b8 := by unfold cntP at *; simp only [Bool.not_false, Bool.not_true, Bool.toNat_true, Bool.toNat_false] at *; omega
theorem cnt7 {f : Nat} {b1 b4 b5 b6 b8 : Bool} (h : f + 1 = cntP b1 b4 b5 b6 false b8) : f = cntP b1 b4 b5 b6 true b8 := by unfold cntP at *; simp only [Bool.not_false, Bool.not_true, Bool.toNat_true, Bool.toNat_false] at *; omega
theorem cnt8 {f : Nat} {b1 b4 b5 b6 b7 : Bool} (h : f + 1 = cntP b1 b4 b5 b6 b7 false) : f = cntP b1 b4 b5 b6 b7 true := by unfold cntP at *; simp only [Bool.not_false, Bool.not_true, Bool.toNat_true, Bool.toNat_false] at *; omega
theorem cnt_zero {b1 b4 b5 b6 b7 b8 : Bool} (h : 0 = cntP b1 b4 b5 b6 b7 b8) : b1 = true ∧ b4 = true ∧ b5 = true ∧ b6 = true ∧ b7 = true ∧ b8 = true := by
  revert h; cases b1 <;> cases b4 <;> cases b5 <;> cases b6 <;> cases b7 <;> cases b8 <;> decide

/-! ### Right -/
theorem zero_int (w : World) : (zeroValue 3).run Tryz.prog w = .ok (.int .i64 0) w := by kernel_rfl
theorem mapP_look {w : World} {m N : Nat} {all : List (List Idn)} (h : MapG kyI w m N (plF all all.length 0)) (x y : Int) (hw : wfId (x, y)) : (Instr.lookup 66 (.map (some m)) (.agg #[.int .i64 x, .int .i64 y]) false).run Tryz.prog w = .ok (.int .i64 ((plL all (x, y)).getD 0 : Nat)) w := by
  have := h.look Tryz.underlying66 zero_int (x := (x, y)) hw
  rw [plF_zero] at this
  have e : (((plN all all.length (x, y)).map plV).getD (.int .i64 0)) = .int .i64 ((plL all (x, y)).getD 0 : Nat) := by
    unfold plL
    cases plN all all.length (x, y) with
    | none => rfl
    | some i => rfl
  rw [e] at this; exact this
theorem mapP_look_ok {w : World} {m N : Nat} {all : List (List Idn)} (h : MapG kyI w m N (plF all all.length 0)) (x y : Int) (hw : wfId (x, y)) : (Instr.lookup 66 (.map (some m)) (.agg #[.int .i64 x, .int .i64 y]) true).run Tryz.prog w = .ok (.tuple #[.int .i64 ((plL all (x, y)).getD 0 : Nat), .bool (plL all (x, y)).isSome]) w := by
  have := h.look_ok Tryz.underlying66 zero_int (x := (x, y)) hw
  rw [plF_zero] at this
  have e : (((plN all all.length (x, y)).map plV).getD (.int .i64 0)) = .int .i64 ((plL all (x, y)).getD 0 : Nat) ∧ ((plN all all.length (x, y)).map plV).isSome = (plL all (x, y)).isSome := by
    unfold plL
    cases plN all all.length (x, y) with
    | none => exact ⟨rfl, rfl⟩
    | some i => exact ⟨rfl, rfl⟩
  rw [e.1, e.2] at this; exact this
/-- What Right keeps: places, what is taken. -/
structure Rt (rs : List Rcd) (W5 : World) (m ba bb ub : Nat) (ps : List Nat) (w : World) : Prop where
  low : Below W5.heap.size W5 w
  map : MapG kyI w m 1000000 (plF (ofG rs) (ofG rs).length 0)
  pc : w.cell? ⟨ba, 0, none⟩ = some (.map (some m))
  tc : w.cell? ⟨bb, 0, none⟩ = some (.slice (some ⟨ub, 0, none⟩) (ofG rs).length (ofG rs).length)
  own : OwnB w W5.heap.size ub (ofG rs).length ps
  ne : ub ≠ ba ∧ ub ≠ bb
section
variable {rs : List Rcd} {W5 w w' : World} {m ba bb ub : Nat} {ps : List Nat}
theorem Rt.on (h : Rt rs W5 m ba bb ub ps w) (hb : Below w.heap.size w w') : Rt rs W5 m ba bb ub ps w' :=
  ⟨h.low.trans (hb.mono h.low.size), h.map.on hb, (hb.cell (p := ⟨ba, 0, none⟩) (World.block_lt_of_cell? _ _ h.pc)).trans h.pc, (hb.cell (p := ⟨bb, 0, none⟩) (World.block_lt_of_cell? _ _ h.tc)).trans h.tc, own_below h.own hb, h.ne⟩
theorem ob_lt {base n : Nat} (h : OwnB w base ub n ps) : base ≤ ub ∧ ub < w.heap.size := World.ownsRow.lt h ub rfl
theorem Rt.take (h : Rt rs W5 m ba bb ub ps w) {k : Nat} (hk : k < (ofG rs).length) : Rt rs W5 m ba bb ub (ps ++ [k]) (w.setCell ⟨ub, k, none⟩ (.bool true)) := by
  obtain ⟨r1, r2⟩ := World.ownsRow.stored h.own k (.bool true)
  rw [u_set ps hk] at r1
  have hl := ob_lt h.own
  refine ⟨h.low.trans (grown_belowT r2 hl.1 h.low.size), ?_, ?_, ?_, r1, h.ne⟩
  · obtain ⟨es, c, hm⟩ := map_isMap h.map
    refine h.map.block (r2.block m (Array.getElem?_eq_some_iff.1 hm).1 fun e => ?_)
    injection e with e
    subst e
    rcases h.own.2 with ⟨e1, -⟩ | ⟨g, c', cur, e1, hb, hh, -⟩
    · cases e1
    · injection e1 with e1; injection e1 with e1; injection e1 with e1; subst e1
      rw [hm] at hh; cases hh
  · exact (World.cell?_of_block (w := w) (a := ⟨ba, 0, none⟩) (r2.block ba (World.block_lt_of_cell? _ _ h.pc) (fun e => h.ne.1 (by injection e with e; exact e.symm)))).trans h.pc
  · exact (World.cell?_of_block (w := w) (a := ⟨bb, 0, none⟩) (r2.block bb (World.block_lt_of_cell? _ _ h.tc) (fun e => h.ne.2 (by injection e with e; exact e.symm)))).trans h.tc
end
theorem u_none (n : Nat) : U n [] = List.replicate n (.bool false) := by
  refine List.ext_getElem? fun j => ?_
  by_cases hj : j < n
  · rw [u_at _ hj, List.getElem?_replicate, if_pos hj]; simp
  · rw [List.getElem?_eq_none (by rw [u_len]; omega), List.getElem?_eq_none (by rw [List.length_replicate]; omega)]
theorem box_own {w : World} {g b base s n : Nat} {v z : Value} {t t' : TypeId} {xs : List Value} (ht : t ≠ t') (hg : w.heap[g]? = some (.cells #[v] t (0, 0))) (ho : w.ownsRow base t' s z n xs) (hz : z.ownBlock = some b) : b ≠ g := fun e => by
  subst e
  rcases ho.2 with ⟨e1, -⟩ | ⟨b', c', cur, e1, hb, hh, -⟩
  · rw [e1] at hz; cases hz
  · rw [e1] at hz
    injection hz with hz
    subst hz
    rw [hg] at hh
    injection hh with hh
    injection hh with h1 h2
    exact ht h2
/-- Behind the region. -/
theorem Pv.rt {rs : List Rcd} {W5 w : World} {u17 u20 u6 u7 : Value} (h : Pv (ofG rs) (ofG rs).length W5 4 57 (List.replicate (ofG rs).length (.bool false)) true true true true true true u17 u20 u6 u7 w) :
    ∃ m ba bb ub, u17 = .map (some m) ∧ u20 = .slice (some ⟨ub, 0, none⟩) (ofG rs).length (ofG rs).length ∧ u6 = .pointer (some ⟨ba, 0, none⟩) ∧ u7 = .pointer (some ⟨bb, 0, none⟩) ∧ Rt rs W5 m ba bb ub [] w := by
  obtain ⟨m, rfl, -, hM⟩ := h.map rfl
  obtain ⟨ub, rfl, hO⟩ := h.made rfl
  obtain ⟨ba, v, rfl, -, hc, hv⟩ := h.pbx rfl
  obtain ⟨bb, v', rfl, -, hc', hv'⟩ := h.tbx rfl
  obtain rfl := hv rfl
  obtain rfl := hv' rfl
  exact ⟨m, ba, bb, ub, rfl, rfl, rfl, rfl, h.low, hM, cell_row (i := 0) hc rfl, cell_row (i := 0) hc' rfl, by unfold OwnB; rw [u_none]; exact hO, box_own (by decide) hc hO rfl, box_own (by decide) hc' hO rfl⟩
theorem plL_lt {all : List (List Idn)} (h : 0 < all.length) (d : Idn) : (plL all d).getD 0 < all.length := by
  cases hp : plL all d with
  | none => exact h
  | some i => exact (plN_some hp).1
set_option maxHeartbeats 4000000 in
theorem rightc_any (rs : List Rcd) (W5 w : World) (m ba bb ub : Nat) (ps : List Nat) (x y : Int) (R : Rt rs W5 m ba bb ub ps w) (hx : wfId (x, y)) (h0 : 0 < (ofG rs).length) :
    Calls Tryz.prog 33 #[.agg #[.int .i64 x, .int .i64 y], .pointer (some ⟨bb, 0, none⟩), .pointer (some ⟨ba, 0, none⟩)] w (RetBelow (.bool (outQ rs ps (x, y))) w) := by
  have hb1 := Cmd.below_one w (.cells #[.int .i64 x, .int .i64 y] 43)
  have hx1 := heap_alloc_new w (.cells #[.int .i64 x, .int .i64 y] 43)
  have c0 := cell_row (i := 0) hx1 rfl
  have c1 := cell_row (i := 1) hx1 rfl
  have R1 := R.on hb1
  have c2 := R1.pc
  have c3 := R1.tc
  have hlk : ∀ q, (Instr.lookup 66 (.map (some m)) (.agg #[.int .i64 x, .int .i64 y]) false).run Tryz.prog ((w.alloc (.cells #[.int .i64 x, .int .i64 y] 43)).drewN q) = .ok (.int .i64 ((plL (ofG rs) (x, y)).getD 0 : Nat)) ((w.alloc (.cells #[.int .i64 x, .int .i64 y] 43)).drewN q) := fun q => mapP_look (R1.map.drewn q) x y hx
  have hlt := plL_lt h0 (x, y)
  have HE : Hid (outQ rs ps (x, y) = !decide ((plL (ofG rs) (x, y)).getD 0 ∈ ps)) := Lib.hid rfl
  have c4 := ob_cell R1.own hlt
  generalize outQ rs ps (x, y) = r at HE ⊢
  generalize (plL (ofG rs) (x, y)).getD 0 = i at hlk hlt c4 HE
  generalize decide (i ∈ ps) = b at c4 HE
  generalize (ofG rs).length = n at hlt c3
  have i0 : (0 : Int) ≤ i := by omega
  have i1 : (i : Int) < n := by omega
  have HB := Lib.hid hb1
  clear hb1 hx1 R R1 hx h0 hlt
  go_enter Tryz.func33, Tryz.ntmps33
  go_wp2
  go_quiet (fail)
  go_wp2
  go_ret
  exact ⟨ret_bool HE.out.symm, HB.out.trans ((Bat.below_drN (Below.refl _ _) _).mono HB.out.size)⟩
end Go.Proofs.YtjokejcokgeeiaaGreat.Can
/- What canon's Right gives (layer 18), its walk. Conditions: those in each statement. -/
namespace Go.Proofs.YtjokejcokgeeiaaGreat.Can
open Go.RowKit Cmd Bat Ids Rec Wid Gra Rea Cps Mpg
set_option linter.unusedVariables false
set_option linter.unusedSimpArgs false

/-- What a graph's Record gives, from a world on. -/
def RecIs (gp : Option Addr) (rs : List Rcd) (W : World) : Prop := ∀ X (x y : Int), Below W.heap.size W X → wfId (x, y) → Calls Tryz.prog 62 #[.pointer gp, .agg #[.int .i64 x, .int .i64 y]] X (GivesD (dpG rs (x, y)) X)
theorem RecIs.on {gp : Option Addr} {rs : List Rcd} {W W' : World} (h : RecIs gp rs W) (hb : Below W.heap.size W W') : RecIs gp rs W' := fun X x y hX => h X x y (hb.trans (hX.mono hb.size))
theorem rdy_ne {l : List Nat} (h : l = []) (h2 : l.isEmpty = false) : False := by subst h; cases h2
theorem of_in {rs : List Rcd} {c : List Idn} (hc : c ∈ ofG rs) {x : Idn} (hx : x ∈ c) : x ∈ closedG rs := (comp_mut hc hx hx).2
theorem of_wf {rs : List Rcd} (L : Lot rs) {c : List Idn} (hc : c ∈ ofG rs) {x : Idn} (hx : x ∈ c) : wfId x := closed_wf L x (of_in hc hx)
theorem of_nd {rs : List Rcd} : (ofG rs).flatten.Nodup := by
  unfold List.Nodup
  rw [List.pairwise_flatten]
  exact ⟨fun c hc => (of_parts rs).nd c hc, (of_parts rs).dj.imp fun {c d} h x hx y hy e => h x hx (by rw [show x = y from e]; exact hy)⟩
theorem of_flat {rs : List Rcd} (L : Lot rs) : (ofG rs).flatten.length ≤ 1000000 := by
  have h1 := nodup_lenI (a := (ofG rs).flatten) (b := closedG rs) of_nd fun x hx => by obtain ⟨c, hc, hx⟩ := List.mem_flatten.1 hx; exact of_in hc hx
  have := closed_few L
  omega
theorem len_some : ∀ {l : List (List Idn)}, (∀ c ∈ l, c ≠ []) → l.length ≤ l.flatten.length
  | [], _ => by simp
  | c :: l, h => by
    have h1 := len_some (l := l) fun d hd => h d (List.mem_cons_of_mem _ hd)
    have h2 := List.length_pos_iff.2 (h c List.mem_cons_self)
    rw [List.flatten_cons, List.length_append, List.length_cons]; omega
theorem of_few {rs : List Rcd} (L : Lot rs) : (ofG rs).length ≤ 1000 := by
  have h0 := len_some (l := ofG rs) fun c hc => comp_some hc
  have h1 := nodup_lenI (a := (ofG rs).flatten) (b := closedG rs) of_nd fun x hx => by obtain ⟨c, hc, hx⟩ := List.mem_flatten.1 hx; exact of_in hc hx
  have := closed_few L
  omega
set_option maxRecDepth 100000 in
set_option maxHeartbeats 16000000 in
theorem right_run (g : Nat) (v : Value) (rs : List Rcd) (l : List (List Idn)) (W : World) (HO : Calls Tryz.prog 23 #[gptr g] W (GivesLL (ofG rs) W)) (HR : RecIs (some ⟨g, 0, none⟩) rs W) (L : Lot rs) (h : layLL.Row W v l) (hl : l.length ≤ 1000) (hf : l.flatten.length ≤ 1000000) (hw : ∀ c ∈ l, ∀ x ∈ c, wfId x) :
    Calls Tryz.prog 12 #[gptr g, v] W (RetBelow (.bool (rightG rs l)) W) := by
  obtain ⟨p, cap, rfl, h1, hd0⟩ := h.parts
  obtain ⟨n, hn⟩ : ∃ n, n = l.length := ⟨_, rfl⟩
  have HOf := Lib.hid HO
  have HRc := Lib.hid HR
  have HLt := Lib.hid L
  have HF := Lib.hid hf
  have HN := Lib.hid hn
  have HW := Lib.hid hw
  rw [← hn] at h1 hd0 ⊢
  have hd : n = 0 ∨ ∃ B off, p = some ⟨B, off, none⟩ ∧ Hid (layLL.In W B off l) := hd0
  clear h hl hf hn hw hd0 HO HR L
  have hmk := make_row (t := 57) (e := 4) (z := .bool false) (bytes := 1) Tryz.underlying57 (by kernel_rfl) rfl (by decide)
  go_enter Tryz.func12, Tryz.ntmps12
  go_wp2_with (first
    | (go_at_call 23; (with_reducible refine HOf.out.mono ?_); rintro E w1 ⟨v1, rfl, hr, hb⟩; have HA1 := Lib.hid hr; have HB1 := Lib.hid hb; clear hr hb)
    | fail)
  obtain ⟨p1, k1, hv1, hnn, hd1⟩ := HA1.out.parts
  subst hv1
  obtain ⟨nn, hnn'⟩ : ∃ nn, nn = (ofG rs).length := ⟨_, rfl⟩
  have HNN := Lib.hid hnn'
  have HNL : Hid ((ofG rs).length ≤ 1000) := Lib.hid (of_few HLt.out)
  rw [← hnn'] at hnn hd1 HA1 ⊢
  have hnn1 : nn ≤ 1000 := by have := HNL.out; omega
  have hmk1 := hmk nn (by omega)
  have D5 : Hid (Below W.heap.size W w1.drew) := Lib.hid HB1.out.drew
  have A5 : Hid (layLL.Row w1.drew (.slice p1 nn k1) (ofG rs)) := Lib.hid (HA1.out.on (Below.refl _ _).drew)
  clear hnn' hmk HA1 HB1 hd1
  refine wp_region_held_drew (S := (fun _ => True)) (by kernel_rfl) (trivial) (fun hHeld => ?_)
  generalize w1.drew = W5 at D5 A5 hHeld ⊢
  have HPl : Hid (∀ X, Below W5.heap.size W5 X → Calls Tryz.prog 29 #[.slice p1 nn k1] X (GivesPl (ofG rs) X)) := Lib.hid fun X hX => places_any _ (ofG rs) X (A5.out.on hX) (of_flat HLt.out) (fun c hc x hx => of_wf HLt.out hc hx)
  refine ty (v := ?_) 0 (fun w hSw => ?_) ?_
  rotate_left
  · (try dsimp only at hSw); go_simp; (try with_reducible rfl)
  try simp only [List.getElem_toArray, List.getElem_cons_succ, List.getElem_cons_zero, Act.put, List.setIfInBounds_toArray, List.set_cons_zero, List.set_cons_succ]
  refine ty (v := ?_) 2 (fun w hSw => ?_) ?_
  rotate_left
  · (try dsimp only at hSw); go_simp; (try with_reducible rfl)
  try simp only [List.getElem_toArray, List.getElem_cons_succ, List.getElem_cons_zero, Act.put, List.setIfInBounds_toArray, List.set_cons_zero, List.set_cons_succ]
  refine ty (v := ?_) 3 (fun w hSw => ?_) ?_
  rotate_left
  · (try dsimp only at hSw); go_simp; (try with_reducible rfl)
  try simp only [List.getElem_toArray, List.getElem_cons_succ, List.getElem_cons_zero, Act.put, List.setIfInBounds_toArray, List.set_cons_zero, List.set_cons_succ]
  refine held_inv (fun f L a w => ∃ (b1 b4 b5 b6 b7 b8 : Bool) (u17 u20 u6 u7 : Value), L = #[true, b1, true, true, b4, b5, b6, b7, b8] ∧ f = cntP b1 b4 b5 b6 b7 b8 ∧ a = { tmps := #[gptr g, .slice p n cap, undef, undef, .bool false, .slice p1 nn k1, u6, u7, undef, undef, undef, undef, gptr g, .bool false, gptr g, .slice p1 nn k1, .slice p1 nn k1, u17, .slice p1 nn k1, .int .i64 nn, u20, undef, undef, undef, undef, undef, undef, undef, undef, undef, undef, undef, undef, undef, undef, undef, undef, undef, undef, undef, undef, undef, undef, undef, undef, undef, undef, undef, undef, undef, undef, undef, undef, undef, undef, undef, undef, undef, undef, undef, undef, undef, undef, undef], defers := [] } ∧ Hid (Pv (ofG rs) nn W5 4 57 (List.replicate nn (.bool false)) b1 b4 b5 b6 b7 b8 u17 u20 u6 u7 w)) ?_ ?_ _ _ _ _ ⟨false, false, false, false, false, false, undef, undef, undef, undef, by kernel_rfl, by kernel_rfl, rfl, Lib.hid ⟨Below.refl _ _, fun h => (by cases h), fun h => (by cases h), fun h => (by cases h), fun h => (by cases h), fun h => (by cases h), fun h => (by cases h)⟩⟩
  · rintro L a w ⟨b1, b4, b5, b6, b7, b8, u17, u20, u6, u7, rfl, hf, rfl, hP⟩
    obtain ⟨rfl, rfl, rfl, rfl, rfl, rfl⟩ := cnt_zero hf
    refine ⟨by kernel_rfl, ?_⟩
    have HRt0 := hP.out
    rw [HNN.out] at HRt0
    obtain ⟨m, ba, bb, ub, rfl, hu20, rfl, rfl, hRt⟩ := Pv.rt HRt0
    rw [← HNN.out] at hu20
    subst hu20
    have HR0 := Lib.hid hRt
    have HAI : Hid (nn = 0 ∨ ∃ B off, p1 = some ⟨B, off, none⟩ ∧ Hid (layLL.In W5 B off (ofG rs))) := Lib.hid (by
      obtain ⟨p', c', e, -, h5⟩ := A5.out.parts
      injection e with e1 e2 e3
      subst e1
      rw [HNN.out]; exact h5)
    have DW : Hid (Below W.heap.size W w) := Lib.hid (D5.out.trans (hRt.low.mono D5.out.size))
    clear hP hf HRt0 hRt HPl hmk1 hHeld
    go_wp2_with fail
    go_loopw [23] (fun i wr => ∃ (k : Nat) (ps : List Nat), i = .int .i64 k ∧ k ≤ n ∧ Hid (Sofar rs l k ps) ∧ Hid (Rt rs W5 m ba bb ub ps wr)) (fun i _ => n - (intOf i).toNat)
    case atStart => exact ⟨0, [], rfl, Nat.zero_le _, Lib.hid (Sofar.start rs l), HR0⟩
    case round =>
      clear HR0
      obtain ⟨k, ps, rfl, hk, hS, hR⟩ := hrel
      have k0 : (0 : Int) ≤ k := by omega
      by_cases hkn : k < n
      · have kn : (k : Int) < n := by omega
        obtain ⟨B, off, rfl, HC⟩ := hd.resolve_left (by omega)
        have hkl : k < l.length := by rw [← HN.out]; exact hkn
        have HBW : Hid (Below W.heap.size W wr) := Lib.hid (D5.out.trans (hR.out.low.mono D5.out.size))
        obtain ⟨q, cq, c1', hrowW⟩ := llAt HC.out hkl
        have c1 := (HBW.out.cell (p := ⟨B, off + k, none⟩) (World.block_lt_of_cell? _ _ c1')).trans c1'
        have hrow := hrowW.on HBW.out
        obtain ⟨c, hc⟩ : ∃ c, c = nthL l k := ⟨_, rfl⟩
        have HCq := Lib.hid hc
        have HKL := Lib.hid hkl
        obtain ⟨s, hs⟩ : ∃ s, s = (l.getD k []).length := ⟨_, rfl⟩
        have HSl : Hid (s = c.length) := Lib.hid (by rw [hs, hc])
        rw [← hs] at c1 hrow hrowW
        have HRowW : Hid (RowAt W (.slice q s cq) c) := Lib.hid (by rw [hc]; exact hrowW)
        have HRow : Hid (RowAt wr (.slice q s cq) c) := Lib.hid (by rw [hc]; exact hrow)
        clear hrow hc hkl hs hrowW c1'
        by_cases hs0 : s = 0
        · subst hs0
          have HE : Hid (rightG rs l = false) := Lib.hid (right_no (hS.out.none HKL.out (by rw [← HCq.out]; exact List.eq_nil_of_length_eq_zero HSl.out.symm)))
          go_wp2
          go_ret
          exact ⟨ret_bool HE.out.symm, HBW.out⟩
        · have sp : 0 < s := by omega
          have hne : c ≠ [] := by intro e; have := HSl.out; rw [e] at this; exact hs0 this
          have HNE : Hid (nthL l k ≠ []) := Lib.hid (by rw [← HCq.out]; exact hne)
          obtain ⟨p', c', e', -, hdr⟩ := Rec.RowAt.parts HRow.out
          injection e' with e1 e2 e3
          subst e1
          obtain ⟨B', off', rfl, HC'⟩ := hdr.resolve_left (by rw [← HSl.out]; exact hs0)
          obtain ⟨⟨x, y⟩, hxy⟩ : ∃ z, nth c 0 = z := ⟨_, rfl⟩
          have e0 : wr.cell? ⟨B', off', none⟩ = some (.int .i64 x) := by have := HC'.out.fst 0 (List.length_pos_iff.2 hne); rw [hxy] at this; exact this
          have e1 : wr.cell? ⟨B', off' + 1, none⟩ = some (.int .i64 y) := by have := HC'.out.snd 0 (List.length_pos_iff.2 hne); rw [hxy] at this; exact this
          have HWC : Hid (∀ z ∈ c, wfId z) := Lib.hid (by rw [HCq.out]; exact HW.out _ (nthL_in HKL.out))
          have HX : Hid ((x, y) ∈ c ∧ wfId (x, y)) := Lib.hid (by
            have : (x, y) ∈ c := by rw [← hxy]; exact nth_in (List.length_pos_iff.2 hne)
            exact ⟨this, HWC.out _ this⟩)
          have HXY : Hid (nth (nthL l k) 0 = (x, y)) := Lib.hid (by rw [← HCq.out]; exact hxy)
          have hlk := fun j => mapP_look_ok (hR.out.map.drewn j) x y HX.out.2
          have c2 := hR.out.pc
          have c3 : wr.cell? ⟨bb, 0, none⟩ = some (.slice (some ⟨ub, 0, none⟩) nn nn) := by rw [HNN.out]; exact hR.out.tc
          clear hne hdr e2 e3 hxy
          cases hp : plL (ofG rs) (x, y) with
          | none =>
            rw [hp] at hlk
            have HE : Hid (rightG rs l = false) := Lib.hid (right_no (hS.out.lost HKL.out HNE.out (by rw [HXY.out]; exact hp)))
            clear hp
            go_wp2
            go_quiet (fail)
            go_wp2
            go_ret
            exact ⟨ret_bool HE.out.symm, HBW.out.trans ((Bat.below_drN (Below.refl _ _) _).mono HBW.out.size)⟩
          | some at' =>
            rw [hp] at hlk
            have HPl : Hid (plL (ofG rs) (nth (nthL l k) 0) = some at') := Lib.hid (by rw [HXY.out]; exact hp)
            have hat := (plN_some hp).1
            have HAt := Lib.hid hat
            rw [← HNN.out] at hat
            have a0 : (0 : Int) ≤ at' := by omega
            have a1 : (at' : Int) < nn := by omega
            have c4 := ob_cell hR.out.own HAt.out
            clear hp hat
            by_cases hin : at' ∈ ps
            · rw [decide_eq_true hin] at c4
              have HE : Hid (rightG rs l = false) := Lib.hid (right_no (hS.out.twice HKL.out HNE.out HPl.out hin))
              clear hin
              go_wp2
              go_quiet (fail)
              go_wp2
              go_ret
              exact ⟨ret_bool HE.out.symm, HBW.out.trans ((Bat.below_drN (Below.refl _ _) _).mono HBW.out.size)⟩
            · rw [decide_eq_false hin] at c4
              have HIN := Lib.hid hin
              obtain ⟨B1, off1, rfl, HC1⟩ := HAI.out.resolve_left (by omega)
              obtain ⟨q1, cq1, d0, hrow1⟩ := llAt (HC1.out.on hR.out.low) HAt.out
              have HEq := Lib.hid (fun X (hX : Below wr.heap.size wr X) => equal_ids _ _ c (nthL (ofG rs) at') X (HRow.out.on hX) (hrow1.on hX))
              have HRow1 := Lib.hid hrow1
              generalize (List.getD (ofG rs) at' []).length = s1 at d0 HEq HRow1
              clear hin hrow1
              by_cases heq : c = nthL (ofG rs) at'
              · rw [decide_eq_true heq] at HEq
                have HHq : Hid (nthL l k = nthL (ofG rs) at') := Lib.hid (by rw [← HCq.out]; exact heq)
                obtain ⟨t, ht⟩ : ∃ t, t = (depsL rs c).any (outQ rs (ps ++ [at'])) := ⟨_, rfl⟩
                have HT := Lib.hid ht
                have h0n : Hid (0 < (ofG rs).length) := Lib.hid (by have := HAt.out; omega)
                have hcl : Hid (c.length ≤ 1000000) := Lib.hid (by
                  have h1 := len_flat (nthL_in HKL.out)
                  have h2 := HF.out
                  rw [HCq.out]; omega)
                have hdw : Hid (∀ d ∈ depsL rs c, wfId d) := Lib.hid fun d hd => by
                  obtain ⟨z, hz, hd⟩ := depsL_mem.1 hd
                  exact deps_wf HLt.out d (dp_sub hd)
                clear heq ht
                go_wp2
                go_quiet (fail)
                have HEq1 := Lib.hid (HEq.out _ (Bat.below_drN (Below.refl _ _) nq))
                refine Lib.hid ?_
                go_wp2_with (first
                  | (go_at_call 30; (with_reducible refine HEq1.out.mono ?_); rintro E w3 ⟨rfl, hb⟩
                     have hR3 := hR.out.on ((Bat.below_drN (Below.refl _ _) nq).trans hb)
                     have d3 : w3.cell? ⟨bb, 0, none⟩ = some (.slice (some ⟨ub, 0, none⟩) nn nn) := by rw [HNN.out]; exact hR3.tc
                     have d4 := ob_cell hR3.own HAt.out
                     have d5 := ob_free (k := at') hR3.own
                     have HR4 := Lib.hid (hR3.take HAt.out)
                     have HBW4 := Lib.hid (D5.out.trans (HR4.out.low.mono D5.out.size))
                     have HD4 := Lib.hid (cdeps_any (some ⟨g, 0, none⟩) _ rs c _ (HRc.out.on HBW4.out) HLt.out (HRowW.out.on HBW4.out) hcl.out HWC.out)
                     clear hb hR3)
                  | (go_at_call 32; (with_reducible refine HD4.out.mono ?_); rintro E w5 ⟨v5, rfl, ho5, hb5⟩
                     have HR5 := Lib.hid (HR4.out.on hb5)
                     have HC5 := Lib.hid (contI_any 33 #[.pointer (some ⟨bb, 0, none⟩), .pointer (some ⟨ba, 0, none⟩)] (outQ rs (ps ++ [at'])) v5 (depsL rs c) w5 ho5.row hdw.out (enters_of Tryz.func33 (by kernel_rfl) rfl) (fun X x y hX hxy => rightc_any rs W5 X m ba bb ub (ps ++ [at']) x y (HR5.out.on hX) hxy h0n.out))
                     rw [← HT.out] at HC5
                     clear ho5 hb5)
                  | (go_at_call 31; (with_reducible refine HC5.out.mono ?_); rintro E w6 ⟨rfl, hb6⟩; have HR6 := Lib.hid (HR5.out.on hb6); clear hb6; refine Hid.out ?_)
                  | fail)
                cases t with
                | true =>
                  have HE : Hid (rightG rs l = false) := Lib.hid (right_no (hS.out.open_ HKL.out HAt.out HHq.out (by rw [← HCq.out]; exact HT.out.symm)))
                  refine Lib.hid ?_
                  go_wp2
                  go_ret
                  exact ⟨ret_bool HE.out.symm, D5.out.trans (HR6.out.low.mono D5.out.size)⟩
                | false =>
                  have HS6 := Lib.hid (hS.out.next HKL.out HNE.out HPl.out HIN.out HHq.out (by rw [← HCq.out]; exact HT.out.symm))
                  refine Lib.hid ?_
                  go_wp2
                  go_roundw
                  case rel => exact ⟨k + 1, ps ++ [at'], by go_num, by omega, HS6, HR6⟩
                  case measure => simp [intOf]; omega
              · rw [decide_eq_false heq] at HEq
                have HE : Hid (rightG rs l = false) := Lib.hid (right_no (hS.out.other HKL.out HNE.out HPl.out (by rw [← HCq.out]; exact heq)))
                clear heq
                go_wp2
                go_quiet (fail)
                have HEq1 := Lib.hid (HEq.out _ (Bat.below_drN (Below.refl _ _) nq))
                go_wp2_with (first
                  | (go_at_call 30; (with_reducible refine HEq1.out.mono ?_); rintro E w3 ⟨rfl, hb⟩; have HB3 := Lib.hid ((Bat.below_drN (Below.refl _ _) nq).trans hb); clear hb)
                  | fail)
                go_ret
                exact ⟨ret_bool HE.out.symm, HBW.out.trans (HB3.out.mono HBW.out.size)⟩
      · have kn : ¬ (k : Int) < n := by omega
        have hke : k = n := by omega
        have HE : Hid (rightG rs l = true) := Lib.hid (by have := hS.out; rw [hke, HN.out] at this; exact this.all)
        go_wp2
        go_ret
        exact ⟨ret_bool HE.out.symm, D5.out.trans (hR.out.low.mono D5.out.size)⟩
  · rintro f L a w ⟨b1, b4, b5, b6, b7, b8, u17, u20, u6, u7, rfl, hf, rfl, hP⟩
    refine ⟨fun hr => ?_, fun i hi => ?_⟩
    · exfalso
      revert hr hf
      clear hP
      cases b1 <;> cases b4 <;> cases b5 <;> cases b6 <;> cases b7 <;> cases b8 <;> intro hf hr <;> first
        | exact absurd hf (Nat.succ_ne_zero f)
        | exact rdy_ne hr (by kernel_rfl)
    · have hc := chk_out (rdy_of (c := chkP b1 b4 b5 b6 b7 b8) hi (by clear hP hi hf; cases b1 <;> cases b4 <;> cases b5 <;> cases b6 <;> cases b7 <;> cases b8 <;> kernel_rfl))
      clear hi
      rcases hc with ⟨rfl, h0⟩ | ⟨rfl, h0⟩ | ⟨rfl, h0⟩ | ⟨rfl, h0⟩ | ⟨rfl, h0, g1, g5, g6⟩ | ⟨rfl, h0, g7, g4, g6⟩
      · subst h0
        refine op_step rfl (fun K hK => ?_)
        go_simp
        (go_at_call 29; (with_reducible refine (HPl.out _ hP.out.low).mono ?_); rintro E w' ⟨m, rfl, hm, hM, hb⟩; have HP := Lib.hid (hP.out.one rfl hb hm hM); clear hm hM hb)
        exact hK.out _ _ ⟨trivial, true, b4, b5, b6, b7, b8, _, u20, u6, u7, rfl, cnt1 hf, rfl, HP⟩
      · subst h0
        refine op_step rfl (fun K hK => ?_)
        go_simp
        exact hK.out _ _ ⟨trivial, b1, true, b5, b6, b7, b8, u17, _, u6, u7, rfl, cnt4 hf, rfl, Lib.hid (hP.out.four rfl (Cmd.below_one w _) (own_row_made nn (by omega) (Nat.le_refl _)))⟩
      · subst h0
        refine op_step rfl (fun K hK => ?_)
        go_simp
        exact hK.out _ _ ⟨trivial, b1, b4, true, b6, b7, b8, u17, u20, _, u7, rfl, cnt5 hf, rfl, Lib.hid (hP.out.five rfl _)⟩
      · subst h0
        refine op_step rfl (fun K hK => ?_)
        go_simp
        exact hK.out _ _ ⟨trivial, b1, b4, b5, true, b7, b8, u17, u20, u6, _, rfl, cnt6 hf, rfl, Lib.hid (hP.out.six rfl _)⟩
      · subst h0 g1 g5 g6
        obtain ⟨m, rfl, -⟩ := hP.out.map rfl
        obtain ⟨ba, v, rfl, -, hc, -⟩ := hP.out.pbx rfl
        have c0 := cell_row (i := 0) hc rfl
        have f0 : w.frozen? ⟨ba, 0, none⟩ = false := free_row hc
        refine op_step rfl (fun K hK => ?_)
        go_simp
        exact hK.out _ _ ⟨trivial, true, b4, true, true, true, b8, _, u20, _, u7, rfl, cnt7 hf, rfl, Lib.hid (hP.out.seven (by decide) (by decide) rfl rfl rfl rfl rfl)⟩
      · subst h0 g7 g4 g6
        obtain ⟨ub, rfl, -⟩ := hP.out.made rfl
        obtain ⟨ba, v, rfl, -, hc, -⟩ := hP.out.tbx rfl
        have c0 := cell_row (i := 0) hc rfl
        have f0 : w.frozen? ⟨ba, 0, none⟩ = false := free_row hc
        refine op_step rfl (fun K hK => ?_)
        go_simp
        exact hK.out _ _ ⟨trivial, b1, true, b5, true, true, true, u17, _, u6, _, rfl, cnt8 hf, rfl, Lib.hid (hP.out.eight (by decide) (by decide) rfl rfl rfl rfl)⟩
end Go.Proofs.YtjokejcokgeeiaaGreat.Can
