/- What the library's Concat and Reverse give at ids (layer 17, comps). Conditions: those in each statement. -/
import Derived.Test.YtjokejcokgeeiaaGreatTreG
import Derived.Shelf.Spec.SlicesGrow
import Derived.ScopeJumps
import Derived.WalkMore
import Derived.Laws.EntriesVeiled
namespace Go.Proofs.YtjokejcokgeeiaaGreat.Cps
open Go.RowKit Cmd Bat Ids Rec Wid Gra Rea Mpg Go.Sort
set_option linter.unusedVariables false
set_option linter.unusedSimpArgs false

/-! ### Rows of ids as rows of two cells an element -/
def layId : Lay Idn := ⟨(0, 0), fun o j => o + j * 2, fun w b o x => w.cell? ⟨b, o, none⟩ = some (.int .i64 x.1) ∧ w.cell? ⟨b, o + 1, none⟩ = some (.int .i64 x.2),
  fun {w w' b o x} hb h ⟨h0, h1⟩ => ⟨(h.cell (p := ⟨b, o, none⟩) hb).trans h0, (h.cell (p := ⟨b, o + 1, none⟩) hb).trans h1⟩⟩
theorem pair_at {a b : Value} {w : World} {g o : Nat} (h0 : w.cell? ⟨g, o, none⟩ = some a) (h1 : w.cell? ⟨g, o + 1, none⟩ = some b) : ∀ i u, [a, b][i]? = some u → w.cell? ⟨g, o + i, none⟩ = some u
  | 0, u, hu => by injection hu with hu; subst hu; exact h0
  | 1, u, hu => by injection hu with hu; subst hu; exact h1
  | i + 2, u, hu => by simp at hu
def wdId : Wd Idn where
  L := layId
  enc x := ids x
  c := 2
  cpos := by decide
  pos _ _ := rfl
  len _ := rfl
  one x u hu := by
    simp [ids] at hu
    rcases hu with rfl | rfl <;> rfl
  lies h := ⟨h 0 _ rfl, h 1 _ rfl⟩
  cells h := pair_at h.1 h.2
theorem wtId : Wt wdId 38 43 (.agg #[.int .i64 0, .int .i64 0]) 16 := ⟨Tryz.underlying38, by kernel_rfl, by kernel_rfl, by kernel_rfl, by decide⟩
theorem rowId {w : World} {v : Value} {zs : List Idn} (h : RowAt w v zs) : wdId.L.Row w v zs := by
  obtain ⟨p, cap, rfl, h1, h2, -, h3⟩ := h
  refine ⟨p, cap, rfl, h1, h2, fun hz => ?_⟩
  obtain ⟨B, off, rfl, hlt, hc⟩ := h3 hz
  exact ⟨B, off, rfl, hlt, fun j hj => hc j hj⟩

/-! ### Grow of nil -/
theorem grow_any (n : Nat) (w : World) (hn : n ≤ 1000000) : Calls Tryz.prog 63 #[.slice none 0 0, .int .i64 n] w fun E w' => ∃ v, E = .returned v ∧ Owns w' w.heap.size v [] ∧ Below w.heap.size w w' := by
  obtain ⟨i0, hi, hz0, hz1, hz2⟩ := info_parts info_id
  by_cases h0 : n = 0
  · subst h0
    exact (Any8.slices_Grow_room Tryz.growId none 0 0 0 w (Nat.le_refl _) (by omega) (by omega) (by omega)).mono fun e w' ⟨he, hw⟩ => ⟨_, he, World.ownsRow_nil _ _ _ _, by rw [hw]; exact Below.refl _ _⟩
  · refine (Any8.slices_Grow_grow Tryz.growId i0 (.agg #[.int .i64 0, .int .i64 0]) hi hz0 (by rw [hz1]; decide) none 0 0 n [] w (Nat.le_refl _) (by omega) (by rw [hz2]; omega) (by omega) (by simp) (fun _ => rfl) (fun a e => by cases e)).mono fun e w' ⟨he, hw⟩ => ⟨_, he, ?_, by rw [hw]; exact (Below.refl w.heap.size w).drew.trans (show Below w.heap.size w.drew _ from Cmd.below_one w.drew _)⟩
    have hG1 := grownCap_ge w (0 + n) 0 (Tryz.growId_ren.t 25)
    have hG2 := grownCap_le_maxLen w (0 + n) 0 (Tryz.growId_ren.t 25) (by unfold maxLen; omega)
    rw [hw]
    refine ⟨rfl, .inr ⟨w.heap.size, grownCap w (0 + n) 0 (Tryz.growId_ren.t 25), _, rfl, Nat.le_refl _, heap_alloc_new w.drew _, Nat.zero_le _, hG2, ?_, rfl⟩⟩
    have hz : ∀ k, (Builtin.zeroCells (Value.agg #[.int .i64 0, .int .i64 0]).cells k).size = k * 2 := fun k => by unfold Builtin.zeroCells; simp [Value.cells]
    rw [Array.size_append, Array.size_append, hz, hz]
    simp only [List.size_toArray, List.length_nil]
    omega

/-! ### Concat -/
theorem flat_step {l : List (List Idn)} {k : Nat} (hk : k < l.length) : (l.take (k + 1)).flatten = (l.take k).flatten ++ l.getD k [] := by
  rw [List.take_succ_eq_append_getElem hk, List.flatten_append, List.getD_eq_getElem?_getD, List.getElem?_eq_getElem hk]; simp
theorem flat_len (l : List (List Idn)) (k : Nat) : (l.take k).flatten.length ≤ l.flatten.length := by
  have h : l.flatten = (l.take k).flatten ++ (l.drop k).flatten := by rw [← List.flatten_append, List.take_append_drop]
  rw [h, List.length_append]; omega
theorem rowLL {W : World} {v : Value} {rs : List Rw} (h : layRw.Row W v rs) (hr : ∀ r ∈ rs, RowAt W (sliceOf r.1) r.2) : layLL.Row W v (rs.map Prod.snd) := by
  obtain ⟨p, cap, rfl, h1, h2, h3⟩ := h
  have hl : (rs.map Prod.snd).length = rs.length := List.length_map ..
  refine ⟨p, cap, by rw [hl], by rw [hl]; exact h1, h2, fun hz => ?_⟩
  obtain ⟨b, off, rfl, hi⟩ := h3 (by intro e; rw [e] at hz; exact hz rfl)
  refine ⟨b, off, rfl, hi.lt, fun j hj => ?_⟩
  rw [hl] at hj
  have := hi.cell j hj
  rw [layRw.at_get hj] at this
  rw [layLL.at_get (by rw [hl]; exact hj), List.getElem_map]
  exact ⟨_, this, hr _ (List.getElem_mem hj)⟩
set_option maxRecDepth 100000 in
set_option maxHeartbeats 4000000 in
theorem concatL_any (v : Value) (l : List (List Idn)) (W : World) (h : layLL.Row W v l) (hl : l.flatten.length ≤ 1000000) (hl2 : l.length ≤ 100000) :
    Calls Tryz.prog 35 #[v] W fun E W' => ∃ v', E = .returned v' ∧ Owns W' W.heap.size v' l.flatten ∧ Below W.heap.size W W' := by
  obtain ⟨p, cap, rfl, h1, hd0⟩ := h.parts
  obtain ⟨n, hn⟩ : ∃ n, n = l.length := ⟨_, rfl⟩
  have hnl : n ≤ 100000 := by omega
  have HN := Lib.hid hn
  have HL := Lib.hid hl
  obtain ⟨S, hS⟩ : ∃ S, S = l.flatten.length := ⟨_, rfl⟩
  have HS := Lib.hid hS
  rw [← hn] at hd0 ⊢
  have hd : n = 0 ∨ ∃ B off, p = some ⟨B, off, none⟩ ∧ Hid (layLL.In W B off l) := hd0
  have hSl : S ≤ 1000000 := by omega
  have HG := Lib.hid (grow_any S W (by omega))
  clear h hl hl2 hn hS h1 hd0
  go_enter Tryz.func35, Tryz.ntmps35
  go_wp2_with fail
  go_loopw [3, 11] (fun s i wr => ∃ (k m : Nat), i = .int .i64 k ∧ k ≤ n ∧ s = .int .i64 m ∧ Hid (m = (l.take k).flatten.length) ∧ wr = W) (fun _ i _ => n - (intOf i).toNat)
  case atStart => exact ⟨0, 0, rfl, Nat.zero_le _, rfl, Lib.hid (by simp), rfl⟩
  case round =>
    obtain ⟨k, m, rfl, hk, rfl, hm, hw⟩ := hrel
    have hw := hw.symm
    subst hw
    have k0 : (0 : Int) ≤ k := by omega
    have m0 : ¬ ((m : Int) < 0) := by omega
    by_cases hkn : k < n
    · have kn : (k : Int) < n := by omega
      obtain ⟨B, off, rfl, HC⟩ := hd.resolve_left (by omega)
      have hkl : k < l.length := by rw [← HN.out]; exact hkn
      obtain ⟨q, cq, c1, -⟩ := llAt HC.out hkl
      obtain ⟨nq, hq⟩ : ∃ nq, nq = (l.getD k []).length := ⟨_, rfl⟩
      rw [← hq] at c1
      have HM2 : Hid (m + nq = (l.take (k + 1)).flatten.length) := Lib.hid (by rw [flat_step hkl, List.length_append, hm.out, hq])
      have hmb : m + nq ≤ 1000000 := by have h1 := flat_len l (k + 1); have h2 := HM2.out; have h3 := HL.out; omega
      have hwr : IntKind.i64.wrap ((m : Int) + (nq : Int)) = (m : Int) + nq := IntWalk.i64_in _ (by omega)
      have hmn : ¬ ((m : Int) + nq < 0) := by omega
      clear hq hkl
      go_wp2_with fail
      go_roundw
      case rel => exact ⟨k + 1, m + nq, by go_num, by omega, by go_num, HM2, trivial⟩
      case measure => simp [intOf]; omega
    · have kn : ¬ (k : Int) < n := by omega
      have hke : k = n := by omega
      have hmS : m = S := by rw [hm.out, hke, HN.out, List.take_length, HS.out]
      subst hmS
      clear hm
      go_wp2_with (first
        | (go_at_call 63; (with_reducible refine HG.out.mono ?_); rintro E W1 ⟨v1, rfl, ho, hb⟩; have HO1 := Lib.hid ho; have HB1 := Lib.hid hb; clear ho hb)
        | fail)
      have HZ : Hid (W.heap.size ≤ W1.heap.size) := Lib.hid HB1.out.size
      go_loopw [6, 27] (fun o i wr => ∃ k : Nat, i = .int .i64 k ∧ k ≤ n ∧ Hid (Owns wr W.heap.size o (l.take k).flatten) ∧ Hid (Below W.heap.size W wr)) (fun _ i _ => n - (intOf i).toNat)
      case atStart => exact ⟨0, rfl, Nat.zero_le _, HO1, HB1⟩
      case round =>
        clear k0 m0 hkn kn hke hk
        obtain ⟨k, rfl, hk, hO, hB⟩ := hrel
        have k0 : (0 : Int) ≤ k := by omega
        by_cases hkn : k < n
        · have kn : (k : Int) < n := by omega
          obtain ⟨B, off, rfl, HC⟩ := hd.resolve_left (by omega)
          have hkl : k < l.length := by rw [← HN.out]; exact hkn
          obtain ⟨q, cq, c1, hrow⟩ := llAt (HC.out.on hB.out) hkl
          have HU := Lib.hid (rowId hrow)
          have HLT := Lib.hid (flat_step hkl)
          have HLL : Hid ((l.take k).flatten.length + (l.getD k []).length ≤ 1000000) := Lib.hid (by
            have h1 := flat_len l (k + 1)
            rw [flat_step hkl, List.length_append] at h1
            have h4 := HL.out
            omega)
          have HBW : Hid (W.heap.size ≤ wr.heap.size) := Lib.hid hB.out.size
          clear hrow hkl
          generalize l.getD k [] = c at c1 HU HLT HLL
          obtain ⟨nq, hq⟩ : ∃ nq, nq = c.length := ⟨_, rfl⟩
          rw [← hq] at c1 HU
          clear hq
          go_wp2_with (first
            | (at_builtin; refine wp_wide wtId rfl _ _ rfl W.heap.size _ _ rfl hO.out HBW.out _ _ rfl HU.out HLL.out ?_; intro v3 w3 HV3 HB3 HG3)
            | fail)
          go_roundw
          case rel => exact ⟨k + 1, by go_num, by omega, Lib.hid (by rw [HLT.out]; exact HV3.out), Lib.hid (hB.out.trans HB3.out)⟩
          case measure => simp [intOf]; omega
        · have kn : ¬ (k : Int) < n := by omega
          have hke : k = n := by omega
          go_wp2
          go_ret
          have h1 := hO.out
          rw [hke, HN.out, List.take_length] at h1
          exact ⟨_, rfl, h1, hB.out⟩

/-! ### Reverse -/
theorem putK_grown {α : Type} [Inhabited α] (enc : α → List Value) (k : Nat) (w : World) (g off m : Nat) (d : Array α) : w.grownBy (putRowK enc k (Sort.ahead w m) g off d) (some g) := by
  have h := sortK_grown enc k w g off m d #[]
  unfold sortWorldK at h
  rw [grow_empty] at h
  exact h
theorem reverse_any (v : Value) (c : List Idn) (base : Nat) (w : World) (h : Owns w base v c) (hl : c.length ≤ 100000) : Calls Tryz.prog 48 #[v] w fun E w' => E = .returned (.tuple #[]) ∧ RowAt w' v c.reverse ∧ w.grownBy w' v.ownBlock := by
  by_cases hz : c = []
  · subst hz
    obtain ⟨p, cap, rfl, _⟩ := h.row
    exact (AnyQ.slices_Reverse_empty Tryz.revId p cap w).mono fun e w' ⟨he, hw⟩ => ⟨he, by rw [hw]; exact h.row, by rw [hw]; exact grown_lowT _ (Below.refl _ _)⟩
  · obtain ⟨g, cp, rfl, hg0, hgl, hcp, hcm, hh⟩ := Owns.hold h hz
    have hsz : c.toArray.size = c.length := by simp
    have hcon := AnyQ.slices_Reverse Tryz.revId 2 Tryz.isAgg43 Tryz.sizeOf43 ids (fun _ => rfl) (fun x v hv => by simp [ids] at hv; rcases hv with rfl | rfl <;> rfl) g 0 cp c.toArray w hh (by rw [hsz]; omega)
    rw [hsz] at hcon
    refine hcon.mono fun e w' ⟨he, m, hw⟩ => ?_
    have hgr : w.grownBy w' (some g) := by rw [hw]; exact putK_grown ids 2 w g 0 m _
    have k1 := holdsK_putRowK ids 2 (Sort.ahead w m) g 0 c.toArray c.toArray.reverse (holdsK_ahead ids 2 w m g 0 _ hh) (by simp)
    rw [← hw] at k1
    have hr := row_of_hold (cap := cp) k1 (Nat.lt_of_lt_of_le hgl hgr.size) (by simp; omega) hcm
    have e1 : c.toArray.reverse.size = c.length := by simp
    have e2 : c.toArray.reverse.toList = c.reverse := by simp
    rw [e1, e2] at hr
    exact ⟨he, hr, hgr⟩
end Go.Proofs.YtjokejcokgeeiaaGreat.Cps

/- What the developers' along gives, and the graph's Users, as functions of next ids; what is found, in order, plain (layer 17, comps). Conditions: those in each statement. -/
namespace Go.Proofs.YtjokejcokgeeiaaGreat.Cps
open Go.RowKit Cmd Bat Ids Rec Wid Gra Rea Mpg Go.Sort
set_option linter.unusedVariables false
set_option linter.unusedSimpArgs false

theorem along_any (gp : Option Addr) (w : World) : Calls Tryz.prog 46 #[.pointer gp] w fun E w' => E = .returned (.func (.func 83) #[] #[.pointer (some ⟨w.heap.size, 0, none⟩)]) ∧ w' = w.alloc (.cells #[.pointer gp] 27) := by
  go_enter Tryz.func46, Tryz.ntmps46
  go_wp2
  go_ret
  exact ⟨rfl, rfl⟩
set_option maxHeartbeats 1000000 in
theorem alongn_any (gp : Option Addr) (rs : List Rcd) (w W : World) (A : Asks gp rs w) (hb : Below w.heap.size w W) (bg : Nat) (hc : W.cell? ⟨bg, 0, none⟩ = some (.pointer gp)) (a b : Int) (hw : wfId (a, b)) :
    Calls Tryz.prog 83 #[.agg #[.int .i64 a, .int .i64 b], .pointer (some ⟨bg, 0, none⟩)] W (GivesOwned (dpG rs (a, b)) W) := by
  have hb1 := Cmd.below_one W (.cells #[.int .i64 a, .int .i64 b] 43)
  have C1 := Lib.hid (A.recd _ a b (hb.trans (hb1.mono hb.size)) hw)
  have hx := heap_alloc_new W (.cells #[.int .i64 a, .int .i64 b] 43)
  have c0 := cell_row (i := 0) hx rfl
  have c1 := cell_row (i := 1) hx rfl
  have c2 := (hb1.cell (p := ⟨bg, 0, none⟩) (World.block_lt_of_cell? _ _ hc)).trans hc
  have HB := Lib.hid hb1
  clear hx hc hb1 A hb hw
  go_enter Tryz.func83, Tryz.ntmps83
  go_wp2_with (go_at_call 62; (with_reducible refine C1.out.mono ?_); rintro E w1 ⟨x0, x1, x2, p, n, c, p', n', c', ok, rfl, ho, hb1⟩; have HO := Lib.hid ho; have HB1 := Lib.hid hb1; clear ho hb1)
  go_ret
  have hb2 := Cmd.below_one w1 (.cells #[.int .i64 x0, .int .i64 x1, .int .i64 x2, .slice p n c, .slice p' n' c'] 46)
  exact ⟨_, rfl, own_mono (own_below HO.out hb2) HB.out.size, (HB.out.trans (HB1.out.mono HB.out.size)).trans (hb2.mono (Nat.le_trans HB.out.size HB1.out.size))⟩
theorem dp_few {rs : List Rcd} (h : Lot rs) (x : Idn) : (dpG rs x).length ≤ 100000 := by
  unfold dpG
  cases hf : rs.find? (fun r => decide (r.1 = x)) with
  | none => simp
  | some r =>
    have := (h.low r (List.mem_of_find?_eq_some hf)).1
    show r.2.2.1.length ≤ _
    omega
theorem users_few {rs : List Rcd} (h : Lot rs) (x : Idn) : (gUsers rs x).length ≤ 100000 := by
  have h1 := srt_length (usersL rs x)
  have h2 : (usersL rs x).length ≤ rs.length := by unfold usersL idsG; rw [List.length_map]; exact List.length_filter_le _ _
  have h3 := h.few
  unfold gUsers
  omega
theorem ids_wf {rs : List Rcd} (h : Lot rs) : ∀ x ∈ idsG rs, wfId x := fun x hx => by
  obtain ⟨r, hr, rfl⟩ := List.mem_map.1 hx
  exact (h.wf r hr).id
theorem nexts_along {gp : Option Addr} {rs : List Rcd} {w W : World} (A : Asks gp rs w) (hb : Below w.heap.size w W) {bg : Nat} (hc : W.cell? ⟨bg, 0, none⟩ = some (.pointer gp)) : NextsB 83 #[] #[.pointer (some ⟨bg, 0, none⟩)] (dpG rs) W :=
  ⟨enters_of Tryz.func83 (by kernel_rfl) rfl, fun X hX x y hw => alongn_any gp rs w X A (hb.trans (hX.mono hb.size)) bg ((hX.cell (p := ⟨bg, 0, none⟩) (World.block_lt_of_cell? _ _ hc)).trans hc) x y hw,
    fun x y hy => deps_wf A.lot.1 y (dp_sub hy), dp_few A.lot.1⟩
theorem nexts_users {gp : Option Addr} {rs : List Rcd} {w W : World} (A : Asks gp rs w) (hb : Below w.heap.size w W) : NextsB 49 #[.pointer gp] #[] (gUsers rs) W :=
  ⟨enters_of Tryz.func49 (by kernel_rfl) rfl, fun X hX x y hw => A.users X x y (hb.trans (hX.mono hb.size)) hw,
    fun x y hy => ids_wf A.lot.1 y ((gusers_iff (gerr_nodup A.lot.2)).1 hy).1, users_few A.lot.1⟩

/-! ### Plain: what is found, in order -/
theorem of_final {rs : List Rcd} {L' : List Idn} {all fin : List (List Idn)} (F : Found (dpG rs) (closedG rs) L' all) (hL : ∀ z ∈ closedG rs, z ∉ L') (hp : fin.Perm (all.map (sortR rs))) (hs : fin.Pairwise fun c d => decide (cfR rs (closedG rs) (nth d 0) (nth c 0) < 0) = false) : fin = ofG rs := by
  have mem : ∀ c0 ∈ all, ∀ z, z ∈ sortR rs c0 ↔ z ∈ c0 := fun c0 hc z => by
    rw [sortR_mem]
    obtain ⟨r, -, h⟩ := F.cls c0 hc
    exact ⟨fun h => h.1, fun hz => ⟨hz, closed_in ((h z).1 hz).1⟩⟩
  have cls : ∀ c ∈ fin, ∃ c0 ∈ all, c = sortR rs c0 := fun c hc => by
    obtain ⟨c0, h0, e⟩ := List.mem_map.1 (hp.mem_iff.1 hc)
    exact ⟨c0, h0, e.symm⟩
  have head : ∀ c ∈ fin, nth c 0 ∈ c ∧ nth c 0 ∈ closedG rs := fun c hc => by
    obtain ⟨c0, h0, rfl⟩ := cls c hc
    obtain ⟨r, hr, h⟩ := F.cls c0 h0
    have h1 : r ∈ sortR rs c0 := (mem c0 h0 r).2 hr
    have h2 : nth (sortR rs c0) 0 ∈ sortR rs c0 := nth_in (List.length_pos_of_mem h1)
    exact ⟨h2, ((h _).1 ((mem c0 h0 _).1 h2)).1⟩
  have hd : fin.Pairwise fun c d => ∀ z, z ∈ c → z ∉ d := by
    refine (hp.pairwise_iff (fun {x y} h z hz hz' => h z hz' hz)).2 ?_
    rw [List.pairwise_map]
    have hn := F.nd
    unfold List.Nodup at hn
    rw [List.pairwise_flatten] at hn
    refine List.Pairwise.imp_of_mem (fun {a b} ha hb hab z hz hz' => ?_) hn.2
    exact hab z ((mem a ha z).1 hz) z ((mem b hb z).1 hz') rfl
  refine of_is (fun c hc => ?_) (fun z hz => ?_) (fun c hc => ?_) ?_
  · obtain ⟨c0, h0, rfl⟩ := cls c hc
    obtain ⟨r, hr, h⟩ := F.cls c0 h0
    exact ⟨r, (mem c0 h0 r).2 hr, fun z => (mem c0 h0 z).trans (h z)⟩
  · obtain ⟨c0, h0, hz0⟩ := ((F.cov z).1 hz).resolve_left (hL z hz)
    exact ⟨sortR rs c0, hp.mem_iff.2 (List.mem_map.2 ⟨c0, h0, rfl⟩), (mem c0 h0 z).2 hz0⟩
  · obtain ⟨c0, h0, rfl⟩ := cls c hc
    exact sortR_rise rs c0
  · have hboth := List.Pairwise.and hs hd
    refine List.Pairwise.imp_of_mem (fun {c d} hc hdm ⟨h1, h2⟩ => ?_) hboth
    obtain ⟨c1, c2⟩ := head c hc
    obtain ⟨d1, d2⟩ := head d hdm
    rw [cfR_in d2 c2] at h1
    cases h3 : ltR rs (nth c 0) (nth d 0) with
    | true => rfl
    | false => exact absurd d1 (h2 (nth d 0) (by rw [← ltR_tot h3 h1]; exact c1))
end Go.Proofs.YtjokejcokgeeiaaGreat.Cps

/- What the developers' Of gives (layer 17, comps): all components, in order. Conditions: those in each statement. -/
namespace Go.Proofs.YtjokejcokgeeiaaGreat.Cps
open Go.RowKit Cmd Bat Ids Rec Wid Gra Rea Mpg Go.Sort
set_option linter.unusedVariables false
set_option linter.unusedSimpArgs false

theorem srt_riseK {zs : List Idn} (h : Rise zs) : srt zs = zs := rise_eq (srt_rise zs) h (srt_mem zs)
theorem closed_rise (rs : List Rcd) : Rise (closedG rs) := by unfold closedG; exact srt_rise _
theorem closed_wf {rs : List Rcd} (h : Lot rs) : ∀ x ∈ closedG rs, wfId x := fun x hx => ids_wf h x (closed_in hx)
theorem closed_few {rs : List Rcd} (h : Lot rs) : (closedG rs).length ≤ 1000 := Nat.le_trans (closed_len rs) h.few
theorem order_len {nx : Idn → List Idn} {V O : List Idn} (h : Order nx V O) (hV : V.Nodup) : O.length = V.length := Nat.le_antisymm (nodup_lenI h.nd fun z hz => (h.mem z).1 hz) (nodup_lenI hV fun z hz => (h.mem z).2 hz)
/-- Between two rounds of the sorting of rows. -/
structure Srt (recs : List Rcd) (l : List Idn) (bo mr ba base : Nat) (v : Value) (rows : List Rw) (k : Nat) (wr : World) : Prop where
  own : wdRw.Own 38 wr base v rows
  done : ∀ j (hj : j < rows.length), j < k → RowAt wr (sliceOf (rows[j]).1) (sortR recs (rows[j]).2)
  rest : ∀ j (hj : j < rows.length), k ≤ j → Owns wr base (sliceOf (rows[j]).1) (rows[j]).2
  ord : OrdAt wr bo mr recs l
  box : wr.cell? ⟨ba, 0, none⟩ = some (ordV bo)
/-- Which blocks are which. -/
structure Blk (bo mr ba : Nat) (v : Value) (rows : List Rw) : Prop where
  row : ∀ r ∈ rows, ∀ b, (sliceOf r.1).ownBlock = some b → b ≠ bo ∧ b ≠ mr ∧ b ≠ ba ∧ v.ownBlock ≠ some b
  apart : ∀ i j (hi : i < rows.length) (hj : j < rows.length), i ≠ j → ∀ b, (sliceOf (rows[i]).1).ownBlock = some b → (sliceOf (rows[j]).1).ownBlock ≠ some b
theorem blk_apart {rows : List Rw} (h : rows.Pairwise fun a b => ∀ k, (sliceOf a.1).ownBlock = some k → (sliceOf b.1).ownBlock ≠ some k) : ∀ i j (hi : i < rows.length) (hj : j < rows.length), i ≠ j → ∀ b, (sliceOf (rows[i]).1).ownBlock = some b → (sliceOf (rows[j]).1).ownBlock ≠ some b := fun i j hi hj hne b e e2 => by
  rcases Nat.lt_or_gt_of_ne hne with hlt | hlt
  · exact List.pairwise_iff_getElem.1 h i j hi hj hlt b e e2
  · exact List.pairwise_iff_getElem.1 h j i hj hi hlt b e2 e
section
variable {recs : List Rcd} {l : List Idn} {bo mr ba base : Nat} {v : Value} {rows : List Rw} {k : Nat} {wr w' : World}
theorem Srt.below (S : Srt recs l bo mr ba base v rows k wr) (hb : Below wr.heap.size wr w') : Srt recs l bo mr ba base v rows k w' :=
  ⟨S.own.below hb, fun j hj hk => (S.done j hj hk).on hb, fun j hj hk => own_below (S.rest j hj hk) hb, S.ord.below hb, (hb.cell (p := ⟨ba, 0, none⟩) (World.block_lt_of_cell? _ _ S.box)).trans S.box⟩
theorem Srt.step (S : Srt recs l bo mr ba base v rows k wr) (B : Blk bo mr ba v rows) (hk : k < rows.length) (hr : RowAt w' (sliceOf (rows[k]).1) (sortR recs (rows[k]).2)) (hg : wr.grownBy w' (sliceOf (rows[k]).1).ownBlock) : Srt recs l bo mr ba base v rows (k + 1) w' := by
  have hmem : rows[k] ∈ rows := List.getElem_mem hk
  have hself := B.row _ hmem
  refine ⟨World.ownsRow.kept S.own hg ?_, fun j hj hjk => ?_, fun j hj hjk => ?_, S.ord.far hg (fun e => (hself _ e).1 rfl) (fun e => (hself _ e).2.1 rfl), (World.cell?_of_block (w := wr) (a := ⟨ba, 0, none⟩) (hg.block ba (World.block_lt_of_cell? _ _ S.box) (fun e => (hself _ e.symm).2.2.1 rfl))).trans S.box⟩
  · cases hv : v.ownBlock with
    | none => exact .inl rfl
    | some b => exact .inr fun e => (hself b e.symm).2.2.2 hv
  · by_cases e : j = k
    · subst e; exact hr
    · exact rowat_far (S.done j hj (by omega)) hg fun b eb e2 => B.apart j k hj hk e b eb e2
  · refine World.ownsRow.kept (S.rest j hj (by omega)) hg ?_
    cases hv : (sliceOf (rows[j]).1).ownBlock with
    | none => exact .inl rfl
    | some b => exact .inr fun e => B.apart j k hj hk (by omega) b hv e.symm
end
/-- What stands at the jump: the order in which ids were gone is turned round. -/
structure Turned (gp : Option Addr) (rs : List Rcd) (w : World) (u1 v4 : Value) (O : List Idn) (W : World) : Prop where
  below : Below w.heap.size w W
  row : RowAt W u1 (closedG rs)
  ord : Order (dpG rs) (closedG rs) O
  turn : RowAt W v4 O.reverse
abbrev usersV (gp : Option Addr) : Value := .func (.func 49) #[.pointer gp] #[]
def OfJ (gp : Option Addr) (rs : List Rcd) (w : World) (a : Act) (W : World) : Prop :=
  ∃ (u1 v4 : Value) (O : List Idn) (x1 x7 x8 x9 x10 x11 x12 x13 x14 x15 x16 x17 x18 x19 x20 x21 x22 x23 x24 x25 x26 x27 x28 x29 x30 x31 x32 x33 x34 x35 x36 x37 x38 x39 x40 x41 x42 x43 : Value),
    a = { tmps := #[.pointer gp, x1, .slice none 0 0, u1, v4, usersV gp, .bool true, x7, x8, x9, x10, x11, x12, x13, x14, x15, x16, x17, x18, x19, x20, x21, x22, x23, x24, x25, x26, x27, x28, x29, x30, x31, x32, x33, x34, x35, x36, x37, x38, x39, x40, x41, x42, x43], defers := [] } ∧ Turned gp rs w u1 v4 O W
theorem flat_mapR (f : List Idn → List Idn) (rows : List Rw) : wdRw.flat (rows.map fun r => (r.1, f r.2)) = wdRw.flat rows := by
  unfold Wd.flat
  rw [List.flatMap_map]; rfl
theorem own_mapR {e : TypeId} {w : World} {base : Nat} {v : Value} {rows : List Rw} (h : wdRw.Own e w base v rows) (f : List Idn → List Idn) : wdRw.Own e w base v (rows.map fun r => (r.1, f r.2)) := by
  unfold Wd.Own at *
  rw [flat_mapR, List.length_map]; exact h
/-- What the second going has found. -/
theorem found_of {rs : List Rcd} (hd : (idsG rs).Nodup) {O L : List Idn} {all : List (List Idn)} (ho : Order (dpG rs) (closedG rs) O) (ht : Trees (gUsers rs) (srt O.reverse) O.reverse L all) : Found (dpG rs) (closedG rs) L all ∧ ∀ z ∈ closedG rs, z ∉ L := by
  have e : srt O.reverse = closedG rs := rise_eq (srt_rise _) (closed_rise rs) fun x => by rw [srt_mem, List.mem_reverse, ho.mem]
  rw [e] at ht
  refine ⟨ht.found ho closed_reach (fun x hx y hy => ?_) ⟨[], by simp⟩, fun z hz => ht.out z (List.mem_reverse.2 ((ho.mem z).2 hz))⟩
  rw [gusers_iff hd]
  exact ⟨fun h => h.2, fun h => ⟨closed_in hy, h⟩⟩
theorem found_row {rs : List Rcd} {L : List Idn} {all : List (List Idn)} (F : Found (dpG rs) (closedG rs) L all) {c : List Idn} (hc : c ∈ all) : c.Nodup ∧ (∀ x ∈ c, x ∈ closedG rs) ∧ c ≠ [] := by
  have hn := F.nd
  unfold List.Nodup at hn
  rw [List.pairwise_flatten] at hn
  obtain ⟨r, hr, h⟩ := F.cls c hc
  exact ⟨hn.1 c hc, fun x hx => ((h x).1 hx).1, fun e => by rw [e] at hr; cases hr⟩
set_option maxRecDepth 1000000 in
set_option maxHeartbeats 8000000 in
theorem of_run (gp : Option Addr) (rs : List Rcd) (w : World) (A : Asks gp rs w) (T : Tells gp rs w) : Calls Tryz.prog 23 #[.pointer gp] w (GivesLL (ofG rs) w) := by
  have HA := Lib.hid A
  have HT := Lib.hid T
  have HC := Lib.hid (closed_run gp rs w A)
  have HL := Lib.hid (And.intro (closed_few A.lot.1) (closed_wf A.lot.1))
  have HAL := Lib.hid (fun W => along_any gp W)
  clear A T
  go_enter Tryz.func23, Tryz.ntmps23
  go_wp2
  refine wp_scope_jumps 0 (OfJ gp rs w) (fun _ _ => 0) rfl ?_ ?_
  · go_wp2_with (first
      | (go_at_call 45; (with_reducible refine HC.out.mono ?_); rintro E w1 ⟨u1, rfl, hr1, hb1⟩; have HR1 := Lib.hid hr1; have HB1 := Lib.hid hb1; clear hr1 hb1)
      | (go_at_call 46; (with_reducible refine (HAL.out _).mono ?_); rintro E w2 ⟨rfl, hw2⟩; have HW2 := Lib.hid hw2; clear hw2; refine Hid.out ?_)
      | fail)
    have hw2 := HW2.out
    have hb2 := Cmd.below_one w1 (.cells #[.pointer gp] 27)
    have c2 : (w1.alloc (.cells #[.pointer gp] 27)).cell? ⟨w1.heap.size, 0, none⟩ = some (.pointer gp) := cell_row (i := 0) (heap_alloc_new w1 _) rfl
    rw [← hw2] at hb2 c2
    have HTr := Lib.hid (trees_any u1 (closedG rs) _ _ _ (dpG rs) w2 (HR1.out.on hb2) (by have := HL.out.1; omega) HL.out.2 (nexts_along HA.out (HB1.out.trans (hb2.mono HB1.out.size)) c2))
    have HB2 := Lib.hid hb2
    clear hb2 c2 hw2 HW2 HAL HC
    refine Lib.hid ?_
    go_wp2
    go_step3
    go_wp2_with (first
      | (go_at_call 47; (with_reducible refine HTr.out.mono ?_); rintro E w3 ⟨v3, L3, rs3, rfl, hrows, htr, hb⟩; rw [srt_riseK (closed_rise rs)] at htr; have HO := Lib.hid htr.order; have HRows := Lib.hid hrows
         have HLn : Hid ((rs3.map Prod.snd).flatten.length ≤ 1000) := Lib.hid (by rw [order_len HO.out (Ids.rise_nodup (closed_rise rs))]; exact HL.out.1)
         have HConc := Lib.hid (concatL_any v3 (rs3.map Prod.snd) w3 (rowLL hrows.own.row (fun r hr => (hrows.row r hr).row)) (by have := HLn.out; omega) (by have h1 := trees_len htr; have := HL.out.1; omega))
         have HB3 := Lib.hid hb; clear hrows htr hb)
      | (go_at_call 35; (with_reducible refine HConc.out.mono ?_); rintro E w4 ⟨v4, rfl, ho4, hb4⟩; have HRev := Lib.hid (reverse_any v4 _ _ w4 ho4 (by have := HLn.out; omega)); have HO4 := Lib.hid ho4; have HB4 := Lib.hid hb4; clear ho4 hb4)
      | (go_at_call 48; (with_reducible refine HRev.out.mono ?_); rintro E w5 ⟨rfl, hr5, hg5⟩; have HR5 := Lib.hid hr5; have HG5 := Lib.hid hg5; clear hr5 hg5)
      | fail)
    go_step3
    have hz2 := HB2.out.size
    have hz3 := HB3.out.size
    have hb14 : Below w1.heap.size w1 w4 := (HB2.out.trans (HB3.out.mono hz2)).trans (HB4.out.mono (Nat.le_trans hz2 hz3))
    have hb15 : Below w1.heap.size w1 w5 := Below.grown hb14 HG5.out hb14.size (fun j e => by have := (World.ownsRow.lt HO4.out j e).1; omega)
    exact ⟨rfl, u1, v4, (rs3.map Prod.snd).flatten, _, _, _, _, _, _, _, _, _, _, _, _, _, _, _, _, _, _, _, _, _, _, _, _, _, _, _, _, _, _, _, _, _, _, _, _, _, _, rfl, HB1.out.trans (hb15.mono HB1.out.size), HR1.out.on hb15, HO.out, HR5.out⟩
  · rintro a' W ⟨u1, v4, O, x1, x7, x8, x9, x10, x11, x12, x13, x14, x15, x16, x17, x18, x19, x20, x21, x22, x23, x24, x25, x26, x27, x28, x29, x30, x31, x32, x33, x34, x35, x36, x37, x38, x39, x40, x41, x42, x43, rfl, hJ⟩
    have HJ := Lib.hid hJ
    have HND : Hid ((idsG rs).Nodup) := Lib.hid (gerr_nodup HA.out.lot.2)
    have HOl : Hid (O.length ≤ 1000) := Lib.hid (by rw [order_len hJ.ord (Ids.rise_nodup (closed_rise rs))]; exact HL.out.1)
    have HTr := Lib.hid (trees_any v4 O.reverse _ _ _ (gUsers rs) W hJ.turn (by rw [List.length_reverse]; have := HOl.out; omega) (fun x hx => HL.out.2 x ((hJ.ord.mem x).1 (List.mem_reverse.1 hx))) (nexts_users HA.out hJ.below))
    clear hJ HC HAL
    go_wp2_with (first
      | (go_at_call 47; (with_reducible refine HTr.out.mono ?_); rintro E W2 ⟨v7, L7, rs7, rfl, hrows, htr, hb⟩; obtain ⟨p7, c7, hv7⟩ := wd_shape hrows.own; obtain ⟨n7, hn7⟩ : ∃ n, n = rs7.length := ⟨_, rfl⟩; rw [← hn7] at hv7; subst hv7
         have HN7 := Lib.hid hn7
         have HFd := Lib.hid (found_of HND.out HJ.out.ord htr)
         have HRows := Lib.hid hrows
         have HLn : Hid (n7 ≤ 1000) := Lib.hid (by have h1 := trees_len htr; rw [List.length_map, List.length_reverse] at h1; have := HOl.out; omega)
         have HOrd := Lib.hid (order_any gp rs u1 (closedG rs) W2 (HT.out.on (HJ.out.below.trans (hb.mono HJ.out.below.size))) (HJ.out.row.on hb) (by have := HL.out.1; omega) HL.out.2 (fun x hx => closed_in hx))
         have HB2 := Lib.hid hb; clear hrows htr hb hn7)
      | (go_at_call 50; (with_reducible refine HOrd.out.mono ?_); rintro E W3 ⟨bo, mr, rfl, hO3, hbo, hmr, hb3⟩; have HO3 := Lib.hid hO3; have HBM := Lib.hid (And.intro hbo hmr); have HB3 := Lib.hid hb3; clear hO3 hbo hmr hb3)
      | fail)
    have hb4 := Cmd.below_one W3 (.cells #[ordV bo] 85)
    have c4 : (W3.alloc (.cells #[ordV bo] 85)).cell? ⟨W3.heap.size, 0, none⟩ = some (ordV bo) := cell_row (i := 0) (heap_alloc_new W3 _) rfl
    have hz2 := HB2.out.size
    have hz3 := HB3.out.size
    have hrows4 := (HRows.out.below HB3.out).below hb4
    have HS0 : Hid (Srt rs (closedG rs) bo mr W3.heap.size W.heap.size (.slice p7 n7 c7) rs7 0 (W3.alloc (.cells #[ordV bo] 85))) := Lib.hid ⟨hrows4.own, fun j hj hk => absurd hk (Nat.not_lt_zero _), fun j hj hk => hrows4.row _ (List.getElem_mem hj), HO3.out.below hb4, c4⟩
    have HBk : Hid (Blk bo mr W3.heap.size (.slice p7 n7 c7) rs7) := Lib.hid ⟨fun r hr b e => by
      have h1 := (World.ownsRow.lt (HRows.out.row r hr) b e).2
      have h2 := HBM.out
      have h3 := own_otherR (HRows.out.row r hr) HRows.out.own
      exact ⟨(by omega), (by omega), (by omega), fun e2 => h3.elim (fun h => by rw [h] at e; cases e) (fun h => h (e.trans e2.symm))⟩, blk_apart HRows.out.apart⟩
    have HBW : Hid (Below W.heap.size W (W3.alloc (.cells #[ordV bo] 85))) := Lib.hid ((HB2.out.trans (HB3.out.mono hz2)).trans (hb4.mono (Nat.le_trans hz2 hz3)))
    have HV7 : Hid (∀ b, (Value.slice p7 n7 c7).ownBlock = some b → b < W2.heap.size ∧ W.heap.size ≤ b) := Lib.hid fun b e => (World.ownsRow.lt HRows.out.own b e).symm
    have HZ : Hid (W2.heap.size ≤ W3.heap.size) := Lib.hid hz3
    clear hb4 c4 hz2 hz3 hrows4 HO3 HRows
    have hn7b : n7 ≤ 1000 := HLn.out
    go_loopw [32] (fun i wr => ∃ k : Nat, i = .int .i64 k ∧ k ≤ n7 ∧ Hid (Srt rs (closedG rs) bo mr W3.heap.size W.heap.size (.slice p7 n7 c7) rs7 k wr) ∧ Hid (Below W.heap.size W wr)) (fun i _ => n7 - (intOf i).toNat)
    case atStart => exact ⟨0, rfl, Nat.zero_le _, HS0, HBW⟩
    case round =>
      clear HS0 HBW
      obtain ⟨k, rfl, hk, hS, hB⟩ := hrel
      have k0 : (0 : Int) ≤ k := by omega
      have hbox := hS.out.box
      by_cases hkn : k < n7
      · have kn : (k : Int) < n7 := by omega
        have hkl : k < rs7.length := by rw [← HN7.out]; exact hkn
        obtain ⟨g, rfl, -⟩ := wd_ptr hS.out.own (by omega)
        have c0 := (run_LL hS.out.own hkl).1
        rw [Nat.zero_add] at c0
        have hmem : rs7[k].2 ∈ rs7.map Prod.snd := List.mem_map.2 ⟨_, List.getElem_mem hkl, rfl⟩
        obtain ⟨f1, f2, f3⟩ := found_row HFd.out.1 hmem
        have hlen : (rs7[k].2).length ≤ 1000 := Nat.le_trans (nodup_lenI f1 f2) HL.out.1
        have HSort := Lib.hid (sortO_any rs (closedG rs) bo mr W.heap.size (sliceOf (rs7[k]).1) (rs7[k]).2 wr (hS.out.rest k hkl (Nat.le_refl _)) (fun x hx => HL.out.2 x (f2 x hx)) hS.out.ord (fun b e => by have h := HBk.out.row _ (List.getElem_mem hkl) b e; exact ⟨h.1, h.2.1⟩) f2 (fun x hx => closed_in (f2 x hx)) f1 (by omega))
        have HSt := Lib.hid (fun w' (h1 : RowAt w' (sliceOf (rs7[k]).1) (sortR rs (rs7[k]).2)) (h2 : wr.grownBy w' (sliceOf (rs7[k]).1).ownBlock) => hS.out.step HBk.out hkl h1 h2)
        have HLow : Hid (∀ b, (sliceOf (rs7[k]).1).ownBlock = some b → W.heap.size ≤ b) := Lib.hid fun b e => (World.ownsRow.lt (hS.out.rest k hkl (Nat.le_refl _)) b e).1
        have HBS : Hid (W.heap.size ≤ wr.heap.size) := Lib.hid hB.out.size
        generalize rs7[k] = r at c0 HSort HSt HLow
        obtain ⟨⟨q, nq, cq⟩, c⟩ := r
        have c1 : wr.cell? ⟨g, k, none⟩ = some (.slice q nq cq) := c0
        have HSort2 : Hid (Calls Tryz.prog 51 #[.slice q nq cq, ordV bo] wr fun E w' => E = .returned (.tuple #[]) ∧ RowAt w' (sliceOf (q, nq, cq)) (sortR rs c) ∧ wr.grownBy w' (sliceOf (q, nq, cq)).ownBlock) := HSort
        clear c0 hmem f1 f2 f3 hlen hkl HSort
        go_wp2_with (first
          | (go_at_call 51; (with_reducible refine HSort2.out.mono ?_); rintro E w9 ⟨rfl, hr9, hg9⟩; have HS9 := Lib.hid (HSt.out w9 hr9 hg9); have HG9 := Lib.hid hg9; clear hr9 hg9)
          | fail)
        go_roundw
        case rel => exact ⟨k + 1, by go_num, by omega, HS9, Lib.hid (Below.grown hB.out HG9.out HBS.out (fun b e => HLow.out b e))⟩
        case measure => simp [intOf]; omega
      · have kn : ¬ (k : Int) < n7 := by omega
        have hke : k = n7 := by omega
        have HLL := Lib.hid (sortLL_any rs (closedG rs) bo mr W3.heap.size W.heap.size (.slice p7 n7 c7) (rs7.map fun r => (r.1, sortR rs r.2)) wr (own_mapR hS.out.own (sortR rs)) (fun r hr => by
            obtain ⟨r0, h0, rfl⟩ := List.mem_map.1 hr
            obtain ⟨j, hj, e⟩ := List.getElem_of_mem h0
            have hrow := hS.out.done j hj (by rw [hke, HN7.out]; exact hj)
            rw [e] at hrow
            obtain ⟨f1, f2, f3⟩ := found_row HFd.out.1 (List.mem_map.2 ⟨r0, h0, rfl⟩)
            refine ⟨hrow, fun e2 => f3 ?_, fun x hx => HL.out.2 x (f2 x (sortR_mem.1 hx).1)⟩
            obtain ⟨z, hz⟩ := List.exists_mem_of_ne_nil _ f3
            have : z ∈ sortR rs r0.2 := sortR_mem.2 ⟨hz, closed_in (f2 z hz)⟩
            rw [show sortR rs r0.2 = [] from e2] at this; cases this) hS.out.ord hS.out.box (fun g e => by
            have h1 := (HV7.out g e).1
            have h2 := HBM.out
            have h3 := HZ.out
            refine ⟨(by omega), (by omega), (by omega), fun r hr e2 => ?_⟩
            obtain ⟨r0, h0, rfl⟩ := List.mem_map.1 hr
            exact (HBk.out.row r0 h0 g e2).2.2.2 e) (by rw [List.length_map, ← HN7.out]; have := HLn.out; omega))
        go_wp2_with (first
          | (go_at_call 52; (with_reducible refine HLL.out.mono ?_); rintro E w9 ⟨rfl, rows', hp, hs, hrow, hg⟩; have HP := Lib.hid (And.intro hp hs); have HR9 := Lib.hid hrow; have HG9 := Lib.hid hg; clear hp hs hrow hg)
          | fail)
        simp only [Exit.jump]
        go_ret
        have hfin : rows'.map Prod.snd = ofG rs := of_final HFd.out.1 HFd.out.2 (by
          have := HP.out.1.map Prod.snd
          rw [List.map_map] at this
          rw [List.map_map]; exact this) (by rw [List.pairwise_map]; exact HP.out.2)
        have hb9 : Below W.heap.size W w9 := Below.grown hB.out HG9.out hB.out.size (fun b e => (HV7.out b e).2)
        exact ⟨_, rfl, by rw [← hfin]; exact HR9.out, HJ.out.below.trans (hb9.mono HJ.out.below.size)⟩
end Go.Proofs.YtjokejcokgeeiaaGreat.Cps
