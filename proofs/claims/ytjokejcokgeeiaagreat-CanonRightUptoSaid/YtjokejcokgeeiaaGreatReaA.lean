/- What ids reach (layer 16, reach), plain: the list of all that some ids reach; which lists are whole, which records are closed. No condition but those in each statement. -/
import Derived.Test.YtjokejcokgeeiaaGreatGraA
namespace Go.Proofs.YtjokejcokgeeiaaGreat.Rea
open Go.RowKit Cmd Bat Ids Rec Wid Gra
set_option linter.unusedVariables false
set_option linter.unusedSimpArgs false

theorem dp_at {rs : List Rcd} {x : Idn} {k : Nat} (hk : k < rs.length) (h : (layG.at rs k).1 = x) (hn : ∀ j, j < k → (layG.at rs j).1 ≠ x) : dpG rs x = (layG.at rs k).2.2.1 := by
  have e : rs.find? (fun r => decide (r.1 = x)) = some (layG.at rs k) := by
    rw [List.find?_eq_some_iff_getElem]
    refine ⟨decide_eq_true h, k, hk, (layG.at_get hk).symm, fun j hj => ?_⟩
    have := hn j hj
    rw [layG.at_get (by omega)] at this
    simp [this]
  unfold dpG
  rw [e]
theorem dp_no {rs : List Rcd} {x : Idn} (h : x ∉ idsG rs) : dpG rs x = [] := by
  have e : rs.find? (fun r => decide (r.1 = x)) = none := by
    rw [List.find?_eq_none]
    intro r hr hd
    exact h (List.mem_map.2 ⟨r, hr, of_decide_eq_true hd⟩)
  unfold dpG
  rw [e]
theorem dp_sub {rs : List Rcd} {x d : Idn} (h : d ∈ dpG rs x) : d ∈ depsG rs := by
  unfold dpG at h
  cases hf : rs.find? (fun r => decide (r.1 = x)) with
  | none => rw [hf] at h; cases h
  | some r => rw [hf] at h; exact List.mem_flatMap.2 ⟨r, List.mem_of_find?_eq_some hf, h⟩
/-- An id reaches another one. -/
inductive Rch (rs : List Rcd) : Idn → Idn → Prop
  | here (x : Idn) : Rch rs x x
  | more {x y z : Idn} : Rch rs x y → z ∈ dpG rs y → Rch rs x z
theorem Rch.trans {rs : List Rcd} {x y z : Idn} (h : Rch rs x y) (k : Rch rs y z) : Rch rs x z := by
  induction k with
  | here => exact h
  | more _ hd ih => exact .more ih hd
open Classical in
/-- All that some ids reach, in order. -/
noncomputable def fromG (rs : List Rcd) (l : List Idn) : List Idn := srt ((l ++ depsG rs).filter fun z => decide (∃ a ∈ l, Rch rs a z))
theorem from_mem {rs : List Rcd} {l : List Idn} {z : Idn} : z ∈ fromG rs l ↔ ∃ a ∈ l, Rch rs a z := by
  classical
  unfold fromG
  rw [srt_mem, List.mem_filter, List.mem_append]
  constructor
  · rintro ⟨-, h⟩; exact of_decide_eq_true h
  · intro h
    refine ⟨?_, decide_eq_true h⟩
    obtain ⟨a, ha, hr⟩ := h
    cases hr with
    | here => exact .inl ha
    | more _ hd => exact .inr (dp_sub hd)
theorem from_rise (rs : List Rcd) (l : List Idn) : Rise (fromG rs l) := srt_rise _
theorem from_len (rs : List Rcd) (l : List Idn) : (fromG rs l).length ≤ l.length + (depsG rs).length := by
  unfold fromG
  refine Nat.le_trans (srt_length _) (Nat.le_trans (List.length_filter_le _ _) ?_)
  rw [List.length_append]; exact Nat.le_refl _
theorem from_is {rs : List Rcd} {l zs : List Idn} (h1 : Rise zs) (h2 : ∀ a ∈ l, a ∈ zs) (h3 : ∀ z ∈ zs, ∃ a ∈ l, Rch rs a z) (h4 : ∀ z ∈ zs, ∀ d ∈ dpG rs z, d ∈ zs) : zs = fromG rs l :=
  rise_eq h1 (from_rise _ _) fun z => by
    rw [from_mem]
    refine ⟨h3 z, ?_⟩
    rintro ⟨a, ha, hr⟩
    induction hr with
    | here => exact h2 a ha
    | more _ hd ih => exact h4 _ ih _ hd
theorem rise_nodupI {l : List Idn} (h : Rise l) : l.Nodup := by
  refine List.Pairwise.imp (fun {a b} hab e => ?_) h
  subst e
  rw [lt_irr] at hab; cases hab
theorem nodup_lenI : ∀ {a b : List Idn}, a.Nodup → (∀ x ∈ a, x ∈ b) → a.length ≤ b.length
  | [], b, _, _ => Nat.zero_le _
  | x :: a, b, h, hs => by
    obtain ⟨h1, h2⟩ := List.nodup_cons.1 h
    have hx := hs x List.mem_cons_self
    have := nodup_lenI (a := a) (b := b.erase x) h2 (fun y hy => (List.mem_erase_of_ne (fun e => h1 (by rw [← e]; exact hy))).2 (hs y (List.mem_cons_of_mem _ hy)))
    rw [List.length_erase_of_mem hx] at this
    have := List.length_pos_of_mem hx
    simp only [List.length_cons]; omega
theorem rise_all {a b : List Idn} (ha : Rise a) (hb : Rise b) (hs : ∀ x ∈ a, x ∈ b) (hl : b.length ≤ a.length) : a = b :=
  rise_eq ha hb fun x => ⟨hs x, fun hx => Classical.byContradiction fun hn => by
    have := nodup_lenI (a := a) (b := b.erase x) (rise_nodupI ha) (fun y hy => (List.mem_erase_of_ne (fun e => hn (by rw [← e]; exact hy))).2 (hs y hy))
    rw [List.length_erase_of_mem hx] at this
    have := List.length_pos_of_mem hx
    omega⟩
/-- How far the document's From has come: zs as the round began, ms: what there is now; the Deps of the first i are in it. -/
structure Grows (rs : List Rcd) (l zs ms : List Idn) (i : Nat) : Prop where
  rz : Rise zs
  rm : Rise ms
  all : ∀ a ∈ l, a ∈ zs
  sub : ∀ z ∈ zs, z ∈ ms
  ok : ∀ z ∈ ms, ∃ a ∈ l, Rch rs a z
  come : ∀ z ∈ zs.take i, ∀ d ∈ dpG rs z, d ∈ ms
theorem Grows.start (rs : List Rcd) (l : List Idn) : Grows rs l (srt l) (srt l) 0 :=
  ⟨srt_rise _, srt_rise _, fun a ha => (srt_mem _ _).2 ha, fun z hz => hz, fun z hz => ⟨z, (srt_mem _ _).1 hz, .here z⟩, fun z hz => by simp at hz⟩
theorem Grows.next {rs : List Rcd} {l zs ms : List Idn} {i : Nat} (g : Grows rs l zs ms i) : Grows rs l ms ms 0 :=
  ⟨g.rm, g.rm, fun a ha => g.sub a (g.all a ha), fun z hz => hz, g.ok, fun z hz => by simp at hz⟩
theorem Grows.len {rs : List Rcd} {l zs ms : List Idn} {i : Nat} (g : Grows rs l zs ms i) : zs.length ≤ ms.length ∧ ms.length ≤ l.length + (depsG rs).length :=
  ⟨nodup_lenI (rise_nodupI g.rz) g.sub, Nat.le_trans (nodup_lenI (rise_nodupI g.rm) fun z hz => from_mem.2 (g.ok z hz)) (from_len rs l)⟩
theorem Grows.put {rs : List Rcd} {l zs ms : List Idn} {i : Nat} (g : Grows rs l zs ms i) {z d : Idn} (hz : z ∈ zs) (hd : d ∈ dpG rs z) : Grows rs l zs (put ms d) i :=
  ⟨g.rz, put_rise g.rm, g.all, fun y hy => (put_mem _ _ _).2 (.inr (g.sub y hy)), fun y hy => by
    rcases (put_mem _ _ _).1 hy with rfl | h
    rotate_left
    · exact g.ok y h
    · obtain ⟨a, ha, hr⟩ := g.ok z (g.sub z hz)
      exact ⟨a, ha, .more hr hd⟩, fun y hy e he => (put_mem _ _ _).2 (.inr (g.come y hy e he))⟩
theorem Grows.step {rs : List Rcd} {l zs ms : List Idn} {i : Nat} (g : Grows rs l zs ms i) (hi : i < zs.length) (h : ∀ d ∈ dpG rs (nth zs i), d ∈ ms) : Grows rs l zs ms (i + 1) :=
  ⟨g.rz, g.rm, g.all, g.sub, g.ok, fun z hz => by
    rw [List.take_succ_eq_append_getElem hi, List.mem_append, List.mem_singleton] at hz
    rcases hz with hz | rfl
    · exact g.come z hz
    · have e : nth zs i = zs[i] := by unfold nth; rw [List.getD_eq_getElem?_getD, List.getElem?_eq_getElem hi]; rfl
      rw [← e]; exact h⟩
theorem Grows.done {rs : List Rcd} {l zs ms : List Idn} {i : Nat} (g : Grows rs l zs ms i) (hi : zs.length ≤ i) (hl : ms.length = zs.length) : zs = fromG rs l := by
  have e := rise_all g.rz g.rm g.sub (by omega)
  refine from_is g.rz g.all (fun z hz => g.ok z (g.sub z hz)) fun z hz d hd => ?_
  rw [e]
  exact g.come z (by rw [List.take_of_length_le hi]; exact hz) d hd

/-! ### Whole, closed -/
open Classical in
noncomputable def openG (rs : List Rcd) (x : Idn) : Bool := decide (∀ z ∈ fromG rs [x], z ∈ idsG rs)
noncomputable def closedG (rs : List Rcd) : List Idn := srt ((idsG rs).filter fun x => openG rs x)
theorem open_iff {rs : List Rcd} {x : Idn} : openG rs x = true ↔ ∀ z, Rch rs x z → z ∈ idsG rs := by
  classical
  unfold openG
  rw [decide_eq_true_iff]
  exact ⟨fun h z hz => h z (from_mem.2 ⟨x, List.mem_singleton.2 rfl, hz⟩), fun h z hz => by
    obtain ⟨a, ha, hr⟩ := from_mem.1 hz
    rw [List.mem_singleton.1 ha] at hr
    exact h z hr⟩
theorem closed_mem {rs : List Rcd} {x : Idn} : x ∈ closedG rs ↔ ∀ z, Rch rs x z → z ∈ idsG rs := by
  unfold closedG
  rw [srt_mem, List.mem_filter, open_iff]
  exact ⟨fun h => h.2, fun h => ⟨h x (.here x), h⟩⟩
end Go.Proofs.YtjokejcokgeeiaaGreat.Rea

/- What the document's From gives (layer 16, reach): all that some ids reach. Conditions: the rows lie in memory as their cells say; the ids and all Deps together are not more than 90000. -/
namespace Go.Proofs.YtjokejcokgeeiaaGreat.Rea
open Go.RowKit Cmd Bat Ids Rec Wid Gra
set_option linter.unusedVariables false
set_option linter.unusedSimpArgs false

def lenOf : Value → Nat
  | .slice _ n _ => n
  | _ => 0
set_option maxRecDepth 100000 in
set_option maxHeartbeats 8000000 in
theorem refrom_any (v u : Value) (rs : List Rcd) (l : List Idn) (w : World) (h : layG.Row w v rs) (g : RowAt w u l) (hl : l.length + (depsG rs).length ≤ 90000) :
    Calls Tryz.prog 93 #[v, u] w (GivesRow (fromG rs l) w) := by
  obtain ⟨p, cap, rfl, h1, hd⟩ := h.parts
  have HRW := Lib.hid h
  obtain ⟨n, hn⟩ : ∃ n, n = rs.length := ⟨_, rfl⟩
  rw [← hn] at h1 hd HRW ⊢
  have HN := Lib.hid hn
  have HS := Lib.hid (refsorted_any u l w g (by omega))
  clear h g hn
  go_enter Tryz.func93, Tryz.ntmps93
  go_wp2_with (first
    | (go_at_call 129; ((with_reducible refine HS.out.mono ?_); rintro e w1 ⟨o, rfl, hr, hb⟩; have HR1 := Lib.hid hr; have HB1 := Lib.hid hb; clear hr hb)))
  go_loopw [5] (fun o wr => ∃ zs : List Idn, Hid (RowAt wr o zs) ∧ Hid (Grows rs l zs zs 0) ∧ Hid (Below w.heap.size w wr)) (fun o _ => 100000 - lenOf o)
  case atStart =>
    exact ⟨srt l, HR1, Lib.hid (Grows.start rs l), HB1⟩
  case round =>
    obtain ⟨zs, hrow, hg, hbw⟩ := hrel
    obtain ⟨po, co, rfl, hlo, hdo⟩ := Rec.RowAt.parts hrow.out
    obtain ⟨m, hm⟩ : ∃ m, m = zs.length := ⟨_, rfl⟩
    have HM := Lib.hid hm
    rw [← hm] at hlo hdo hrow ⊢
    have hmb : m ≤ 90000 := by have := hg.out.len; omega
    clear hm
    go_wp2
    obtain ⟨wO, hwO⟩ : ∃ wO, wO = wr := ⟨_, rfl⟩
    subst hwO
    go_loopw [6, 7] (fun mo i wr => ∃ (k : Nat) (ms : List Idn), k ≤ m ∧ i = .int .i64 k ∧ Hid (RowAt wr mo ms) ∧ Hid (Grows rs l zs ms k) ∧ Hid (Below wO.heap.size wO wr)) (fun _ i _ => m - (intOf i).toNat)
    case atStart =>
      exact ⟨0, zs, Nat.zero_le _, rfl, by rw [HM.out]; rw [HM.out] at hrow; exact hrow, hg, Lib.hid (Below.refl _ _)⟩
    case round =>
      obtain ⟨k, ms, hk, rfl, hmr, hG, hb2⟩ := hrel
      have hbW := Lib.hid (hbw.out.trans (hb2.out.mono hbw.out.size))
      have k0 : (0 : Int) ≤ k := by omega
      by_cases hkm : k < m
      · have km : (k : Int) < m := by omega
        obtain ⟨B, off, rfl, HC⟩ := hdo.resolve_left (by omega)
        have hkz : k < zs.length := by rw [← HM.out]; exact hkm
        obtain ⟨⟨x, y⟩, hxy⟩ : ∃ z, nth zs k = z := ⟨_, rfl⟩
        have c0 := (HC.out.on hb2.out).fst k hkz
        have c1 := (HC.out.on hb2.out).snd k hkz
        rw [hxy] at c0 c1
        have HF := Lib.hid (find_any (.slice p n cap) rs x y wr (HRW.out.on hbW.out))
        have hzm : (x, y) ∈ zs := by rw [← hxy]; unfold nth; rw [List.getD_eq_getElem?_getD, List.getElem?_eq_getElem hkz]; exact List.getElem_mem hkz
        rcases find_cases rs (x, y) with ⟨j, hj, hje, hjn, hf, hjm⟩ | ⟨hf, hjm⟩
        · obtain ⟨B', off', rfl, HCR⟩ : ∃ B' off', p = some ⟨B', off', none⟩ ∧ Hid (layG.In w B' off' rs) := hd.resolve_left (by rw [HN.out]; omega)
          obtain ⟨⟨⟨x', y'⟩, q, ds, cs⟩, hx⟩ : ∃ t, layG.at rs j = t := ⟨_, rfl⟩
          have hdp : dpG rs (x, y) = ds := by rw [dp_at hj hje hjn, hx]
          obtain ⟨p1, k1, p2, k2, hr, hd1, -⟩ := rcdAt HCR.out hj hx
          have HR := Lib.hid hr
          have HRD : Hid (ds.length = 0 ∨ ∃ B off, p1 = some ⟨B, off, none⟩ ∧ Hid (Row2 w B off ds)) := Lib.hid (by
            obtain ⟨p3, k3, e3, -, h3⟩ := Rec.RowAt.parts hr.rd
            cases e3; exact h3)
          obtain ⟨nd, hnd⟩ : ∃ nd, nd = ds.length := ⟨_, rfl⟩
          rw [← hnd] at HR HRD hd1
          have HDN := Lib.hid hnd
          have HZ := Lib.hid (And.intro hzm (And.intro hdp (And.intro hxy hkz)))
          rw [hf] at HF
          have n1 : ¬ (j : Int) < 0 := by omega
          have jn : (j : Int) < n := by rw [HN.out]; omega
          have j0 : (0 : Int) ≤ j := by omega
          clear hdo hd hxy hkz hf hjm hzm hx hje hjn hr hdp hnd hj
          go_wp2_with (first
            | (go_at_call 20; ((with_reducible refine HF.out.mono ?_); rintro e w2 ⟨rfl, hb⟩; have R2 := Lib.hid (hmr.out.on hb); have B2 := Lib.hid (hb2.out.trans (hb.mono hb2.out.size)); clear hb)))
          go_loopw [6, 9] (fun mo i wr => ∃ (t : Nat) (ms : List Idn), t ≤ nd ∧ i = .int .i64 t ∧ Hid (RowAt wr mo ms) ∧ Hid (Grows rs l zs ms k) ∧ Hid (∀ d ∈ ds.take t, d ∈ ms) ∧ Hid (Below wO.heap.size wO wr)) (fun _ i _ => nd - (intOf i).toNat)
          case atStart =>
            exact ⟨0, ms, Nat.zero_le _, rfl, R2, hG, Lib.hid (fun d hd => by simp at hd), B2⟩
          case round =>
            clear R2 B2 hmr hG hb2 hbW HF c0 c1
            obtain ⟨t, ms, ht, rfl, hmr, hG, hT, hb2⟩ := hrel
            have hbW := Lib.hid (hbw.out.trans (hb2.out.mono hbw.out.size))
            have c3 := (HR.out.on hbW.out).c3
            have c3' : wr.cell? ⟨B', off' + j * 5 + 2 + 1, none⟩ = some (.slice p1 nd k1) := c3
            have t0 : (0 : Int) ≤ t := by omega
            by_cases htn : t < nd
            · have tn : (t : Int) < nd := by omega
              obtain ⟨BD, offD, rfl, HCD⟩ := HRD.out.resolve_left (by omega)
              have htl : t < ds.length := by rw [← HDN.out]; exact htn
              obtain ⟨⟨d1, d2⟩, hd12⟩ : ∃ z, nth ds t = z := ⟨_, rfl⟩
              have e0 := (HCD.out.on hbW.out).fst t htl
              have e1 := (HCD.out.on hbW.out).snd t htl
              rw [hd12] at e0 e1
              have hdm : (d1, d2) ∈ ds := by rw [← hd12]; unfold nth; rw [List.getD_eq_getElem?_getD, List.getElem?_eq_getElem htl]; exact List.getElem_mem htl
              have HG2 : Hid (Grows rs l zs (put ms (d1, d2)) k) := Lib.hid (hG.out.put HZ.out.1 (by rw [HZ.out.2.1]; exact hdm))
              have HT2 : Hid (∀ d ∈ ds.take (t + 1), d ∈ put ms (d1, d2)) := Lib.hid fun d hd => by
                rw [List.take_succ_eq_append_getElem htl, List.mem_append, List.mem_singleton] at hd
                rw [put_mem]
                rcases hd with hd | hd
                · exact .inr (hT.out d hd)
                · left; rw [hd, ← hd12]; unfold nth; rw [List.getD_eq_getElem?_getD, List.getElem?_eq_getElem htl]; rfl
              have HP := Lib.hid (put_any u6 ms d1 d2 wr hmr.out (by have := hG.out.len; omega))
              clear htl hd12 hdm
              go_wp2_with (first
                | (go_at_call 94; ((with_reducible refine HP.out.mono ?_); rintro e w3 ⟨o3, rfl, hr3, hb⟩; have R3 := Lib.hid hr3; have B3 := Lib.hid (hb2.out.trans (hb.mono hb2.out.size)); clear hb hr3)))
              go_roundw
              case rel => exact ⟨t + 1, _, by omega, by go_num, R3, HG2, HT2, B3⟩
              case measure => simp [intOf]; omega
            · have tn : ¬ (t : Int) < nd := by omega
              have HG2 : Hid (Grows rs l zs ms (k + 1)) := Lib.hid (hG.out.step HZ.out.2.2.2 (by
                rw [HZ.out.2.2.1, HZ.out.2.1]
                intro d hd
                exact hT.out d (by rw [List.take_of_length_le (by rw [← HDN.out]; omega)]; exact hd)))
              go_wp2
              go_roundw
              case rel => exact ⟨k + 1, ms, by omega, by go_num, hmr, HG2, hb2⟩
              case measure => simp [intOf]; omega
        · have HG2 : Hid (Grows rs l zs ms (k + 1)) := Lib.hid (hG.out.step hkz (by rw [hxy, dp_no hjm]; intro d hd; cases hd))
          rw [hf] at HF
          have n1 : (-1 : Int) < 0 := by omega
          clear hdo hd hxy hkz hf hjm hzm
          go_wp2_with (first
            | (go_at_call 20; ((with_reducible refine HF.out.mono ?_); rintro e w2 ⟨rfl, hb⟩; have R2 := Lib.hid (hmr.out.on hb); have B2 := Lib.hid (hb2.out.trans (hb.mono hb2.out.size)); clear hb)))
          go_roundw
          case rel => exact ⟨k + 1, ms, by omega, by go_num, R2, HG2, B2⟩
          case measure => simp [intOf]; omega
      · have km : ¬ (k : Int) < m := by omega
        have hke : k = m := by omega
        obtain ⟨pm, cm, rfl, hlm, -⟩ := Rec.RowAt.parts hmr.out
        have hlen := hG.out.len
        rw [← HM.out] at hlen
        obtain ⟨q, hq⟩ : ∃ q, q = ms.length := ⟨_, rfl⟩
        rw [← hq] at hlm hlen hmr ⊢
        by_cases he : q = m
        · have HE : Hid (zs = fromG rs l) := Lib.hid (hG.out.done (by rw [← HM.out]; omega) (by rw [← HM.out, ← hq]; exact he))
          have RO := Lib.hid (hrow.out.on hb2.out)
          have eq1 : ((q : Int) == (m : Int)) = true := by rw [he]; simp
          clear hdo hd hlen hq
          go_wp2
          go_ret
          exact ⟨_, rfl, by rw [← HE.out]; exact RO.out, hbW.out⟩
        · have eq1 : ((q : Int) == (m : Int)) = false := by simp; omega
          have HG2 := Lib.hid hG.out.next
          have HQ := Lib.hid hq
          have hql : m < q := by omega
          have hqb : q ≤ 90000 := by omega
          clear hdo hd hlen hq
          go_wp2
          go_roundw
          case rel => exact ⟨ms, by rw [HQ.out]; rw [HQ.out] at hmr; exact hmr, HG2, hbW⟩
          case measure => simp [lenOf]; omega
end Go.Proofs.YtjokejcokgeeiaaGreat.Rea

/- What the document's Whole and Closed give (layer 16, reach). Conditions: the rows lie in memory as their cells say; the ids and all Deps together are not more than 80000. -/
namespace Go.Proofs.YtjokejcokgeeiaaGreat.Rea
open Go.RowKit Cmd Bat Ids Rec Wid Gra
set_option linter.unusedVariables false
set_option linter.unusedSimpArgs false

theorem nth_mem {l : List Idn} {k : Nat} (h : k < l.length) : nth l k ∈ l := by unfold nth; rw [List.getD_eq_getElem?_getD, List.getElem?_eq_getElem h]; exact List.getElem_mem h
theorem take_nth {l : List Idn} {k : Nat} (h : k < l.length) : l.take (k + 1) = l.take k ++ [nth l k] := by
  rw [List.take_succ_eq_append_getElem h]; unfold nth; rw [List.getD_eq_getElem?_getD, List.getElem?_eq_getElem h]; rfl
/-! ### Closed -/
theorem open_no {rs : List Rcd} {x z : Idn} (h : z ∈ fromG rs [x]) (hn : z ∉ idsG rs) : openG rs x = false := by
  cases hw : openG rs x with
  | false => rfl
  | true =>
    obtain ⟨a, ha, hr⟩ := from_mem.1 h
    rw [List.mem_singleton.1 ha] at hr
    exact absurd (open_iff.1 hw z hr) hn
theorem open_yes {rs : List Rcd} {x : Idn} (h : ∀ z ∈ fromG rs [x], z ∈ idsG rs) : openG rs x = true := open_iff.2 fun z hr => h z (from_mem.2 ⟨x, List.mem_singleton.2 rfl, hr⟩)
def inAll (rs : List Rcd) (zs : List Idn) : Bool := zs.all fun z => decide (z ∈ idsG rs)
theorem in_snoc (rs : List Rcd) (zs : List Idn) (z : Idn) : inAll rs (zs ++ [z]) = (inAll rs zs && decide (z ∈ idsG rs)) := by unfold inAll; rw [List.all_append]; simp
theorem in_open (rs : List Rcd) (x : Idn) : inAll rs (fromG rs [x]) = openG rs x := by
  cases h : inAll rs (fromG rs [x]) with
  | true =>
    refine (open_yes fun z hz => ?_).symm
    unfold inAll at h
    rw [List.all_eq_true] at h
    exact of_decide_eq_true (h z hz)
  | false =>
    unfold inAll at h
    rw [List.all_eq_false] at h
    obtain ⟨z, hz, hd⟩ := h
    exact (open_no hz (fun hm => hd (decide_eq_true hm))).symm
/-- What is closed of the first ones. -/
noncomputable def closL (rs : List Rcd) (k : Nat) : List Idn := srt ((idsG (rs.take k)).filter fun x => openG rs x)
theorem clos_len (rs : List Rcd) (k : Nat) : (closL rs k).length ≤ k := by
  unfold closL
  refine Nat.le_trans (srt_length _) (Nat.le_trans (List.length_filter_le _ _) ?_)
  rw [idsG_len, List.length_take]; omega
theorem clos_step {rs : List Rcd} {k : Nat} (hk : k < rs.length) {x : Idn} (hx : (layG.at rs k).1 = x) : closL rs (k + 1) = if openG rs x then put (closL rs k) x else closL rs k := by
  unfold closL
  rw [layG.take hk, idsG_snoc, List.filter_append, hx]
  cases h : openG rs x with
  | true => simp [h, srt_snoc]
  | false => simp [h]
theorem one_row (w : World) (x y : Int) : RowAt (w.alloc (.cells #[.int .i64 x, .int .i64 y] 43)) (.slice (some ⟨w.heap.size, 0, none⟩) 1 1) [(x, y)] := by
  have h := heap_alloc_new w (.cells #[.int .i64 x, .int .i64 y] 43)
  refine ⟨some ⟨w.heap.size, 0, none⟩, 1, rfl, Nat.le_refl _, by omega, (fun e => by cases e), fun _ => ⟨w.heap.size, 0, rfl, by simp, fun j hj => ?_⟩⟩
  have hj0 : j = 0 := by simp at hj; exact hj
  subst hj0
  constructor
  · show World.cell? _ ⟨w.heap.size, 0, none⟩ = some (.int .i64 x)
    simp only [World.cell?]; rw [h]; rfl
  · show World.cell? _ ⟨w.heap.size, 1, none⟩ = some (.int .i64 y)
    simp only [World.cell?]; rw [h]; rfl
set_option maxRecDepth 100000 in
set_option maxHeartbeats 8000000 in
theorem refclosed_any (v : Value) (rs : List Rcd) (w : World) (h : layG.Row w v rs) (hl : (depsG rs).length ≤ 80000) (hl' : rs.length ≤ 80000) :
    Calls Tryz.prog 58 #[v] w (GivesRow (closedG rs) w) := by
  obtain ⟨p, cap, rfl, h1, hd⟩ := h.parts
  have HV := Lib.hid h
  obtain ⟨n, hn⟩ : ∃ n, n = rs.length := ⟨_, rfl⟩
  rw [← hn] at h1 hd hl' HV ⊢
  have HN := Lib.hid hn
  have R0 := Lib.hid (row_void w)
  have B0 := Lib.hid (Cmd.below_one w (.cells #[] 43))
  have HL := Lib.hid hl
  clear h hn hl
  go_enter Tryz.func58, Tryz.ntmps58
  go_wp2
  go_loopw [3, 4] (fun o i wr => ∃ (k : Nat), k ≤ n ∧ i = .int .i64 k ∧ Hid (Below w.heap.size w wr) ∧ Hid (RowAt wr o (closL rs k))) (fun _ i _ => n - (intOf i).toNat)
  case atStart => exact ⟨0, Nat.zero_le _, rfl, B0, Lib.hid (by have := R0.out; unfold closL; simpa [idsG, srt] using this)⟩
  case round =>
    obtain ⟨k, hk, rfl, hb, hrow⟩ := hrel
    have k0 : (0 : Int) ≤ k := by omega
    by_cases hkn : k < n
    · have kn : (k : Int) < n := by omega
      obtain ⟨B, off, rfl, HC⟩ : ∃ B off, p = some ⟨B, off, none⟩ ∧ Hid (layG.In w B off rs) := hd.resolve_left (by omega)
      have hkr : k < rs.length := by rw [← HN.out]; exact hkn
      obtain ⟨⟨⟨x, y⟩, q, ds, cs⟩, hx⟩ : ∃ t, layG.at rs k = t := ⟨_, rfl⟩
      obtain ⟨p1, k1, p2, k2, hr, -, -⟩ := rcdAt (HC.out.on hb.out) hkr hx
      have c0 := hr.c0
      have c1 := hr.c1
      have HST := Lib.hid (clos_step hkr (x := (x, y)) (by rw [hx]))
      have B1 := Lib.hid (hb.out.trans ((Cmd.below_one wr (.cells #[.int .i64 x, .int .i64 y] 43)).mono hb.out.size))
      have HF := Lib.hid (refrom_any _ _ rs [(x, y)] _ (HV.out.on B1.out) (one_row wr x y) (by have := HL.out; simp; omega))
      have HW := Lib.hid (Cmd.below_one wr (.cells #[.int .i64 x, .int .i64 y] 43))
      have HXX := Lib.hid (And.intro hkr hx)
      have hr2 := Lib.hid hr
      clear hd hr hkr hx
      go_wp2_with (first
        | (go_at_call 93; ((with_reducible refine HF.out.mono ?_); rintro e w1 ⟨o, rfl, hr, hb⟩; have HR1 := Lib.hid hr; have HB1 := Lib.hid (HW.out.trans (hb.mono HW.out.size)); clear hr hb))
        | fail)
      obtain ⟨po, co, rfl, hlo, hdo⟩ := Rec.RowAt.parts HR1.out
      obtain ⟨m, hm⟩ : ∃ m, m = (fromG rs [(x, y)]).length := ⟨_, rfl⟩
      have HM := Lib.hid hm
      have hmb : m ≤ 90000 := by have := from_len rs [(x, y)]; have := HL.out; simp at *; omega
      rw [← hm] at hlo hdo HR1 ⊢
      clear hm
      obtain ⟨wO, hwO⟩ : ∃ wO, wO = wr := ⟨_, rfl⟩
      subst hwO
      go_loopw [6, 7] (fun t i wr => ∃ (j : Nat), j ≤ m ∧ i = .int .i64 j ∧ t = .bool (inAll rs ((fromG rs [(x, y)]).take j)) ∧ Hid (Below w1.heap.size w1 wr)) (fun _ i _ => m - (intOf i).toNat)
      case atStart => exact ⟨0, Nat.zero_le _, rfl, by simp [inAll], Lib.hid (Below.refl _ _)⟩
      case round =>
        obtain ⟨j, hj, rfl, rfl, hb2⟩ := hrel
        have hbO := Lib.hid (HB1.out.trans (hb2.out.mono HB1.out.size))
        have hbW := Lib.hid (hb.out.trans (hbO.out.mono hb.out.size))
        have j0 : (0 : Int) ≤ j := by omega
        by_cases hjm : j < m
        · have jm : (j : Int) < m := by omega
          obtain ⟨B', off', rfl, HC'⟩ := hdo.resolve_left (by omega)
          have hjl : j < (fromG rs [(x, y)]).length := by rw [← HM.out]; exact hjm
          obtain ⟨⟨a, b⟩, hab⟩ : ∃ z, nth (fromG rs [(x, y)]) j = z := ⟨_, rfl⟩
          have e0 := (HC'.out.on hb2.out).fst j hjl
          have e1 := (HC'.out.on hb2.out).snd j hjl
          rw [hab] at e0 e1
          have hst : inAll rs ((fromG rs [(x, y)]).take (j + 1)) = (inAll rs ((fromG rs [(x, y)]).take j) && decide ((a, b) ∈ idsG rs)) := by rw [take_nth hjl, hab, in_snoc]
          have HFd := Lib.hid (find_any _ rs a b wr (HV.out.on hbW.out))
          have HGE := find_ge rs (a, b)
          obtain ⟨fi, hfi⟩ : ∃ fi, fi = findG rs (a, b) := ⟨_, rfl⟩
          rw [← hfi] at HFd HGE
          cases ht : inAll rs ((fromG rs [(x, y)]).take j) with
          | false =>
            rw [ht] at hst
            have HS := Lib.hid hst
            clear hdo hjl hab hst HGE hfi ht HFd
            go_wp2
            go_roundw
            case rel => exact ⟨j + 1, by omega, by go_num, by rw [HS.out]; rfl, hb2⟩
            case measure => simp [intOf]; omega
          | true =>
            rw [ht] at hst
            have HS := Lib.hid hst
            have HG2 := Lib.hid HGE
            clear hdo hjl hab hst HGE hfi ht
            go_wp2_with (first
              | (go_at_call 20; ((with_reducible refine HFd.out.mono ?_); rintro e w2 ⟨rfl, hb3⟩; have B3 := Lib.hid (hb2.out.trans (hb3.mono hb2.out.size)); clear hb3)))
            go_roundw
            case rel => exact ⟨j + 1, by omega, by go_num, by rw [HS.out, ← HG2.out]; simp, B3⟩
            case measure => simp [intOf]; omega
        · have jm : ¬ (j : Int) < m := by omega
          have hin : inAll rs ((fromG rs [(x, y)]).take j) = openG rs (x, y) := by rw [List.take_of_length_le (by rw [← HM.out]; omega), in_open]
          rw [hin]
          have c0 := (hr2.out.on hbO.out).c0
          have c1 := (hr2.out.on hbO.out).c1
          have RO := Lib.hid (hrow.out.on hbO.out)
          cases ho : openG rs (x, y) with
          | true =>
            have HS : Hid (closL rs (k + 1) = put (closL rs k) (x, y)) := Lib.hid (by rw [HST.out, ho]; rfl)
            have HP := Lib.hid (put_any u3 (closL rs k) x y wr RO.out (by have := clos_len rs k; omega))
            clear hdo hin ho
            go_wp2_with (first
              | (go_at_call 94; ((with_reducible refine HP.out.mono ?_); rintro e w3 ⟨o3, rfl, hr3, hb3⟩; have R3 := Lib.hid hr3; have B3 := Lib.hid (hbW.out.trans (hb3.mono hbW.out.size)); clear hb3 hr3)))
            go_roundw
            case rel => exact ⟨k + 1, by omega, by go_num, B3, Lib.hid (by rw [HS.out]; exact R3.out)⟩
            case measure => simp [intOf]; omega
          | false =>
            have HS : Hid (closL rs (k + 1) = closL rs k) := Lib.hid (by rw [HST.out, ho]; rfl)
            clear hdo hin ho
            go_wp2
            go_roundw
            case rel => exact ⟨k + 1, by omega, by go_num, hbW, Lib.hid (by rw [HS.out]; exact RO.out)⟩
            case measure => simp [intOf]; omega
    · have kn : ¬ (k : Int) < n := by omega
      have HE : Hid (closL rs k = closedG rs) := Lib.hid (by unfold closL closedG; rw [List.take_of_length_le (by rw [← HN.out]; omega)])
      clear hd
      go_wp2
      go_ret
      exact ⟨_, rfl, by rw [← HE.out]; exact hrow.out, hb.out⟩
end Go.Proofs.YtjokejcokgeeiaaGreat.Rea
