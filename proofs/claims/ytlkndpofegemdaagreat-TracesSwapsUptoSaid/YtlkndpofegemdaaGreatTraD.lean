/- What the document's Same and Steps give over two orders (layer 19, traces). Conditions: records and lists lie in memory as their cells say; at most 1000 lists in each; ids and numbers' words of 64 bits, texts of a length that Go reads. -/
import Derived.Test.YtlkndpofegemdaaGreatTraB
import Derived.Test.YtlkndpofegemdaaGreatTraC
namespace Go.Proofs.YtlkndpofegemdaaGreat.Tra
open Go.RowKit Cmd Bat Ids Rec Wid Gra Rea Cps
set_option linter.unusedVariables false
set_option linter.unusedSimpArgs false

theorem placesG_len {a b : List (List Idn)} {ps : List Nat} (h : placesG a b = some ps) : ps.length = b.length := by
  unfold placesG at h
  split at h
  · have := places_len b [] ps h; rw [this]; exact Nat.zero_add _
  · cases h
theorem row_n {w : World} {B off : Nat} {ps : List Nat} (h : layN.In w B off ps) {k : Nat} (hk : k < ps.length) : w.cell? ⟨B, off + k, none⟩ = some (.int .i64 (nthN ps k : Int)) := h.cell k hk

set_option maxRecDepth 100000 in
set_option maxHeartbeats 8000000 in
theorem refsteps_any (v u : Value) (a b : List (List Idn)) (w : World) (h : layLL.Row w v a) (g : layLL.Row w u b) (ha : a.length ≤ 1000) (hb : b.length ≤ 1000) :
    Calls Tryz.prog 12 #[v, u] w (RetBelow (.int .i64 (stepsG a b)) w) := by
  have HPl := Lib.hid (fun W (hW : Below w.heap.size w W) => refplaces_any v u a b W (h.on hW) (g.on hW) ha hb)
  go_enter Tryz.func12, Tryz.ntmps12
  have D0 : Hid (Below w.heap.size w w) := Lib.hid (Below.refl _ _)
  go_wp2_with (go_at_call 25; ((with_reducible refine (HPl.out _ D0.out).mono ?_); rintro e w2 ⟨uo, uk, rfl, hb2, hy, hn⟩; have HB2 := Lib.hid (D0.out.trans (hb2.mono D0.out.size)); have HY := Lib.hid hy; have HN := Lib.hid hn; clear hb2 hy hn))
  · have hu : uk = false := by simpa using ‹(!uk) = true›
    have HE := Lib.hid (steps_none (HN.out hu))
    go_ret
    exact ⟨by rw [HE.out]; rfl, HB2.out⟩
  · have hq : (!uk) = false := ‹(!uk) = false›
    have hu : uk = true := by simpa using hq
    rw [hq]
    clear hq
    obtain ⟨ps, hps, ho⟩ := HY.out hu
    obtain ⟨p, cap, rfl, hl, hd⟩ := (Wd.Own.row ho).parts
    have HS := Lib.hid (steps_some hps)
    have hlb := placesG_len hps
    obtain ⟨l, hl'⟩ : ∃ l, l = ps.length := ⟨_, rfl⟩
    have HL := Lib.hid hl'
    have hL : l ≤ 1000 := by omega
    rw [← hl'] at hl hd HS ⊢
    subst hu
    clear HY HN HPl ho hps hlb hl' h g ha hb
    have D2 : Hid (Below w2.heap.size w2 w2) := Lib.hid (Below.refl _ _)
    go_loopw [7, 8] (fun nn i W => ∃ k : Nat, k ≤ l ∧ i = .int .i64 k ∧ nn = .int .i64 (inv ps k : Nat) ∧ Hid (Below w2.heap.size w2 W)) (fun _ i _ => l - (intOf i).toNat)
    case atStart => exact ⟨0, Nat.zero_le _, rfl, rfl, D2⟩
    case round =>
      clear D2
      obtain ⟨k, hk, rfl, rfl, HB⟩ := hrel
      have k0 : (0 : Int) ≤ k := by omega
      by_cases hkl : k < l
      · have kl : (k : Int) < l := by omega
        obtain ⟨B, off, rfl, HC⟩ := hd.resolve_left (by omega)
        have hI : inv ps k ≤ 1000000 := Nat.le_trans (inv_le ps k) (by rw [← HL.out]; exact Nat.le_trans (Nat.mul_le_mul (by omega : k ≤ 1000) hL) (by decide))
        have HLT := Lib.hid HC.out.lt
        have HC1 := Lib.hid (row_n HC.out (show k < ps.length by rw [← HL.out]; exact hkl))
        obtain ⟨x, hx⟩ : ∃ x, x = nthN ps k := ⟨_, rfl⟩
        have HX := Lib.hid hx
        rw [← hx] at HC1
        clear hd hx
        go_wp2
        go_loopw [7, 9] (fun nn kk W => ∃ t : Nat, k + 1 ≤ t ∧ t ≤ l ∧ kk = .int .i64 t ∧ nn = .int .i64 ((inv ps k : Int) + (invTo ps k t : Int)) ∧ Hid (Below w2.heap.size w2 W)) (fun _ kk _ => l - (intOf kk).toNat)
        case atStart => exact ⟨k + 1, Nat.le_refl _, by omega, by go_num, by rw [invTo_zero ps k (k + 1) (Nat.le_refl _)]; go_num, HB⟩
        case round =>
          obtain ⟨t, ht1, ht, rfl, rfl, HB3⟩ := hrel
          have t0 : (0 : Int) ≤ t := by omega
          have hJ : invTo ps k t ≤ 1000 := Nat.le_trans (invTo_le ps k t) (by omega)
          by_cases htl : t < l
          · have tl : (t : Int) < l := by omega
            have e2 := row_n HC.out (show t < ps.length by rw [← HL.out]; exact htl)
            obtain ⟨y, hy⟩ : ∃ y, y = nthN ps t := ⟨_, rfl⟩
            rw [← hy] at e2
            have c1 := (HB3.out.cell (p := ⟨B, off + k, none⟩) HLT.out).trans HC1.out
            have c2 := (HB3.out.cell (p := ⟨B, off + t, none⟩) HLT.out).trans e2
            have hstep : invTo ps k (t + 1) = invTo ps k t + if y < x then 1 else 0 := by
              rw [invTo, ← HX.out, ← hy]
              by_cases e : y < x
              · rw [if_pos e, if_pos ⟨by omega, e⟩]
              · rw [if_neg e, if_neg (fun h => e h.2)]
            have E2 := Lib.hid e2
            clear e2 hy
            by_cases hyx : y < x
            · have yx : (y : Int) < x := by omega
              rw [if_pos hyx] at hstep
              have HST := Lib.hid hstep
              have DY0 : Hid (Below w2.heap.size w2 wr.drew) := Lib.hid HB3.out.drew
              have HSS : Hid (∀ w', Below w2.heap.size w2 w' → w'.cell? ⟨B, off + k, none⟩ = some (.int .i64 x) ∧ w'.cell? ⟨B, off + t, none⟩ = some (.int .i64 y)) := Lib.hid fun w' hw => ⟨(hw.cell (p := ⟨B, off + k, none⟩) HLT.out).trans HC1.out, (hw.cell (p := ⟨B, off + t, none⟩) HLT.out).trans E2.out⟩
              clear hstep c1 c2
              go_wp2_with fail
              refine wp_region_held_drew (S := (fun w' => w'.cell? ⟨B, off + k, none⟩ = some (.int .i64 x) ∧ w'.cell? ⟨B, off + t, none⟩ = some (.int .i64 y))) (by kernel_rfl) (HSS.out _ DY0.out) (fun hHeld => ?_)
              generalize wr.drew = Y0 at DY0 hHeld ⊢
              refine ty (v := ?_) 0 (fun w hSw => ?_) ?_
              rotate_left
              · (try dsimp only at hSw); go_simp; (try with_reducible rfl)
              try simp only [List.getElem_toArray, List.getElem_cons_succ, List.getElem_cons_zero, Act.put, List.setIfInBounds_toArray, List.set_cons_zero, List.set_cons_succ]
              refine ty (v := ?_) 1 (fun w hSw => ?_) ?_
              rotate_left
              · (try dsimp only at hSw); go_simp; (try with_reducible rfl)
              try simp only [List.getElem_toArray, List.getElem_cons_succ, List.getElem_cons_zero, Act.put, List.setIfInBounds_toArray, List.set_cons_zero, List.set_cons_succ]
              refine ty (v := ?_) 2 (fun w hSw => ?_) ?_
              rotate_left
              · (try dsimp only at hSw); go_simp; (try with_reducible rfl)
              try simp only [List.getElem_toArray, List.getElem_cons_succ, List.getElem_cons_zero, Act.put, List.setIfInBounds_toArray, List.set_cons_zero, List.set_cons_succ]
              refine ty (v := ?_) 3 (fun w hSw => ?_) ?_
              rotate_left
              · (try dsimp only at hSw); go_simp; (try with_reducible rfl)
              try simp only [List.getElem_toArray, List.getElem_cons_succ, List.getElem_cons_zero, Act.put, List.setIfInBounds_toArray, List.set_cons_zero, List.set_cons_succ]
              refine ty (v := ?_) 4 (fun w hSw => ?_) ?_
              rotate_left
              · (try dsimp only at hSw); go_simp; (try with_reducible rfl)
              try simp only [List.getElem_toArray, List.getElem_cons_succ, List.getElem_cons_zero, Act.put, List.setIfInBounds_toArray, List.set_cons_zero, List.set_cons_succ]
              refine ty (v := ?_) 5 (fun w hSw => ?_) ?_
              rotate_left
              · (try dsimp only at hSw); go_simp; (try with_reducible rfl)
              try simp only [List.getElem_toArray, List.getElem_cons_succ, List.getElem_cons_zero, Act.put, List.setIfInBounds_toArray, List.set_cons_zero, List.set_cons_succ]
              refine ty (v := ?_) 6 (fun w hSw => ?_) ?_
              rotate_left
              · (try dsimp only at hSw); go_simp; (try with_reducible rfl)
              try simp only [List.getElem_toArray, List.getElem_cons_succ, List.getElem_cons_zero, Act.put, List.setIfInBounds_toArray, List.set_cons_zero, List.set_cons_succ]
              refine ty (v := ?_) 7 (fun w hSw => ?_) ?_
              rotate_left
              · (try dsimp only at hSw); go_simp; (try with_reducible rfl)
              try simp only [List.getElem_toArray, List.getElem_cons_succ, List.getElem_cons_zero, Act.put, List.setIfInBounds_toArray, List.set_cons_zero, List.set_cons_succ]
              refine ty (v := ?_) 8 (fun w hSw => ?_) ?_
              rotate_left
              · (try dsimp only at hSw); go_simp; (try with_reducible rfl)
              try simp only [List.getElem_toArray, List.getElem_cons_succ, List.getElem_cons_zero, Act.put, List.setIfInBounds_toArray, List.set_cons_zero, List.set_cons_succ]
              refine wpAnyH_done (by kernel_rfl) ?_ _
              go_wp2
              go_roundw
              case rel => exact ⟨t + 1, by omega, by omega, by go_num, by rw [HST.out]; go_num, DY0⟩
              case measure => simp [intOf]; omega
            · have yx : ¬ ((y : Int) < x) := by omega
              rw [if_neg hyx] at hstep
              have HST := Lib.hid hstep
              have DY0 : Hid (Below w2.heap.size w2 wr.drew) := Lib.hid HB3.out.drew
              have HSS : Hid (∀ w', Below w2.heap.size w2 w' → w'.cell? ⟨B, off + k, none⟩ = some (.int .i64 x) ∧ w'.cell? ⟨B, off + t, none⟩ = some (.int .i64 y)) := Lib.hid fun w' hw => ⟨(hw.cell (p := ⟨B, off + k, none⟩) HLT.out).trans HC1.out, (hw.cell (p := ⟨B, off + t, none⟩) HLT.out).trans E2.out⟩
              clear hstep c1 c2
              go_wp2_with fail
              refine wp_region_held_drew (S := (fun w' => w'.cell? ⟨B, off + k, none⟩ = some (.int .i64 x) ∧ w'.cell? ⟨B, off + t, none⟩ = some (.int .i64 y))) (by kernel_rfl) (HSS.out _ DY0.out) (fun hHeld => ?_)
              generalize wr.drew = Y0 at DY0 hHeld ⊢
              refine ty (v := ?_) 0 (fun w hSw => ?_) ?_
              rotate_left
              · (try dsimp only at hSw); go_simp; (try with_reducible rfl)
              try simp only [List.getElem_toArray, List.getElem_cons_succ, List.getElem_cons_zero, Act.put, List.setIfInBounds_toArray, List.set_cons_zero, List.set_cons_succ]
              refine ty (v := ?_) 1 (fun w hSw => ?_) ?_
              rotate_left
              · (try dsimp only at hSw); go_simp; (try with_reducible rfl)
              try simp only [List.getElem_toArray, List.getElem_cons_succ, List.getElem_cons_zero, Act.put, List.setIfInBounds_toArray, List.set_cons_zero, List.set_cons_succ]
              refine ty (v := ?_) 2 (fun w hSw => ?_) ?_
              rotate_left
              · (try dsimp only at hSw); go_simp; (try with_reducible rfl)
              try simp only [List.getElem_toArray, List.getElem_cons_succ, List.getElem_cons_zero, Act.put, List.setIfInBounds_toArray, List.set_cons_zero, List.set_cons_succ]
              refine ty (v := ?_) 3 (fun w hSw => ?_) ?_
              rotate_left
              · (try dsimp only at hSw); go_simp; (try with_reducible rfl)
              try simp only [List.getElem_toArray, List.getElem_cons_succ, List.getElem_cons_zero, Act.put, List.setIfInBounds_toArray, List.set_cons_zero, List.set_cons_succ]
              refine ty (v := ?_) 4 (fun w hSw => ?_) ?_
              rotate_left
              · (try dsimp only at hSw); go_simp; (try with_reducible rfl)
              try simp only [List.getElem_toArray, List.getElem_cons_succ, List.getElem_cons_zero, Act.put, List.setIfInBounds_toArray, List.set_cons_zero, List.set_cons_succ]
              refine ty (v := ?_) 5 (fun w hSw => ?_) ?_
              rotate_left
              · (try dsimp only at hSw); go_simp; (try with_reducible rfl)
              try simp only [List.getElem_toArray, List.getElem_cons_succ, List.getElem_cons_zero, Act.put, List.setIfInBounds_toArray, List.set_cons_zero, List.set_cons_succ]
              refine ty (v := ?_) 6 (fun w hSw => ?_) ?_
              rotate_left
              · (try dsimp only at hSw); go_simp; (try with_reducible rfl)
              try simp only [List.getElem_toArray, List.getElem_cons_succ, List.getElem_cons_zero, Act.put, List.setIfInBounds_toArray, List.set_cons_zero, List.set_cons_succ]
              refine ty (v := ?_) 7 (fun w hSw => ?_) ?_
              rotate_left
              · (try dsimp only at hSw); go_simp; (try with_reducible rfl)
              try simp only [List.getElem_toArray, List.getElem_cons_succ, List.getElem_cons_zero, Act.put, List.setIfInBounds_toArray, List.set_cons_zero, List.set_cons_succ]
              refine ty (v := ?_) 8 (fun w hSw => ?_) ?_
              rotate_left
              · (try dsimp only at hSw); go_simp; (try with_reducible rfl)
              try simp only [List.getElem_toArray, List.getElem_cons_succ, List.getElem_cons_zero, Act.put, List.setIfInBounds_toArray, List.set_cons_zero, List.set_cons_succ]
              refine wpAnyH_done (by kernel_rfl) ?_ _
              go_wp2
              go_roundw
              case rel => exact ⟨t + 1, by omega, by omega, by go_num, by rw [HST.out]; go_num, DY0⟩
              case measure => simp [intOf]; omega
          · have tl : ¬ (t : Int) < l := by omega
            obtain rfl : t = l := by omega
            have HST : Hid (inv ps (k + 1) = inv ps k + invTo ps k t) := Lib.hid (by rw [inv, ← HL.out])
            go_wp2
            go_roundw
            case rel => exact ⟨k + 1, by omega, by go_num, by rw [HST.out]; go_num, HB3⟩
            case measure => simp [intOf]; omega
      · have kl : ¬ (k : Int) < l := by omega
        obtain rfl : k = l := by omega
        clear hd
        go_wp2
        go_ret
        exact ⟨by rw [HS.out]; rfl, HB2.out.trans (HB.out.mono HB2.out.size)⟩
end Go.Proofs.YtlkndpofegemdaaGreat.Tra

/- What the document's Same gives over two orders (layer 19, traces). Conditions: records and lists lie in memory as their cells say; at most 1000 lists in each; ids and numbers' words of 64 bits, texts of a length that Go reads. -/
namespace Go.Proofs.YtlkndpofegemdaaGreat.Tra
open Go.RowKit Cmd Bat Ids Rec Wid Gra Rea Cps
set_option linter.unusedVariables false
set_option linter.unusedSimpArgs false

set_option maxRecDepth 100000 in
set_option maxHeartbeats 8000000 in
theorem refsame_any (x v u : Value) (rs : List Rcd) (a b : List (List Idn)) (w : World) (hr : layG.Row w x rs) (h : layLL.Row w v a) (g : layLL.Row w u b) (ha : a.length ≤ 1000) (hb : b.length ≤ 1000) (hw : ∀ r ∈ rs, wfG r) :
    Calls Tryz.prog 10 #[x, v, u] w (RetBelow (.bool (sameG rs a b)) w) := by
  have HPl := Lib.hid (fun W (hW : Below w.heap.size w W) => refplaces_any v u a b W (h.on hW) (g.on hW) ha hb)
  have HCf := Lib.hid (fun W (hW : Below w.heap.size w W) p q c d (hp : RowAt W p c) (hq : RowAt W q d) => refconflict_any x p q rs c d W (hr.on hW) hp hq hw)
  obtain ⟨q, caq, rfl, g1, hdq⟩ := g.parts
  go_enter Tryz.func10, Tryz.ntmps10
  have D0 : Hid (Below w.heap.size w w) := Lib.hid (Below.refl _ _)
  go_wp2_with (go_at_call 25; ((with_reducible refine (HPl.out _ D0.out).mono ?_); rintro e w2 ⟨uo, uk, rfl, hb2, hy, hn⟩; have HB2 := Lib.hid (D0.out.trans (hb2.mono D0.out.size)); have HY := Lib.hid hy; have HN := Lib.hid hn; clear hb2 hy hn))
  cases uk with
  | false =>
    have HE := Lib.hid (same_none (rs := rs) (HN.out rfl))
    clear HY HN HPl HCf hdq
    go_wp2
    go_loopw [9] (fun i W => i = .int .i64 0 ∧ Hid (Below w2.heap.size w2 W)) (fun _ _ => 0)
    case atStart => exact ⟨rfl, Lib.hid (Below.refl _ _)⟩
    case round =>
      obtain ⟨rfl, HB⟩ := hrel
      go_wp2
      go_ret
      exact ⟨ret_bool HE.out.symm, HB2.out.trans (HB.out.mono HB2.out.size)⟩
  | true =>
    obtain ⟨ps, hps, ho⟩ := HY.out rfl
    obtain ⟨p, cap, rfl, hl, hd⟩ := (Wd.Own.row ho).parts
    have HYES := Lib.hid (fun h => same_yes (rs := rs) hps h)
    have HNO := Lib.hid (fun h => same_bad (rs := rs) hps h)
    have hlb := placesG_len hps
    obtain ⟨l, hl'⟩ : ∃ l, l = ps.length := ⟨_, rfl⟩
    have HL := Lib.hid hl'
    have HLB : Hid (l = b.length) := Lib.hid (by omega)
    have hL : l ≤ 1000 := by omega
    rw [← hl'] at hl hd ⊢
    rw [show b.length = l from HLB.out.symm] at g1 hdq ⊢
    clear HY HN HPl ho hps hlb hl' h g ha hb
    go_wp2
    go_loopw [9] (fun i W => ∃ k : Nat, k ≤ l ∧ i = .int .i64 k ∧ Hid (Below w2.heap.size w2 W) ∧ Hid (∀ i', i' < k → ∀ t, i' < t → t < l → nthN ps t < nthN ps i' → confG rs (nthL b i') (nthL b t) = false)) (fun i _ => l - (intOf i).toNat)
    case atStart => exact ⟨0, Nat.zero_le _, rfl, Lib.hid (Below.refl _ _), Lib.hid fun i' hi => absurd hi (Nat.not_lt_zero _)⟩
    case round =>
      obtain ⟨k, hk, rfl, HB, HA⟩ := hrel
      have k0 : (0 : Int) ≤ k := by omega
      by_cases hkl : k < l
      · have kl : (k : Int) < l := by omega
        obtain ⟨B, off, rfl, HC⟩ := hd.resolve_left (by omega)
        obtain ⟨BB, offB, rfl, HCB⟩ := hdq.resolve_left (by omega)
        have HLT := Lib.hid HC.out.lt
        have HLTB := Lib.hid HCB.out.lt
        have HC1 := Lib.hid (row_n HC.out (show k < ps.length by rw [← HL.out]; exact hkl))
        obtain ⟨p1, c1, e1, r1⟩ := llAt HCB.out (show k < b.length by rw [← HLB.out]; exact hkl)
        change RowAt _ (Value.slice p1 (nthL b k).length c1) (nthL b k) at r1
        change _ = some (Value.slice p1 (nthL b k).length c1) at e1
        generalize hl1 : (nthL b k).length = l1 at r1 e1
        have HE1 := Lib.hid e1
        have HR1 := Lib.hid r1
        obtain ⟨x1, hx⟩ : ∃ x, x = nthN ps k := ⟨_, rfl⟩
        have HX := Lib.hid hx
        rw [← hx] at HC1
        clear hd hx hdq e1 r1 hl1
        go_wp2
        go_loopw [10] (fun kk W => ∃ t : Nat, k + 1 ≤ t ∧ t ≤ l ∧ kk = .int .i64 t ∧ Hid (Below w2.heap.size w2 W) ∧ Hid (∀ t', k < t' → t' < t → nthN ps t' < nthN ps k → confG rs (nthL b k) (nthL b t') = false)) (fun kk _ => l - (intOf kk).toNat)
        case atStart => exact ⟨k + 1, Nat.le_refl _, by omega, by go_num, HB, Lib.hid fun t' h1 h2 => absurd h2 (by omega)⟩
        case round =>
          obtain ⟨t, ht1, ht, rfl, HB3, HT⟩ := hrel
          have t0 : (0 : Int) ≤ t := by omega
          by_cases htl : t < l
          · have tl : (t : Int) < l := by omega
            have E2 := Lib.hid (row_n HC.out (show t < ps.length by rw [← HL.out]; exact htl))
            obtain ⟨p2, c2, e2, r2⟩ := llAt HCB.out (show t < b.length by rw [← HLB.out]; exact htl)
            change RowAt _ (Value.slice p2 (nthL b t).length c2) (nthL b t) at r2
            change _ = some (Value.slice p2 (nthL b t).length c2) at e2
            generalize hl2 : (nthL b t).length = l2 at r2 e2
            have HE2 := Lib.hid e2
            have HR2 := Lib.hid r2
            have HNX : Hid ((nthN ps t < nthN ps k → confG rs (nthL b k) (nthL b t) = false) → ∀ t', k < t' → t' < t + 1 → nthN ps t' < nthN ps k → confG rs (nthL b k) (nthL b t') = false) := Lib.hid fun h t' h1 h2 h3 => by
              by_cases e : t' = t
              · subst e; exact h h3
              · exact HT.out t' h1 (by omega) h3
            have HBAD : Hid (nthN ps t < nthN ps k → confG rs (nthL b k) (nthL b t) = true → sameG rs a b = false) := Lib.hid fun h1 h2 => HNO.out fun hS => by
              have := hS k t (by omega) (by rw [← HL.out]; exact htl) h1
              rw [h2] at this; cases this
            obtain ⟨y1, hy⟩ : ∃ y, y = nthN ps t := ⟨_, rfl⟩
            rw [← hy, ← HX.out] at HNX HBAD
            rw [← hy] at E2
            have HSS : Hid (∀ w', Below w2.heap.size w2 w' → w'.cell? ⟨B, off + k, none⟩ = some (.int .i64 x1) ∧ w'.cell? ⟨B, off + t, none⟩ = some (.int .i64 y1) ∧ w'.cell? ⟨BB, offB + k, none⟩ = some (.slice p1 l1 c1) ∧ w'.cell? ⟨BB, offB + t, none⟩ = some (.slice p2 l2 c2)) := Lib.hid fun w' hw =>
              ⟨(hw.cell (p := ⟨B, off + k, none⟩) HLT.out).trans HC1.out, (hw.cell (p := ⟨B, off + t, none⟩) HLT.out).trans E2.out, ((HB2.out.trans (hw.mono HB2.out.size)).cell (p := ⟨BB, offB + k, none⟩) HLTB.out).trans HE1.out, ((HB2.out.trans (hw.mono HB2.out.size)).cell (p := ⟨BB, offB + t, none⟩) HLTB.out).trans HE2.out⟩
            have HK : Hid (∀ W, Below w2.heap.size w2 W → Calls Tryz.prog 14 #[x, .slice p1 l1 c1, .slice p2 l2 c2] W (RetBelow (.bool (confG rs (nthL b k) (nthL b t))) W)) := Lib.hid fun W hW => by
              have hq := HB2.out.trans (hW.mono HB2.out.size)
              exact HCf.out W hq _ _ _ _ (HR1.out.on hq) (HR2.out.on hq)
            generalize confG rs (nthL b k) (nthL b t) = cf at HNX HBAD HK
            have DY0 : Hid (Below w2.heap.size w2 wr.drew) := Lib.hid HB3.out.drew
            clear e2 r2 hy hl2
            by_cases hyx : y1 < x1
            · have yx : (y1 : Int) < x1 := by omega
              have HNX2 := Lib.hid (fun h => HNX.out fun _ => h)
              have HBAD2 := Lib.hid (HBAD.out hyx)
              clear HNX HBAD
              go_wp2_with fail
              refine wp_region_held_drew (S := (fun w' => w'.cell? ⟨B, off + k, none⟩ = some (.int .i64 x1) ∧ w'.cell? ⟨B, off + t, none⟩ = some (.int .i64 y1) ∧ w'.cell? ⟨BB, offB + k, none⟩ = some (.slice p1 l1 c1) ∧ w'.cell? ⟨BB, offB + t, none⟩ = some (.slice p2 l2 c2))) (by kernel_rfl) (HSS.out _ DY0.out) (fun hHeld => ?_)
              generalize wr.drew = Y0 at DY0 hHeld ⊢
              refine ty (v := ?_) 0 (fun w hSw => ?_) ?_
              rotate_left
              · (try dsimp only at hSw); go_simp; (try with_reducible rfl)
              try simp only [List.getElem_toArray, List.getElem_cons_succ, List.getElem_cons_zero, Act.put, List.setIfInBounds_toArray, List.set_cons_zero, List.set_cons_succ]
              refine ty (v := ?_) 1 (fun w hSw => ?_) ?_
              rotate_left
              · (try dsimp only at hSw); go_simp; (try with_reducible rfl)
              try simp only [List.getElem_toArray, List.getElem_cons_succ, List.getElem_cons_zero, Act.put, List.setIfInBounds_toArray, List.set_cons_zero, List.set_cons_succ]
              refine ty (v := ?_) 2 (fun w hSw => ?_) ?_
              rotate_left
              · (try dsimp only at hSw); go_simp; (try with_reducible rfl)
              try simp only [List.getElem_toArray, List.getElem_cons_succ, List.getElem_cons_zero, Act.put, List.setIfInBounds_toArray, List.set_cons_zero, List.set_cons_succ]
              refine ty (v := ?_) 3 (fun w hSw => ?_) ?_
              rotate_left
              · (try dsimp only at hSw); go_simp; (try with_reducible rfl)
              try simp only [List.getElem_toArray, List.getElem_cons_succ, List.getElem_cons_zero, Act.put, List.setIfInBounds_toArray, List.set_cons_zero, List.set_cons_succ]
              refine ty (v := ?_) 4 (fun w hSw => ?_) ?_
              rotate_left
              · (try dsimp only at hSw); go_simp; (try with_reducible rfl)
              try simp only [List.getElem_toArray, List.getElem_cons_succ, List.getElem_cons_zero, Act.put, List.setIfInBounds_toArray, List.set_cons_zero, List.set_cons_succ]
              refine ty (v := ?_) 5 (fun w hSw => ?_) ?_
              rotate_left
              · (try dsimp only at hSw); go_simp; (try with_reducible rfl)
              try simp only [List.getElem_toArray, List.getElem_cons_succ, List.getElem_cons_zero, Act.put, List.setIfInBounds_toArray, List.set_cons_zero, List.set_cons_succ]
              refine ty (v := ?_) 6 (fun w hSw => ?_) ?_
              rotate_left
              · (try dsimp only at hSw); go_simp; (try with_reducible rfl)
              try simp only [List.getElem_toArray, List.getElem_cons_succ, List.getElem_cons_zero, Act.put, List.setIfInBounds_toArray, List.set_cons_zero, List.set_cons_succ]
              refine ty (v := ?_) 7 (fun w hSw => ?_) ?_
              rotate_left
              · (try dsimp only at hSw); go_simp; (try with_reducible rfl)
              try simp only [List.getElem_toArray, List.getElem_cons_succ, List.getElem_cons_zero, Act.put, List.setIfInBounds_toArray, List.set_cons_zero, List.set_cons_succ]
              refine ty (v := ?_) 8 (fun w hSw => ?_) ?_
              rotate_left
              · (try dsimp only at hSw); go_simp; (try with_reducible rfl)
              try simp only [List.getElem_toArray, List.getElem_cons_succ, List.getElem_cons_zero, Act.put, List.setIfInBounds_toArray, List.set_cons_zero, List.set_cons_succ]
              refine ty (v := ?_) 9 (fun w hSw => ?_) ?_
              rotate_left
              · (try dsimp only at hSw); go_simp; (try with_reducible rfl)
              try simp only [List.getElem_toArray, List.getElem_cons_succ, List.getElem_cons_zero, Act.put, List.setIfInBounds_toArray, List.set_cons_zero, List.set_cons_succ]
              refine ty (v := ?_) 10 (fun w hSw => ?_) ?_
              rotate_left
              · (try dsimp only at hSw); go_simp; (try with_reducible rfl)
              try simp only [List.getElem_toArray, List.getElem_cons_succ, List.getElem_cons_zero, Act.put, List.setIfInBounds_toArray, List.set_cons_zero, List.set_cons_succ]
              refine ty (v := ?_) 11 (fun w hSw => ?_) ?_
              rotate_left
              · (try dsimp only at hSw); go_simp; (try with_reducible rfl)
              try simp only [List.getElem_toArray, List.getElem_cons_succ, List.getElem_cons_zero, Act.put, List.setIfInBounds_toArray, List.set_cons_zero, List.set_cons_succ]
              refine ty (v := ?_) 12 (fun w hSw => ?_) ?_
              rotate_left
              · (try dsimp only at hSw); go_simp; (try with_reducible rfl)
              try simp only [List.getElem_toArray, List.getElem_cons_succ, List.getElem_cons_zero, Act.put, List.setIfInBounds_toArray, List.set_cons_zero, List.set_cons_succ]
              refine ty (v := ?_) 13 (fun w hSw => ?_) ?_
              rotate_left
              · (try dsimp only at hSw); go_simp; (try with_reducible rfl)
              try simp only [List.getElem_toArray, List.getElem_cons_succ, List.getElem_cons_zero, Act.put, List.setIfInBounds_toArray, List.set_cons_zero, List.set_cons_succ]
              refine ty (v := ?_) 14 (fun w hSw => ?_) ?_
              rotate_left
              · (try dsimp only at hSw); go_simp; (try with_reducible rfl)
              try simp only [List.getElem_toArray, List.getElem_cons_succ, List.getElem_cons_zero, Act.put, List.setIfInBounds_toArray, List.set_cons_zero, List.set_cons_succ]
              refine ty (v := ?_) 15 (fun w hSw => ?_) ?_
              rotate_left
              · (try dsimp only at hSw); go_simp; (try with_reducible rfl)
              try simp only [List.getElem_toArray, List.getElem_cons_succ, List.getElem_cons_zero, Act.put, List.setIfInBounds_toArray, List.set_cons_zero, List.set_cons_succ]
              refine ty (v := ?_) 16 (fun w hSw => ?_) ?_
              rotate_left
              · (try dsimp only at hSw); go_simp; (try with_reducible rfl)
              try simp only [List.getElem_toArray, List.getElem_cons_succ, List.getElem_cons_zero, Act.put, List.setIfInBounds_toArray, List.set_cons_zero, List.set_cons_succ]
              refine ty (v := ?_) 17 (fun w hSw => ?_) ?_
              rotate_left
              · (try dsimp only at hSw); go_simp; (try with_reducible rfl)
              try simp only [List.getElem_toArray, List.getElem_cons_succ, List.getElem_cons_zero, Act.put, List.setIfInBounds_toArray, List.set_cons_zero, List.set_cons_succ]
              refine ty (v := ?_) 18 (fun w hSw => ?_) ?_
              rotate_left
              · (try dsimp only at hSw); go_simp; (try with_reducible rfl)
              try simp only [List.getElem_toArray, List.getElem_cons_succ, List.getElem_cons_zero, Act.put, List.setIfInBounds_toArray, List.set_cons_zero, List.set_cons_succ]
              refine tr 19 (fun K hK => ?_)
              go_simp
              (go_at_call 14; ((with_reducible refine (HK.out _ DY0.out).mono ?_); rintro E Y1 ⟨rfl, hb⟩; have DY1 := Lib.hid (DY0.out.trans (hb.mono DY0.out.size)); clear hb))
              refine hK.out _ _ ?_ (fun hHeld => ?_)
              · exact HSS.out _ DY1.out
              clear hK K
              try simp only [List.getElem_toArray, List.getElem_cons_succ, List.getElem_cons_zero, Act.put, List.setIfInBounds_toArray, List.set_cons_zero, List.set_cons_succ]
              refine ty (v := ?_) 20 (fun w hSw => ?_) ?_
              rotate_left
              · (try dsimp only at hSw); go_simp; (try with_reducible rfl)
              try simp only [List.getElem_toArray, List.getElem_cons_succ, List.getElem_cons_zero, Act.put, List.setIfInBounds_toArray, List.set_cons_zero, List.set_cons_succ]
              refine wpAnyH_done (by kernel_rfl) ?_ _
              cases cf with
              | true =>
                have HE := Lib.hid (HBAD2.out rfl)
                go_wp2
                go_ret
                exact ⟨ret_bool HE.out.symm, HB2.out.trans (DY1.out.mono HB2.out.size)⟩
              | false =>
                have HT2 := Lib.hid (HNX2.out rfl)
                go_wp2
                go_roundw
                case rel => exact ⟨t + 1, by omega, by omega, by go_num, DY1, Lib.hid fun t1 h1 h2 h3 => HT2.out t1 h1 h2 (by rw [HX.out]; exact h3)⟩
                case measure => simp [intOf]; omega
            · have yx : ¬ ((y1 : Int) < x1) := by omega
              have HT2 := Lib.hid (HNX.out fun h => absurd h hyx)
              clear HNX HBAD
              go_wp2_with fail
              refine wp_region_held_drew (S := (fun w' => w'.cell? ⟨B, off + k, none⟩ = some (.int .i64 x1) ∧ w'.cell? ⟨B, off + t, none⟩ = some (.int .i64 y1) ∧ w'.cell? ⟨BB, offB + k, none⟩ = some (.slice p1 l1 c1) ∧ w'.cell? ⟨BB, offB + t, none⟩ = some (.slice p2 l2 c2))) (by kernel_rfl) (HSS.out _ DY0.out) (fun hHeld => ?_)
              generalize wr.drew = Y0 at DY0 hHeld ⊢
              refine ty (v := ?_) 0 (fun w hSw => ?_) ?_
              rotate_left
              · (try dsimp only at hSw); go_simp; (try with_reducible rfl)
              try simp only [List.getElem_toArray, List.getElem_cons_succ, List.getElem_cons_zero, Act.put, List.setIfInBounds_toArray, List.set_cons_zero, List.set_cons_succ]
              refine ty (v := ?_) 1 (fun w hSw => ?_) ?_
              rotate_left
              · (try dsimp only at hSw); go_simp; (try with_reducible rfl)
              try simp only [List.getElem_toArray, List.getElem_cons_succ, List.getElem_cons_zero, Act.put, List.setIfInBounds_toArray, List.set_cons_zero, List.set_cons_succ]
              refine ty (v := ?_) 2 (fun w hSw => ?_) ?_
              rotate_left
              · (try dsimp only at hSw); go_simp; (try with_reducible rfl)
              try simp only [List.getElem_toArray, List.getElem_cons_succ, List.getElem_cons_zero, Act.put, List.setIfInBounds_toArray, List.set_cons_zero, List.set_cons_succ]
              refine ty (v := ?_) 3 (fun w hSw => ?_) ?_
              rotate_left
              · (try dsimp only at hSw); go_simp; (try with_reducible rfl)
              try simp only [List.getElem_toArray, List.getElem_cons_succ, List.getElem_cons_zero, Act.put, List.setIfInBounds_toArray, List.set_cons_zero, List.set_cons_succ]
              refine ty (v := ?_) 4 (fun w hSw => ?_) ?_
              rotate_left
              · (try dsimp only at hSw); go_simp; (try with_reducible rfl)
              try simp only [List.getElem_toArray, List.getElem_cons_succ, List.getElem_cons_zero, Act.put, List.setIfInBounds_toArray, List.set_cons_zero, List.set_cons_succ]
              refine ty (v := ?_) 5 (fun w hSw => ?_) ?_
              rotate_left
              · (try dsimp only at hSw); go_simp; (try with_reducible rfl)
              try simp only [List.getElem_toArray, List.getElem_cons_succ, List.getElem_cons_zero, Act.put, List.setIfInBounds_toArray, List.set_cons_zero, List.set_cons_succ]
              refine ty (v := ?_) 6 (fun w hSw => ?_) ?_
              rotate_left
              · (try dsimp only at hSw); go_simp; (try with_reducible rfl)
              try simp only [List.getElem_toArray, List.getElem_cons_succ, List.getElem_cons_zero, Act.put, List.setIfInBounds_toArray, List.set_cons_zero, List.set_cons_succ]
              refine ty (v := ?_) 7 (fun w hSw => ?_) ?_
              rotate_left
              · (try dsimp only at hSw); go_simp; (try with_reducible rfl)
              try simp only [List.getElem_toArray, List.getElem_cons_succ, List.getElem_cons_zero, Act.put, List.setIfInBounds_toArray, List.set_cons_zero, List.set_cons_succ]
              refine ty (v := ?_) 8 (fun w hSw => ?_) ?_
              rotate_left
              · (try dsimp only at hSw); go_simp; (try with_reducible rfl)
              try simp only [List.getElem_toArray, List.getElem_cons_succ, List.getElem_cons_zero, Act.put, List.setIfInBounds_toArray, List.set_cons_zero, List.set_cons_succ]
              refine ty (v := ?_) 9 (fun w hSw => ?_) ?_
              rotate_left
              · (try dsimp only at hSw); go_simp; (try with_reducible rfl)
              try simp only [List.getElem_toArray, List.getElem_cons_succ, List.getElem_cons_zero, Act.put, List.setIfInBounds_toArray, List.set_cons_zero, List.set_cons_succ]
              refine ts 10 ?_
              try simp only [List.getElem_toArray, List.getElem_cons_succ, List.getElem_cons_zero, Act.put, List.setIfInBounds_toArray, List.set_cons_zero, List.set_cons_succ]
              refine ts 11 ?_
              try simp only [List.getElem_toArray, List.getElem_cons_succ, List.getElem_cons_zero, Act.put, List.setIfInBounds_toArray, List.set_cons_zero, List.set_cons_succ]
              refine ts 12 ?_
              try simp only [List.getElem_toArray, List.getElem_cons_succ, List.getElem_cons_zero, Act.put, List.setIfInBounds_toArray, List.set_cons_zero, List.set_cons_succ]
              refine ts 13 ?_
              try simp only [List.getElem_toArray, List.getElem_cons_succ, List.getElem_cons_zero, Act.put, List.setIfInBounds_toArray, List.set_cons_zero, List.set_cons_succ]
              refine ts 14 ?_
              try simp only [List.getElem_toArray, List.getElem_cons_succ, List.getElem_cons_zero, Act.put, List.setIfInBounds_toArray, List.set_cons_zero, List.set_cons_succ]
              refine ts 15 ?_
              try simp only [List.getElem_toArray, List.getElem_cons_succ, List.getElem_cons_zero, Act.put, List.setIfInBounds_toArray, List.set_cons_zero, List.set_cons_succ]
              refine ts 16 ?_
              try simp only [List.getElem_toArray, List.getElem_cons_succ, List.getElem_cons_zero, Act.put, List.setIfInBounds_toArray, List.set_cons_zero, List.set_cons_succ]
              refine ts 17 ?_
              try simp only [List.getElem_toArray, List.getElem_cons_succ, List.getElem_cons_zero, Act.put, List.setIfInBounds_toArray, List.set_cons_zero, List.set_cons_succ]
              refine ts 18 ?_
              try simp only [List.getElem_toArray, List.getElem_cons_succ, List.getElem_cons_zero, Act.put, List.setIfInBounds_toArray, List.set_cons_zero, List.set_cons_succ]
              refine ts 19 ?_
              try simp only [List.getElem_toArray, List.getElem_cons_succ, List.getElem_cons_zero, Act.put, List.setIfInBounds_toArray, List.set_cons_zero, List.set_cons_succ]
              refine ty (v := ?_) 20 (fun w hSw => ?_) ?_
              rotate_left
              · (try dsimp only at hSw); go_simp; (try with_reducible rfl)
              try simp only [List.getElem_toArray, List.getElem_cons_succ, List.getElem_cons_zero, Act.put, List.setIfInBounds_toArray, List.set_cons_zero, List.set_cons_succ]
              refine wpAnyH_done (by kernel_rfl) ?_ _
              go_wp2
              go_roundw
              case rel => exact ⟨t + 1, by omega, by omega, by go_num, DY0, Lib.hid fun t1 h1 h2 h3 => HT2.out t1 h1 h2 (by rw [HX.out]; exact h3)⟩
              case measure => simp [intOf]; omega
          · have tl : ¬ (t : Int) < l := by omega
            have HA2 : Hid (∀ i', i' < k + 1 → ∀ t, i' < t → t < l → nthN ps t < nthN ps i' → confG rs (nthL b i') (nthL b t) = false) := Lib.hid fun i' hi t' h1 h2 h3 => by
              by_cases e : i' = k
              · subst e; exact HT.out t' h1 (by omega) h3
              · exact HA.out i' (by omega) t' h1 h2 h3
            go_wp2
            go_roundw
            case rel => exact ⟨k + 1, by omega, by go_num, HB3, HA2⟩
            case measure => simp [intOf]; omega
      · have kl : ¬ (k : Int) < l := by omega
        have HE := Lib.hid (HYES.out fun i' t h1 h2 h3 => HA.out i' (by have := HL.out; omega) t h1 (by rw [HL.out]; exact h2) h3)
        clear hd hdq
        go_wp2
        go_ret
        exact ⟨ret_bool HE.out.symm, HB2.out.trans (HB.out.mono HB2.out.size)⟩
end Go.Proofs.YtlkndpofegemdaaGreat.Tra
