/- What the statements' only of layer 14 (fold) gives: what just some commands make of a key. Conditions: the items and the writers lie in memory as their cells say; numbers' words of 64 bits; texts of a length that Go reads. (Written by tools/gen_folc.py.) -/
import Derived.Test.YtdnabghhjlhjoaaFolA
import Derived.Test.YtdnabghhjlhjoaaVauE
namespace Go.Proofs.Ytdnabghhjlhjoaa.Fol
open Go.RowKit F64 Cmd Bat Cel Wid Vau
set_option linter.unusedVariables false
set_option linter.unusedSimpArgs false

@[go_sem] theorem eql_wr (w : World) (a b k c d l : Int) : (binOp .eql 63 (.agg #[.int .i64 a, .int .i64 b, .int .i64 k]) (.agg #[.int .i64 c, .int .i64 d, .int .i64 l])).run Try.prog w = .ok (.bool ((a == c && b == d) && k == l)) w := by
  rw [run_eql_struct, equal_wr]; rfl
theorem fit_stepO {f g : Bool} {z y : Nat} {c : Cell2} {s : List UInt8} {ws : List Wr} {id : Int × Int} {k : Nat} {a : Int} {t : List UInt8} {x : Nat} (h : Fit f z c) (hm : (id, (k : Int)) ∈ ws) (ht : t = s) (hd : Fit g y (doC (f, z) a t x).1) : Fit g y (stepO s ws id k c (a, t, x)) := by
  unfold stepO
  rw [if_pos ⟨decide_eq_true hm, ht⟩]
  have := h.step (s := t) (k := a) (x := x) hd
  exact this
theorem stepO_no {s : List UInt8} {ws : List Wr} {id : Int × Int} {k : Nat} {c : Cell2} {x : Cmdn} (h : (decide ((id, (k : Int)) ∈ ws) && decide (x.2.1 = s)) = false) : stepO s ws id k c x = c := by
  unfold stepO
  rw [if_neg (fun e => by rw [e.1, decide_eq_true e.2] at h; cases h)]
/-- How far the search among the writers has come. -/
def Sk (q : Nat) (s : List UInt8) (ws : List Wr) (id : Int × Int) (k : Nat) (c : Cell2) (x : Cmdn) (f : Bool) (z : Nat) (e : Nat) : Prop :=
  (e ≤ q ∧ (decide ((id, (k : Int)) ∈ ws.take e) && decide (x.2.1 = s)) = false ∧ Fit f z c) ∨ (e = q + 1 ∧ Fit f z (stepO s ws id k c x))
theorem Sk.next {q : Nat} {s : List UInt8} {ws : List Wr} {id : Int × Int} {k : Nat} {c : Cell2} {x : Cmdn} {f : Bool} {z : Nat} {e : Nat} (h : Sk q s ws id k c x f z e) (he : e < q) (hq : q = ws.length) (hn : (decide (layW.at ws e = (id, (k : Int))) && decide (x.2.1 = s)) = false) : Sk q s ws id k c x f z (e + 1) := by
  rcases h with ⟨h1, h2, h3⟩ | ⟨h1, h2⟩
  · refine .inl ⟨by omega, ?_, h3⟩
    rw [mem_take_succ (by omega)]
    revert h2 hn
    cases decide (x.2.1 = s) <;> cases decide ((id, (k : Int)) ∈ ws.take e) <;> cases decide (layW.at ws e = (id, (k : Int))) <;> simp
  · omega
theorem Sk.fit {q : Nat} {s : List UInt8} {ws : List Wr} {id : Int × Int} {k : Nat} {c : Cell2} {x : Cmdn} {f : Bool} {z : Nat} {e : Nat} (h : Sk q s ws id k c x f z e) (he : e < q) : Fit f z c := by
  rcases h with ⟨h1, h2, h3⟩ | ⟨h1, h2⟩
  · exact h3
  · omega
theorem Sk.fin {q : Nat} {s : List UInt8} {ws : List Wr} {id : Int × Int} {k : Nat} {c : Cell2} {x : Cmdn} {f : Bool} {z : Nat} {e : Nat} (h : Sk q s ws id k c x f z e) (he : ¬ e < q) (hq : q = ws.length) : Fit f z (stepO s ws id k c x) := by
  rcases h with ⟨h1, h2, h3⟩ | ⟨h1, h2⟩
  · obtain rfl : e = q := by omega
    rw [hq, List.take_length] at h2
    rw [stepO_no h2]; exact h3
  · exact h2
theorem Sk.hit {q : Nat} {s : List UInt8} {ws : List Wr} {id : Int × Int} {k : Nat} {c : Cell2} {a : Int} {t : List UInt8} {x : Nat} {f g : Bool} {z y : Nat} {e : Nat} (h : Sk q s ws id k c (a, t, x) f z e) (he : e < q) (hq : q = ws.length) (hy : layW.at ws e = (id, (k : Int))) (ht : t = s) (hd : Fit g y (doC (f, z) a t x).1) : Sk q s ws id k c (a, t, x) g y (q + 1) :=
  .inr ⟨rfl, fit_stepO (h.fit he) (by rw [← hy]; exact layW.at_mem (by omega)) ht hd⟩

set_option maxHeartbeats 32000000 in
set_option maxRecDepth 100000 in
theorem ronly_any (v u : Value) (xs : List Itm) (s : List UInt8) (ws : List Wr) (w : World) (h : layT.Row w v xs) (hu : layW.Row w u ws) (hw : ∀ x ∈ xs, wfT x) (hl : ws.length ≤ 100000) : Calls Try.prog 18 #[v, .string (str s), u] w (GivesFold (onlyOf xs s ws) w) := by
  obtain ⟨p, cap, rfl, h1, hd⟩ := h.parts
  obtain ⟨pu, capu, rfl, gk1, gd⟩ := hu.parts
  obtain ⟨n, hn⟩ : ∃ n, n = xs.length := ⟨_, rfl⟩
  obtain ⟨q, hq⟩ : ∃ q, q = ws.length := ⟨_, rfl⟩
  rw [← hn] at h1 hd ⊢
  rw [← hq] at gk1 gd hl ⊢
  have HW := Lib.hid hw
  have HN := Lib.hid hn
  have HQ := Lib.hid hq
  have HT : Hid (onlyOf (xs.take n) s ws = onlyOf xs s ws) := Lib.hid (by rw [hn, List.take_length])
  have X0 := Lib.hid (Bx2.start w false 0 false 0)
  obtain ⟨i0, i1, i2, i3⟩ := X0.out.a.facts
  obtain ⟨j0, j1, j2, j3⟩ := X0.out.b.facts
  clear h hw hn hu hq
  go_enter Try.func18, Try.ntmps18
  go_wp2_with fail
  go_loopw [8] (fun j wr => ∃ (i : Nat) (f : Bool) (z : Nat), j = .int .i64 i ∧ i ≤ n ∧ Hid (Bx2 w false 0 f z wr) ∧ Hid (Fit f z (onlyOf (xs.take i) s ws))) (fun j _ => n - (intOf j).toNat)
  case atStart => exact ⟨0, false, 0, rfl, Nat.zero_le _, X0, Lib.hid ⟨rfl, rfl, fun _ => rfl, by decide⟩⟩
  case round =>
    obtain ⟨i, f, z, rfl, hi, HX, HF⟩ := hrel
    have i00 : (0 : Int) ≤ i := by omega
    by_cases hin : i < n
    · have kn : (i : Int) < n := by omega
      obtain ⟨B, off, rfl, HC⟩ := hd.resolve_left (by omega)
      have hix : i < xs.length := by rw [← HN.out]; exact hin
      obtain ⟨a1, a2, cs, hx⟩ : ∃ a b cs, layT.at xs i = ((a, b), cs) := ⟨_, _, _, rfl⟩
      have HX1 := Lib.hid hx
      have HIX := Lib.hid hix
      have hwf := HW.out _ (layT.at_mem hix)
      rw [hx] at hwf
      have HWC := Lib.hid hwf
      obtain ⟨p', cap', hp2, hm1, hm2, hd'⟩ := partT HC.out hix hx
      obtain ⟨m, hm⟩ : ∃ m, m = cs.length := ⟨_, rfl⟩
      rw [← hm] at hp2 hm1 hd'
      have HM := Lib.hid hm
      have HP2 := Lib.hid (fun W (hb : Below w.heap.size w W) => (hb.cell (p := ⟨B, off + i * 3 + 2, none⟩) HC.out.lt).trans hp2)
      have HPI : Hid (∀ W, Below w.heap.size w W → W.cell? ⟨B, off + i * 3, none⟩ = some (.int .i64 a1) ∧ W.cell? ⟨B, off + i * 3 + 1, none⟩ = some (.int .i64 a2)) := Lib.hid fun W hb => by
        obtain ⟨c0, c1, -⟩ := cellT (HC.out.on hb) hix hx
        exact ⟨c0, c1⟩
      obtain ⟨wq, hwq⟩ : ∃ wq, wq = wr := ⟨_, rfl⟩
      subst hwq
      clear hx hd hwf hix hm hp2
      go_wp2_with fail
      go_loopw [9] (fun j wr => ∃ (k : Nat) (f : Bool) (z : Nat), j = .int .i64 k ∧ k ≤ m ∧ Hid (Bx2 w false 0 f z wr) ∧ Hid (Fit f z (onlyB s ws (a1, a2) 0 (onlyOf (xs.take i) s ws) (cs.take k)))) (fun j _ => m - (intOf j).toNat)
      case atStart => exact ⟨0, f, z, rfl, Nat.zero_le _, HX, HF⟩
      case round =>
        obtain ⟨k, f, z, rfl, hk, HY, HG⟩ := hrel
        have k00 : (0 : Int) ≤ k := by omega
        have e2 := HP2.out _ HY.out.below
        by_cases hkm : k < m
        · have km : (k : Int) < m := by omega
          obtain ⟨B', off', rfl, HD⟩ := hd'.resolve_left (by omega)
          have hkx : k < cs.length := by rw [← HM.out]; exact hkm
          obtain ⟨a, t, x, hx⟩ : ∃ a t x, layC.at cs k = (a, t, x) := ⟨_, _, _, rfl⟩
          have hwf := HWC.out _ (layC.at_mem hkx)
          rw [hx] at hwf
          have HWX := Lib.hid hwf
          obtain ⟨c, hc⟩ : ∃ c, c = onlyB s ws (a1, a2) 0 (onlyOf (xs.take i) s ws) (cs.take k) := ⟨_, rfl⟩
          have HNX : Hid (onlyB s ws (a1, a2) 0 (onlyOf (xs.take i) s ws) (cs.take (k + 1)) = stepO s ws (a1, a2) k c (a, t, x)) := Lib.hid (by rw [onlyB_step hkx, hx, hc])
          rw [← hc] at HG
          have HS : Hid (∀ w', Below w.heap.size w w' → w'.cell? ⟨B, off + i * 3 + 2, none⟩ = some (.slice (some ⟨B', off', none⟩) m cap') ∧ w'.cell? ⟨B', off' + k * 3, none⟩ = some (.int .i64 a) ∧ w'.cell? ⟨B', off' + k * 3 + 1, none⟩ = some (.string (str t)) ∧ w'.cell? ⟨B', off' + k * 3 + 2, none⟩ = some (.float .f64 x)) := Lib.hid fun W hb => ⟨HP2.out _ hb, cellC (HD.out.on hb) hkx hx⟩
          obtain ⟨wq2, hwq2⟩ : ∃ wq2, wq2 = wr := ⟨_, rfl⟩
          subst hwq2
          clear hx hwf hkx hd' hc
          go_wp2_with fail
          go_loopw [10] (fun j wr => ∃ (e : Nat) (f : Bool) (z : Nat), j = .int .i64 e ∧ e ≤ q + 1 ∧ Hid (Bx2 w false 0 f z wr) ∧ Hid (Sk q s ws (a1, a2) k c (a, t, x) f z e)) (fun j _ => (q + 1) - (intOf j).toNat)
          case atStart => exact ⟨0, f, z, rfl, Nat.zero_le _, HY, Lib.hid (.inl ⟨Nat.zero_le _, rfl, HG.out⟩)⟩
          case round =>
            obtain ⟨e, f, z, rfl, he1, HZ, HK⟩ := hrel
            have e00 : (0 : Int) ≤ e := by omega
            by_cases heq : e < q
            · have ke : (e : Int) < q := by omega
              have kl : (e : Int) < 9223372036854775807 := by omega
              obtain ⟨Bu, offu, rfl, HU⟩ := gd.resolve_left (by omega)
              have hex : e < ws.length := by rw [← HQ.out]; exact heq
              obtain ⟨b1, b2, b3, hy⟩ : ∃ b1 b2 b3, layW.at ws e = ((b1, b2), b3) := ⟨_, _, _, rfl⟩
              have HEY := Lib.hid hy
              obtain ⟨d0, d1, d2⟩ := cellW (HU.out.on HZ.out.below) hex hy
              obtain ⟨c0, c1, c2, c3⟩ := HS.out _ HZ.out.below
              obtain ⟨g0, g1⟩ := HPI.out _ HZ.out.below
              have he := str_dec t s
              have hq : ∀ w, (binOp .eql 63 (.agg #[.int .i64 b1, .int .i64 b2, .int .i64 b3]) (.agg #[.int .i64 a1, .int .i64 a2, .int .i64 k])).run Try.prog w = .ok (.bool (decide (((b1, b2), b3) = ((a1, a2), (k : Int))))) w := fun w => by
                rw [eql_wr]
                congr 2
                rw [Bool.eq_iff_iff, decide_eq_true_eq, Prod.mk.injEq, Prod.mk.injEq, Bool.and_eq_true, Bool.and_eq_true, beq_iff_eq, beq_iff_eq, beq_iff_eq]
              have HNE : Hid ((decide (((b1, b2), b3) = ((a1, a2), (k : Int))) && decide (t = s)) = false → Sk q s ws (a1, a2) k c (a, t, x) f z (e + 1)) := Lib.hid fun h => HK.out.next heq HQ.out (by rw [hy]; exact h)
              have HHI : Hid (decide (((b1, b2), b3) = ((a1, a2), (k : Int))) = true → decide (t = s) = true → ∀ g y, Fit g y (doC (f, z) a t x).1 → Sk q s ws (a1, a2) k c (a, t, x) g y (q + 1)) := Lib.hid fun h1 h2 g y hd => HK.out.hit heq HQ.out (by rw [hy]; exact of_decide_eq_true h1) (of_decide_eq_true h2) hd
              have HFI : Hid (Fit f z c) := Lib.hid (HK.out.fit heq)
              clear hy hex gd
              generalize decide (((b1, b2), b3) = ((a1, a2), (k : Int))) = r1 at hq HNE HHI
              generalize decide (t = s) = r2 at he HNE HHI
              cases r1
              · go_wp2_with fail
                go_quiet (fail)
                go_wp2_with fail
                go_roundw
                case rel => exact ⟨e + 1, f, z, by go_num, by omega, Lib.hid (HZ.out.on (below_draws _ _)), Lib.hid (HNE.out rfl)⟩
                case measure => simp [intOf]; omega
              · cases r2
                · go_wp2_with fail
                  go_quiet (fail)
                  go_wp2_with fail
                  go_roundw
                  case rel => exact ⟨e + 1, f, z, by go_num, by omega, Lib.hid (HZ.out.on (below_draws _ _)), Lib.hid (HNE.out rfl)⟩
                  case measure => simp [intOf]; omega
                · have CD : Hid (∀ W, Calls Try.prog 24 #[.agg #[.bool f, .float .f64 z], .agg #[.int .i64 a, .string (str t), .float .f64 x]] W (GivesDo (doC (f, z) a t x) W)) := Lib.hid fun W => refdo_any (f, z) a t x W HFI.out.lt HWX.out.1 (by have := HWX.out.2; simp only [] at this; omega)
                  have HFS : Hid (∀ g y, Fit g y (doC (f, z) a t x).1 → Sk q s ws (a1, a2) k c (a, t, x) g y (q + 1)) := Lib.hid fun g y hd => HHI.out rfl rfl g y hd
                  generalize doC (f, z) a t x = R at CD HFS
                  clear HNE HHI
                  go_wp2_with fail
                  go_quiet (fail)
                  obtain ⟨WN, hWN⟩ : ∃ WN, WN = wr.drewN nq := ⟨_, rfl⟩
                  have HZN : Hid (Bx2 w false 0 f z WN) := Lib.hid (by rw [hWN]; exact HZ.out.on (below_draws _ _))
                  rw [← hWN]
                  have R0 := Lib.hid HZN.out.below.drew
                  have YD : Hid (Bx2 w false 0 f z WN.drew) := Lib.hid ⟨HZN.out.below.drew, HZN.out.a.drewn, HZN.out.b.drewn⟩
                  obtain ⟨y0, y1, y2, y3⟩ := YD.out.b.facts
                  clear hWN
                  go_wp2_with fail
                  refine wp_region_held_drew (S := (fun w' => w'.cell? ⟨B, off + i * 3 + 2, none⟩ = some (.slice (some ⟨B', off', none⟩) m cap') ∧ w'.cell? ⟨B', off' + k * 3, none⟩ = some (.int .i64 a) ∧ w'.cell? ⟨B', off' + k * 3 + 1, none⟩ = some (.string (str t)) ∧ w'.cell? ⟨B', off' + k * 3 + 2, none⟩ = some (.float .f64 x))) (by kernel_rfl) (HS.out _ R0.out) (fun hHeld => ?_)
                  refine wpAnyH_take (i := 1) (v := ?_) rfl (by kernel_rfl) (by kernel_rfl) (by kernel_rfl) (fun _ _ _ h => h) (Or.inl ⟨by rfl, fun w hSw => ?_⟩) (by assumption) ?_
                  rotate_left
                  · (try dsimp only at hSw); go_simp; (try with_reducible rfl)
                  try simp only [List.getElem_toArray, List.getElem_cons_succ, List.getElem_cons_zero, Act.put, List.setIfInBounds_toArray, List.set_cons_zero, List.set_cons_succ]
                  refine wpAnyH_take (i := 2) (v := ?_) rfl (by kernel_rfl) (by kernel_rfl) (by kernel_rfl) (fun _ _ _ h => h) (Or.inl ⟨by rfl, fun w hSw => ?_⟩) (by assumption) ?_
                  rotate_left
                  · (try dsimp only at hSw); go_simp; (try with_reducible rfl)
                  try simp only [List.getElem_toArray, List.getElem_cons_succ, List.getElem_cons_zero, Act.put, List.setIfInBounds_toArray, List.set_cons_zero, List.set_cons_succ]
                  refine wpAnyH_take (i := 3) (v := ?_) rfl (by kernel_rfl) (by kernel_rfl) (by kernel_rfl) (fun _ _ _ h => h) (Or.inl ⟨by rfl, fun w hSw => ?_⟩) (by assumption) ?_
                  rotate_left
                  · (try dsimp only at hSw); go_simp; (try with_reducible rfl)
                  try simp only [List.getElem_toArray, List.getElem_cons_succ, List.getElem_cons_zero, Act.put, List.setIfInBounds_toArray, List.set_cons_zero, List.set_cons_succ]
                  refine wpAnyH_take (i := 4) (v := ?_) rfl (by kernel_rfl) (by kernel_rfl) (by kernel_rfl) (fun _ _ _ h => h) (Or.inl ⟨by rfl, fun w hSw => ?_⟩) (by assumption) ?_
                  rotate_left
                  · (try dsimp only at hSw); go_simp; (try with_reducible rfl)
                  try simp only [List.getElem_toArray, List.getElem_cons_succ, List.getElem_cons_zero, Act.put, List.setIfInBounds_toArray, List.set_cons_zero, List.set_cons_succ]
                  refine wpAnyH_take (i := 5) (v := ?_) rfl (by kernel_rfl) (by kernel_rfl) (by kernel_rfl) (fun _ _ _ h => h) (Or.inl ⟨by rfl, fun w hSw => ?_⟩) (by assumption) ?_
                  rotate_left
                  · (try dsimp only at hSw); go_simp; (try with_reducible rfl)
                  try simp only [List.getElem_toArray, List.getElem_cons_succ, List.getElem_cons_zero, Act.put, List.setIfInBounds_toArray, List.set_cons_zero, List.set_cons_succ]
                  refine wpAnyH_take (i := 6) (v := ?_) rfl (by kernel_rfl) (by kernel_rfl) (by kernel_rfl) (fun _ _ _ h => h) (Or.inl ⟨by rfl, fun w hSw => ?_⟩) (by assumption) ?_
                  rotate_left
                  · (try dsimp only at hSw); go_simp; (try with_reducible rfl)
                  try simp only [List.getElem_toArray, List.getElem_cons_succ, List.getElem_cons_zero, Act.put, List.setIfInBounds_toArray, List.set_cons_zero, List.set_cons_succ]
                  refine wpAnyH_take (i := 7) (v := ?_) rfl (by kernel_rfl) (by kernel_rfl) (by kernel_rfl) (fun _ _ _ h => h) (Or.inl ⟨by rfl, fun w hSw => ?_⟩) (by assumption) ?_
                  rotate_left
                  · (try dsimp only at hSw); go_simp; (try with_reducible rfl)
                  try simp only [List.getElem_toArray, List.getElem_cons_succ, List.getElem_cons_zero, Act.put, List.setIfInBounds_toArray, List.set_cons_zero, List.set_cons_succ]
                  refine wpAnyH_take (i := 8) (v := ?_) rfl (by kernel_rfl) (by kernel_rfl) (by kernel_rfl) (fun _ _ _ h => h) (Or.inl ⟨by rfl, fun w hSw => ?_⟩) (by assumption) ?_
                  rotate_left
                  · (try dsimp only at hSw); go_simp; (try with_reducible rfl)
                  try simp only [List.getElem_toArray, List.getElem_cons_succ, List.getElem_cons_zero, Act.put, List.setIfInBounds_toArray, List.set_cons_zero, List.set_cons_succ]
                  refine wpAnyH_ready (rs := [0]) (by kernel_rfl) (by simp) ?_
                  refine AllReadyH.cons rfl (fun K hK => ?_) ?_
                  rotate_left
                  · exact AllReadyH.nil
                  go_simp
                  skip
                  refine hK.out _ _ ?_ (fun hHeld => ?_)
                  · exact HS.out _ R0.out
                  clear hK K
                  try simp only [List.getElem_toArray, List.getElem_cons_succ, List.getElem_cons_zero, Act.put, List.setIfInBounds_toArray, List.set_cons_zero, List.set_cons_succ]
                  refine wpAnyH_ready (rs := [9]) (by kernel_rfl) (by simp) ?_
                  refine AllReadyH.cons rfl (fun K hK => ?_) ?_
                  rotate_left
                  · exact AllReadyH.nil
                  go_simp
                  (go_at_call 24; (with_reducible refine (CD.out _).mono ?_); rintro E w1 ⟨f1, z1, f2, z2, rfl, h1, h2, hb⟩; have X1 := Lib.hid h1; have Y1 := Lib.hid (YD.out.on hb); obtain ⟨b0, b1, b2, b3⟩ := Y1.out.b.facts; have Y2 := Lib.hid (Y1.out.put f1 z1); clear hb h1 h2)
                  refine hK.out _ _ ?_ (fun hHeld => ?_)
                  · exact HS.out _ Y1.out.below
                  clear hK K
                  try simp only [List.getElem_toArray, List.getElem_cons_succ, List.getElem_cons_zero, Act.put, List.setIfInBounds_toArray, List.set_cons_zero, List.set_cons_succ]
                  refine wpAnyH_take (i := 10) (v := ?_) rfl (by kernel_rfl) (by kernel_rfl) (by kernel_rfl) (fun _ _ _ h => h) (Or.inl ⟨by rfl, fun w hSw => ?_⟩) (by assumption) ?_
                  rotate_left
                  · (try dsimp only at hSw); go_simp; (try with_reducible rfl)
                  try simp only [List.getElem_toArray, List.getElem_cons_succ, List.getElem_cons_zero, Act.put, List.setIfInBounds_toArray, List.set_cons_zero, List.set_cons_succ]
                  refine wpAnyH_take (i := 11) (v := ?_) rfl (by kernel_rfl) (by kernel_rfl) (by kernel_rfl) (fun _ _ _ h => h) (Or.inl ⟨by rfl, fun w hSw => ?_⟩) (by assumption) ?_
                  rotate_left
                  · (try dsimp only at hSw); go_simp; (try with_reducible rfl)
                  try simp only [List.getElem_toArray, List.getElem_cons_succ, List.getElem_cons_zero, Act.put, List.setIfInBounds_toArray, List.set_cons_zero, List.set_cons_succ]
                  refine wpAnyH_take (i := 12) (v := ?_) rfl (by kernel_rfl) (by kernel_rfl) (by kernel_rfl) (fun _ _ _ h => h) (Or.inl ⟨by rfl, fun w hSw => ?_⟩) (by assumption) ?_
                  rotate_left
                  · (try dsimp only at hSw); go_simp; (try with_reducible rfl)
                  try simp only [List.getElem_toArray, List.getElem_cons_succ, List.getElem_cons_zero, Act.put, List.setIfInBounds_toArray, List.set_cons_zero, List.set_cons_succ]
                  refine wpAnyH_ready (rs := [13]) (by kernel_rfl) (by simp) ?_
                  refine AllReadyH.cons rfl (fun K hK => ?_) ?_
                  rotate_left
                  · exact AllReadyH.nil
                  go_simp
                  skip
                  refine hK.out _ _ ?_ (fun hHeld => ?_)
                  · exact HS.out _ Y2.out.below
                  clear hK K
                  try simp only [List.getElem_toArray, List.getElem_cons_succ, List.getElem_cons_zero, Act.put, List.setIfInBounds_toArray, List.set_cons_zero, List.set_cons_succ]
                  refine wpAnyH_done (by kernel_rfl) ?_ _
                  go_wp2_with fail
                  go_roundw
                  case rel => exact ⟨q + 1, f1, z1, by go_num, by omega, Y2, Lib.hid (HFS.out _ _ X1.out)⟩
                  case measure => simp [intOf]; omega
            · have ke : ¬ (e : Int) < q := by omega
              have HFX : Hid (Fit f z (onlyB s ws (a1, a2) 0 (onlyOf (xs.take i) s ws) (cs.take (k + 1)))) := Lib.hid (by rw [HNX.out]; exact HK.out.fin heq HQ.out)
              have e3 := HP2.out _ HZ.out.below
              clear gd
              go_wp2_with fail
              go_roundw
              case rel => exact ⟨k + 1, f, z, by go_num, by omega, HZ, HFX⟩
              case measure => simp [intOf]; omega
        · obtain rfl : k = m := by omega
          have km : ¬ (k : Int) < k := by omega
          have HQ2 : Hid (Fit f z (onlyOf (xs.take (i + 1)) s ws)) := Lib.hid (by rw [layT.take HIX.out, HX1.out, onlyOf_snoc]; have := HG.out; rw [HM.out, List.take_length] at this; exact this)
          clear hd'
          go_wp2_with fail
          go_roundw
          case rel => exact ⟨i + 1, f, z, by go_num, by omega, HY, HQ2⟩
          case measure => simp [intOf]; omega
    · obtain rfl : i = n := by omega
      have kn : ¬ (i : Int) < i := by omega
      have HF2 : Hid (Fit f z (onlyOf xs s ws)) := Lib.hid (by rw [← HT.out]; exact HF.out)
      obtain ⟨u0, u1, u2, u3⟩ := HX.out.a.facts
      obtain ⟨x0, x1, x2, x3⟩ := HX.out.b.facts
      have P := Lib.hid (boxed_put HX.out.below HX.out.a f z)
      clear hd
      go_wp2_with fail
      exact bodyPost_ret (cell_result rfl _ rfl P.out.2.facts.1 P.out.2.facts.2.1) rfl ⟨f, z, rfl, HF2.out, P.out.1⟩
end Go.Proofs.Ytdnabghhjlhjoaa.Fol
