/- What the document's Check of a record gives (layer 8, record). Conditions: the lists lie in memory as their cells say; numbers' words of 64 bits; texts of a length that Go reads. -/
import Derived.Test.YtimkkelnakamkaaRecB
namespace Go.Proofs.Ytimkkelnakamkaa.Rec
open Go.RowKit Cmd Bat Ids
set_option linter.unusedVariables false

/-- What a round of the document's loop reads. -/
theorem pair_cells {w : World} {B off : Nat} {ds : List Idn} (h : Row2 w B off ds) {g : Nat} {a b q : Int} {v u : Value} {wr : World} (hx : BoxR w g a b q v u wr) {j k : Nat} (hj : j < ds.length) (hk : k < ds.length) {x y x' y' : Int} (e : nth ds j = (x', y')) (e' : nth ds k = (x, y)) {W : World} (hb : Below wr.heap.size wr W) :
    W.cell? ⟨g, 3, none⟩ = some v ∧ W.cell? ⟨B, off + j * 2, none⟩ = some (.int .i64 x') ∧ W.cell? ⟨B, off + j * 2 + 1, none⟩ = some (.int .i64 y') ∧ W.cell? ⟨B, off + k * 2, none⟩ = some (.int .i64 x) ∧ W.cell? ⟨B, off + k * 2 + 1, none⟩ = some (.int .i64 y) := by
  obtain ⟨a0, a1, a2, a3⟩ := h.pair (hx.on hb).below hj hk e e'
  exact ⟨(hx.on hb).c3, a0, a1, a2, a3⟩
theorem below_via {B : Nat} {a w2 W w3 : World} (h : Below B a w2) (hW : Below W.heap.size W w3) (e1 : W.os = w2.os) (e2 : W.tape = w2.tape) (e3 : W.output = w2.output) (e4 : W.heap = w2.heap) (hB : B ≤ w2.heap.size) : Below B a w3 :=
  ⟨(hW.os.trans e1).trans h.os, (hW.tape.trans e2).trans h.tape, (hW.output.trans e3).trans h.output, Nat.le_trans h.size (by rw [← e4]; exact hW.size), fun k hk => (hW.block k (by rw [e4]; omega)).trans (by rw [e4]; exact h.block k hk)⟩

set_option maxHeartbeats 8000000 in
theorem refcheck_r (a b q : Int) (v u : Value) (ds : List Idn) (cs : List Cmdn) (w : World) (h : RowAt w v ds) (g : layC.Row w u cs) (hw : ∀ x ∈ cs, wfC x) :
    Calls Try.prog 23 #[.agg #[.int .i64 a, .int .i64 b, .int .i64 q, v, u]] w (RetBelow (.int .i64 (rErr a b q ds cs)) w) := by
  have HC : Hid (∀ W, Below w.heap.size w W → Calls Try.prog 37 #[u] W (RetBelow (.int .i64 (bErr cs)) W)) := Lib.hid fun W hb => Bat.refcheck_any u cs W (g.on hb) hw
  have hu : ∃ p n cap, u = .slice p n cap := by obtain ⟨p, cap, e, _⟩ := g; exact ⟨p, _, cap, e⟩
  obtain ⟨p', m, cap', rfl⟩ := hu
  obtain ⟨p, cap, rfl, h1, h2, -, h3⟩ := h
  have hd : ds.length = 0 ∨ ∃ B off, p = some ⟨B, off, none⟩ ∧ Hid (Row2 w B off ds) := by
    by_cases hz : ds = []
    · left; rw [hz]; rfl
    · right
      obtain ⟨B, off, rfl, hlt, hc⟩ := h3 hz
      exact ⟨B, off, rfl, Lib.hid ⟨hlt, fun j hj => (hc j hj).1, fun j hj => (hc j hj).2⟩⟩
  have hlen : ds.length ≤ 9223372036854775807 := by omega
  have HB := Lib.hid (BoxR.start 35 w a b q (.slice p ds.length cap) (.slice p' m cap'))
  unfold cellsR at HB
  have C0 := Lib.hid (fun W => refid_any a b W)
  have HE : Hid (rErr a b q ds cs = if idErr (a, b) ≠ 0 then idErr (a, b) else if seqErr q ≠ 0 then seqErr q else if cntErr ds.length ≠ 0 then cntErr ds.length else if depsErr (a, b) ds ≠ 0 then depsErr (a, b) ds else bErr cs) := Lib.hid rfl
  have HF : Hid (∀ k, k < ds.length → depErr (a, b) ds k ≠ 0 → (∀ j, j < k → depErr (a, b) ds j = 0) → depsErr (a, b) ds = depErr (a, b) ds k) := Lib.hid fun k hk h hn => deps_first hk h hn
  have HN : Hid ((∀ j, j < ds.length → depErr (a, b) ds j = 0) → depsErr (a, b) ds = 0) := Lib.hid deps_none
  generalize bErr cs = x4 at HC HE
  generalize idErr (a, b) = x0 at C0 HE
  generalize depsErr (a, b) ds = x3 at HE HF HN
  generalize rErr a b q ds cs = r at HE
  clear h3 g hw h2
  obtain ⟨n, hn⟩ : ∃ n, n = ds.length := ⟨_, rfl⟩
  rw [← hn] at h1 hd hlen HB HE HF HN ⊢
  have HL := Lib.hid hn
  clear hn
  by_cases hz0 : x0 = 0
  · subst hz0
    rw [if_neg (fun h => h rfl)] at HE
    by_cases hq1 : q < 1
    · have HE2 : Hid (r = 9) := Lib.hid (by rw [HE.out]; unfold seqErr; rw [if_neg (by omega : ¬ (1 ≤ q ∧ q ≤ 1073741824))]; rfl)
      clear HE HF HN hd HC HL
      go_enter Try.func23, Try.ntmps23
      go_wp2_with (first
        | (go_at_call 35; (with_reducible refine (C0.out _).mono ?_); rintro e w1 ⟨rfl, hb⟩; have HB1 := Lib.hid (HB.out.on hb); clear hb; have c2 := HB1.out.c2; have c3 := HB1.out.c3))
      go_ret
      exact ⟨ret_int HE2.out.symm, HB1.out.below⟩
    · by_cases hq2 : 1073741824 < q
      · have HE2 : Hid (r = 9) := Lib.hid (by rw [HE.out]; unfold seqErr; rw [if_neg (by omega : ¬ (1 ≤ q ∧ q ≤ 1073741824))]; rfl)
        clear HE HF HN hd HC HL
        go_enter Try.func23, Try.ntmps23
        go_wp2_with (first
          | (go_at_call 35; (with_reducible refine (C0.out _).mono ?_); rintro e w1 ⟨rfl, hb⟩; have HB1 := Lib.hid (HB.out.on hb); clear hb; have c2 := HB1.out.c2; have c3 := HB1.out.c3))
        go_ret
        exact ⟨ret_int HE2.out.symm, HB1.out.below⟩
      · have hse : seqErr q = 0 := by unfold seqErr; rw [if_pos ⟨by omega, by omega⟩]
        rw [hse, if_neg (fun h => h rfl)] at HE
        clear hse
        by_cases h16 : 16 < n
        · have h17 : 16 < (n : Int) := by omega
          have HE2 : Hid (r = 10) := Lib.hid (by rw [HE.out]; unfold cntErr; rw [if_pos h16]; rfl)
          clear HE HF HN hd HC HL h16
          go_enter Try.func23, Try.ntmps23
          go_wp2_with (first
            | (go_at_call 35; (with_reducible refine (C0.out _).mono ?_); rintro e w1 ⟨rfl, hb⟩; have HB1 := Lib.hid (HB.out.on hb); clear hb; have c2 := HB1.out.c2; have c3 := HB1.out.c3))
          go_ret
          exact ⟨ret_int HE2.out.symm, HB1.out.below⟩
        · have h17 : ¬ 16 < (n : Int) := by omega
          have hce : cntErr n = 0 := by unfold cntErr; rw [if_neg h16]
          rw [hce, if_neg (fun h => h rfl)] at HE
          clear hce h16
          go_enter Try.func23, Try.ntmps23
          go_wp2_with (first
            | (go_at_call 35; (with_reducible refine (C0.out _).mono ?_); rintro e w1 ⟨rfl, hb⟩; have HB1 := Lib.hid (HB.out.on hb); clear hb; have c2 := HB1.out.c2; have c3 := HB1.out.c3))
          go_loopw [3] (fun i wr => ∃ k : Nat, k ≤ n ∧ i = .int .i64 k ∧ Hid (BoxR w w.heap.size a b q (.slice p n cap) (.slice p' m cap') wr) ∧ Hid (∀ j, j < k → depErr (a, b) ds j = 0)) (fun i _ => n - (intOf i).toNat)
          case atStart => exact ⟨0, Nat.zero_le _, rfl, HB1, Lib.hid fun j hj => absurd hj (Nat.not_lt_zero _)⟩
          case round =>
            clear c2 c3
            obtain ⟨k, hk, rfl, hbx, hno⟩ := hrel
            have c0 := hbx.out.c0
            have c1 := hbx.out.c1
            have c3 := hbx.out.c3
            have c4 := hbx.out.c4
            by_cases hkn : k < n
            · have HE2 := Lib.hid (fun h => HF.out k hkn h hno.out)
              obtain ⟨B, off, rfl, HR⟩ := hd.resolve_left (by omega)
              have hkl : k < ds.length := by rw [← HL.out]; exact hkn
              obtain ⟨x, y, hxy⟩ : ∃ x y, nth ds k = (x, y) := ⟨_, _, rfl⟩
              have r0 := (HR.out.on hbx.out.below).fst k hkl
              have r1 := (HR.out.on hbx.out.below).snd k hkl
              rw [hxy] at r0 r1
              have HG := Lib.hid (fun W (hb : Below wr.heap.size wr W) => HR.out.pair (hbx.out.on hb).below hkl hkl hxy hxy)
              have CI := Lib.hid (fun W => refid_any x y W)
              have HD : Hid (depErr (a, b) ds k = if idErr (x, y) ≠ 0 then idErr (x, y) else if (x, y) = (a, b) then 6 else if 0 < k ∧ idLt (nth ds (k - 1)) (x, y) = false then 11 else 0) := Lib.hid (by unfold depErr; rw [hxy])
              have HX := Lib.hid hxy
              have HKL := Lib.hid hkl
              have k0 : (0 : Int) ≤ k := by omega
              have kn : (k : Int) < n := by omega
              clear hd hkl hxy
              by_cases hi : idErr (x, y) = 0
              · rw [if_neg (fun h => h hi)] at HD
                rw [hi] at CI
                clear hi
                by_cases hs : (x, y) = (a, b)
                · have hx : x = a := congrArg Prod.fst hs
                  have hy : y = b := congrArg Prod.snd hs
                  subst hx; subst hy
                  rw [if_pos rfl] at HD
                  have HZ : Hid (r = 6) := Lib.hid (by
                    have h1 : depErr (x, y) ds k ≠ 0 := by rw [HD.out]; decide
                    have h2 := HE2.out h1
                    rw [HE.out, if_pos (by rw [h2]; exact h1), h2, HD.out])
                  clear hs
                  go_wp2_with (first
                    | (go_at_call 35; (with_reducible refine (CI.out _).mono ?_); rintro e w2 ⟨rfl, hb⟩; have HB2 := Lib.hid (hbx.out.on hb); obtain ⟨s0, s1, -, -⟩ := HG.out _ hb; have HY := Lib.hid hb; clear hb; have d0 := HB2.out.c0; have d1 := HB2.out.c1; have d3 := HB2.out.c3))
                  go_quiet (fail)
                  go_wp2
                  go_ret
                  exact ⟨ret_int HZ.out.symm, Bat.below_drN HB2.out.below _⟩
                · rw [if_neg hs] at HD
                  have hq : ∀ w, (binOp .eql 24 (.agg #[.int .i64 x, .int .i64 y]) (.agg #[.int .i64 a, .int .i64 b])).run Try.prog w = .ok (.bool false) w := fun w => by
                    rw [eql_id]
                    have : (x == a && y == b) = false := by
                      rw [Bool.eq_false_iff]; intro h; rw [Bool.and_eq_true, beq_iff_eq, beq_iff_eq] at h; exact hs (by rw [h.1, h.2])
                    rw [this]
                  clear hs
                  by_cases hk0 : k = 0
                  · subst hk0
                    have HZ : Hid (depErr (a, b) ds 0 = 0) := Lib.hid (by rw [HD.out, if_neg (by omega)])
                    rw [Nat.zero_mul, Nat.add_zero] at r0 r1 HG
                    clear HD HE2
                    go_wp2_with (first
                      | (go_at_call 35; (with_reducible refine (CI.out _).mono ?_); rintro e w2 ⟨rfl, hb⟩; have HB2 := Lib.hid (hbx.out.on hb); obtain ⟨s0, s1, -, -⟩ := HG.out _ hb; have HY := Lib.hid hb; clear hb; have d0 := HB2.out.c0; have d1 := HB2.out.c1; have d3 := HB2.out.c3))
                    go_quiet (fail)
                    go_wp2
                    go_quiet (fail)
                    go_wp2
                    go_roundw
                    case rel => exact ⟨1, by omega, rfl, Lib.hid (HB2.out.on (Bat.below_draws _ _)), Lib.hid fun j hj => by
                      by_cases e : j = 0
                      · rw [e]; exact HZ.out
                      · exact hno.out j (by omega)⟩
                    case measure => simp [intOf]; omega
                  · obtain ⟨l, hl⟩ : ∃ l, k = l + 1 := ⟨k - 1, by omega⟩
                    obtain ⟨x', y', hxy'⟩ : ∃ x y, nth ds l = (x, y) := ⟨_, _, rfl⟩
                    have hll : l < ds.length := by have := HKL.out; omega
                    have HC2 : Hid (∀ W, Calls Try.prog 36 #[.agg #[.int .i64 x', .int .i64 y'], .agg #[.int .i64 x, .int .i64 y]] W (RetBelow (.bool (idLt (x', y') (x, y))) W)) := Lib.hid fun W => (Ids.less_any x' y' x y W).mono fun e w' ⟨h1, h2⟩ => ⟨h1, by rw [h2]; exact below_two _ _ _ _ _⟩
                    have HS := Lib.hid (fun W (hb : Below wr.heap.size wr W) => pair_cells HR.out hbx.out hll HKL.out hxy' HX.out hb)
                    have HE3 : Hid (depErr (a, b) ds k = if idLt (x', y') (x, y) = false then 11 else 0) := Lib.hid (by
                      rw [HD.out, show k - 1 = l by omega, hxy']
                      by_cases e : idLt (x', y') (x, y) = false
                      · rw [if_pos ⟨by omega, e⟩, if_pos e]
                      · rw [if_neg (fun h => e h.2), if_neg e])
                    have k1 : (0 : Int) < k := by omega
                    have kd : decide (0 < k) = true := decide_eq_true (by omega)
                    have l0 : (0 : Int) ≤ l := by omega
                    have ln : (l : Int) < n := by omega
                    have lw : IntKind.i64.wrap ((k : Int) - 1) = l := by rw [show (k : Int) - 1 = l by omega]; exact IntWalk.i64_in _ (by omega)
                    generalize idLt (x', y') (x, y) = z at HC2 HE3
                    clear HD hxy' hll hk0 hl
                    cases z
                    · have HZ : Hid (r = 11) := Lib.hid (by
                        have h1 : depErr (a, b) ds k ≠ 0 := by rw [HE3.out]; decide
                        have h2 := HE2.out h1
                        rw [HE.out, if_pos (by rw [h2]; exact h1), h2, HE3.out]; rfl)
                      go_wp2_with (first
                        | (go_at_call 35; (with_reducible refine (CI.out _).mono ?_); rintro e w2 ⟨rfl, hb⟩; have HB2 := Lib.hid (hbx.out.on hb); obtain ⟨s0, s1, -, -⟩ := HG.out _ hb; have HY := Lib.hid hb; clear hb; have d0 := HB2.out.c0; have d1 := HB2.out.c1; have d3 := HB2.out.c3))
                      go_quiet (fail)
                      go_wp2
                      go_region_held3 (fun w' => w'.cell? ⟨w.heap.size, 3, none⟩ = some (.slice (some ⟨B, off, none⟩) n cap) ∧ w'.cell? ⟨B, off + l * 2, none⟩ = some (.int .i64 x') ∧ w'.cell? ⟨B, off + l * 2 + 1, none⟩ = some (.int .i64 y') ∧ w'.cell? ⟨B, off + k * 2, none⟩ = some (.int .i64 x) ∧ w'.cell? ⟨B, off + k * 2 + 1, none⟩ = some (.int .i64 y))
                        (first
                          | exact HS.out _ HD3.out
                          | exact HS.out _ (Bat.below_drN HY.out _)
                          | exact HS.out _ (Bat.below_drN HY.out _).drew
                          | go_keep)
                        (first
                          | (go_at_call 36; (with_reducible refine (HC2.out _).mono ?_); rintro e w3 ⟨rfl, hb⟩; have HD3 := Lib.hid (below_via HY.out hb rfl rfl rfl rfl HY.out.size); clear hb))
                      go_wp2
                      go_ret
                      exact ⟨ret_int HZ.out.symm, hbx.out.below.trans (HD3.out.mono hbx.out.below.size)⟩
                    · have HZ : Hid (depErr (a, b) ds k = 0) := Lib.hid (by rw [HE3.out]; rfl)
                      go_wp2_with (first
                        | (go_at_call 35; (with_reducible refine (CI.out _).mono ?_); rintro e w2 ⟨rfl, hb⟩; have HB2 := Lib.hid (hbx.out.on hb); obtain ⟨s0, s1, -, -⟩ := HG.out _ hb; have HY := Lib.hid hb; clear hb; have d0 := HB2.out.c0; have d1 := HB2.out.c1; have d3 := HB2.out.c3))
                      go_quiet (fail)
                      go_wp2
                      go_region_held3 (fun w' => w'.cell? ⟨w.heap.size, 3, none⟩ = some (.slice (some ⟨B, off, none⟩) n cap) ∧ w'.cell? ⟨B, off + l * 2, none⟩ = some (.int .i64 x') ∧ w'.cell? ⟨B, off + l * 2 + 1, none⟩ = some (.int .i64 y') ∧ w'.cell? ⟨B, off + k * 2, none⟩ = some (.int .i64 x) ∧ w'.cell? ⟨B, off + k * 2 + 1, none⟩ = some (.int .i64 y))
                        (first
                          | exact HS.out _ HD3.out
                          | exact HS.out _ (Bat.below_drN HY.out _)
                          | exact HS.out _ (Bat.below_drN HY.out _).drew
                          | go_keep)
                        (first
                          | (go_at_call 36; (with_reducible refine (HC2.out _).mono ?_); rintro e w3 ⟨rfl, hb⟩; have HD3 := Lib.hid (below_via HY.out hb rfl rfl rfl rfl HY.out.size); clear hb))
                      go_wp2
                      go_roundw
                      case rel => exact ⟨k + 1, by omega, by go_num, Lib.hid (hbx.out.on HD3.out), Lib.hid fun j hj => by
                        by_cases e : j = k
                        · rw [e]; exact HZ.out
                        · exact hno.out j (by omega)⟩
                      case measure => simp [intOf]; omega
              · rw [if_pos hi] at HD
                have HZ : Hid (r = idErr (x, y)) := Lib.hid (by
                  have h1 : depErr (a, b) ds k ≠ 0 := by rw [HD.out]; exact hi
                  have h2 := HE2.out h1
                  rw [HE.out, if_pos (by rw [h2]; exact h1), h2, HD.out])
                go_wp2_with (first
                  | (go_at_call 35; (with_reducible refine (CI.out _).mono ?_); rintro e w2 ⟨rfl, hb⟩; have HB2 := Lib.hid (hbx.out.on hb); obtain ⟨s0, s1, -, -⟩ := HG.out _ hb; clear hb; have d3 := HB2.out.c3)
                  | (go_at_call 35; (with_reducible refine (CI.out _).mono ?_); rintro e w3 ⟨rfl, hb⟩; have HB3 := Lib.hid (HB2.out.on hb); clear hb))
                go_ret
                exact ⟨ret_int HZ.out.symm, HB3.out.below⟩
            · have kn : ¬ (k : Int) < n := by omega
              obtain rfl : k = n := by omega
              have HZ : Hid (r = x4) := Lib.hid (by rw [HE.out, HN.out hno.out]; rfl)
              have HQ := Lib.hid (HC.out wr hbx.out.below)
              go_wp2_with (first
                | (go_at_call 37; (with_reducible refine HQ.out.mono ?_); rintro e w2 ⟨rfl, hb⟩; have HB2 := Lib.hid (hbx.out.on hb); clear hb))
              go_ret
              exact ⟨ret_int HZ.out.symm, HB2.out.below⟩
  · rw [if_pos hz0] at HE
    clear HF HN hd HC HL
    go_enter Try.func23, Try.ntmps23
    go_wp2_with (first
      | (go_at_call 35; (with_reducible refine (C0.out _).mono ?_); rintro e w1 ⟨rfl, hb⟩; have HB1 := Lib.hid (HB.out.on hb); clear hb; have c0 := HB1.out.c0; have c1 := HB1.out.c1)
      | (go_at_call 35; (with_reducible refine (C0.out _).mono ?_); rintro e w2 ⟨rfl, hb⟩; have HB2 := Lib.hid (HB1.out.on hb); clear hb))
    go_ret
    exact ⟨ret_int HE.out.symm, HB2.out.below⟩
end Go.Proofs.Ytimkkelnakamkaa.Rec
