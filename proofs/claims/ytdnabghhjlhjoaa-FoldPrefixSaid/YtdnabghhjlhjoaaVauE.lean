/- Structs that are held against each other (layer 13, vault): ids, writers, results, and lists of them; the statements' some. Conditions: the lists lie in memory as their cells say; words of 64 bits. (From neq_wr on written by tools/gen_vaud.py.) -/
import Derived.Test.YtdnabghhjlhjoaaVauC
import Derived.Laws.StructEq
import Derived.Deep.DeepCutAuto
namespace Go.Proofs.Ytdnabghhjlhjoaa.Vau
open Go.RowKit F64 Cmd Bat Cel Wid
set_option linter.unusedVariables false
set_option linter.unusedSimpArgs false

theorem und_id : Try.prog.underlying 46 = some (.struct (Try.prog.fieldsOf 46)) := by kernel_rfl
theorem und_wr : Try.prog.underlying 63 = some (.struct (Try.prog.fieldsOf 63)) := by kernel_rfl
theorem equal_idn (n : Nat) (w : World) (a b c d : Int) : (Op.equalIn (n + 2) 46 (.agg #[.int .i64 a, .int .i64 b]) (.agg #[.int .i64 c, .int .i64 d])).run Try.prog w = .ok (a == c && b == d) w := by
  have u3 := Try.underlying3
  have a3 := Try.isAgg3
  have z3 := Try.sizeOf3
  have hS := und_id
  have hp : Try.prog.stoodInHeld 46 = false := by kernel_rfl
  rw [run_equalIn_agg w (n + 1) 46 _ _ hS hp]
  simp only [Program.fieldsOf, Try.underlying46]
  go_simp
  by_cases h1 : a = c <;> by_cases h2 : b = d <;> simp [h1, h2]
theorem equal_wr (w : World) (a b k c d l : Int) : (Op.equalIn 10000 63 (.agg #[.int .i64 a, .int .i64 b, .int .i64 k]) (.agg #[.int .i64 c, .int .i64 d, .int .i64 l])).run Try.prog w = .ok ((a == c && b == d) && k == l) w := by
  have u3 := Try.underlying3
  have a3 := Try.isAgg3
  have z3 := Try.sizeOf3
  have a4 := Try.isAgg46
  have z4 := Try.sizeOf46
  have hS := und_wr
  have hI := fun w a b c d => equal_idn 9997 w a b c d
  have hp : Try.prog.stoodInHeld 63 = false := by kernel_rfl
  rw [show (10000 : Nat) = 9999 + 1 from rfl, run_equalIn_agg w 9999 63 _ _ hS hp]
  simp only [Program.fieldsOf, Try.underlying63]
  go_simp
  by_cases h1 : a = c <;> by_cases h2 : b = d <;> by_cases h3 : k = l <;> simp [h1, h2, h3]
@[go_sem] theorem neq_wr (w : World) (a b k c d l : Int) : (binOp .neq 63 (.agg #[.int .i64 a, .int .i64 b, .int .i64 k]) (.agg #[.int .i64 c, .int .i64 d, .int .i64 l])).run Try.prog w = .ok (.bool !((a == c && b == d) && k == l)) w := by
  rw [run_neq_struct, equal_wr]; rfl
@[go_sem] theorem neq_idv (w : World) (a b c d : Int) : (binOp .neq 46 (.agg #[.int .i64 a, .int .i64 b]) (.agg #[.int .i64 c, .int .i64 d])).run Try.prog w = .ok (.bool !(a == c && b == d)) w := by
  rw [run_neq_struct, show (10000 : Nat) = 9998 + 2 from rfl, equal_idn]; rfl
theorem cellW {w : World} {B off : Nat} {zs : List Wr} (h : layW.In w B off zs) {k : Nat} (hk : k < zs.length) {a b c : Int} (hx : layW.at zs k = ((a, b), c)) :
    w.cell? ⟨B, off + k * 3, none⟩ = some (.int .i64 a) ∧ w.cell? ⟨B, off + k * 3 + 1, none⟩ = some (.int .i64 b) ∧ w.cell? ⟨B, off + k * 3 + 2, none⟩ = some (.int .i64 c) := by
  have := h.cell k hk
  rw [hx] at this; exact this

/-! ### SameLog -/
set_option maxHeartbeats 16000000 in
set_option maxRecDepth 100000 in
theorem slog_any (v u : Value) (xs ys : List Wr) (w : World) (h : layW.Row w v xs) (g : layW.Row w u ys) : Calls Try.prog 11 #[v, u] w (RetBelow (.bool (decide (xs = ys))) w) := by
  obtain ⟨p, cap, rfl, h1, hd⟩ := h.parts
  obtain ⟨q, caq, rfl, g1, gd⟩ := g.parts
  by_cases hl : xs.length = ys.length
  · have HLX := Lib.hid hl
    obtain ⟨n, hn⟩ : ∃ n, n = xs.length := ⟨_, rfl⟩
    have hm : n = ys.length := by omega
    rw [← hn] at h1 hd ⊢
    rw [← hm] at g1 gd ⊢
    have HN := Lib.hid hn
    have HM := Lib.hid hm
    have HXX := Lib.hid (fun (h : ∀ j, j < xs.length → layW.at xs j = layW.at ys j) => layW.ext hl h)
    generalize hr : decide (xs = ys) = r
    have HR := Lib.hid hr
    clear h g hn hm hr hl
    go_enter Try.func11, Try.ntmps11
    go_wp2_with fail
    go_loopw [5] (fun j wr => ∃ k : Nat, j = .int .i64 k ∧ k ≤ n ∧ Hid (Below w.heap.size w wr) ∧ Hid (∀ j, j < k → layW.at xs j = layW.at ys j)) (fun j _ => n - (intOf j).toNat)
    case atStart => exact ⟨0, rfl, Nat.zero_le _, Lib.hid (Below.refl _ _), Lib.hid fun j hj => absurd hj (Nat.not_lt_zero _)⟩
    case round =>
      obtain ⟨k, rfl, hk, HB, HNo⟩ := hrel
      have k0 : (0 : Int) ≤ k := by omega
      by_cases hkn : k < n
      · have kn : (k : Int) < n := by omega
        obtain ⟨B, off, rfl, HC⟩ := hd.resolve_left (by omega)
        obtain ⟨B', off', rfl, HD⟩ := gd.resolve_left (by omega)
        obtain ⟨a, b, c, hx⟩ : ∃ a b c, layW.at xs k = ((a, b), c) := ⟨_, _, _, rfl⟩
        obtain ⟨a', b', c', hy⟩ : ∃ a b c, layW.at ys k = ((a, b), c) := ⟨_, _, _, rfl⟩
        obtain ⟨c0, c1, c2⟩ := cellW (HC.out.on HB.out) (by rw [← HN.out]; exact hkn) hx
        obtain ⟨d0, d1, d2⟩ := cellW (HD.out.on HB.out) (by rw [← HM.out]; exact hkn) hy
        by_cases he : ((a, b), c) = ((a', b'), c')
        · have h3 : ((a == a' && b == b') && c == c') = true := by
            rw [Prod.mk.injEq, Prod.mk.injEq] at he; rw [he.1.1, he.1.2, he.2]; simp
          have HX : Hid (layW.at xs k = layW.at ys k) := Lib.hid (by rw [hx, hy]; exact he)
          have hq : ∀ w, (binOp .neq 63 (.agg #[.int .i64 a, .int .i64 b, .int .i64 c]) (.agg #[.int .i64 a', .int .i64 b', .int .i64 c'])).run Try.prog w = .ok (.bool false) w := fun w => by rw [neq_wr, h3]; rfl
          clear he hx hy h3 hd gd
          go_wp2_with fail
          go_quiet (fail)
          go_wp2_with fail
          go_roundw
          case rel => exact ⟨k + 1, by go_num, by omega, Lib.hid (HB.out.trans ((below_draws _ _).mono HB.out.size)), Lib.hid fun j hj => by
            by_cases e : j = k
            · rw [e]; exact HX.out
            · exact HNo.out j (by omega)⟩
          case measure => simp [intOf]; omega
        · have h3 : ((a == a' && b == b') && c == c') = false := by
            rw [Bool.eq_false_iff]; intro h; rw [Bool.and_eq_true, Bool.and_eq_true, beq_iff_eq, beq_iff_eq, beq_iff_eq] at h; exact he (by rw [h.1.1, h.1.2, h.2])
          have HX : Hid (layW.at xs k ≠ layW.at ys k) := Lib.hid (by rw [hx, hy]; exact he)
          have hq : ∀ w, (binOp .neq 63 (.agg #[.int .i64 a, .int .i64 b, .int .i64 c]) (.agg #[.int .i64 a', .int .i64 b', .int .i64 c'])).run Try.prog w = .ok (.bool true) w := fun w => by rw [neq_wr, h3]; rfl
          clear he hx hy h3 hd gd
          go_wp2_with fail
          go_quiet (fail)
          go_wp2_with fail
          go_ret
          refine ⟨ret_bool ?_, HB.out.trans ((below_draws _ _).mono HB.out.size)⟩
          rw [← HR.out]
          exact (decide_eq_false fun h => HX.out (by rw [h])).symm
      · obtain rfl : k = n := by omega
        have kn : ¬ (k : Int) < k := by omega
        clear hd gd
        go_wp2_with fail
        go_ret
        refine ⟨ret_bool ?_, HB.out⟩
        rw [← HR.out]
        exact (decide_eq_true (HXX.out fun j hj => HNo.out j (by rw [HN.out]; exact hj))).symm
  · have hr : decide (xs = ys) = false := decide_eq_false fun e => hl (by rw [e])
    have hq : ((xs.length : Int) == (ys.length : Int)) = false := beq_eq_false_iff_ne.2 (by omega)
    rw [hr]
    clear hd gd h g hl hr
    generalize xs.length = n at hq h1
    generalize ys.length = m at hq g1
    go_enter Try.func11, Try.ntmps11
    go_wp2_with fail
    go_ret
    exact ⟨rfl, Below.refl _ _⟩

/-! ### SameResults -/
def layR : Lay Rs := ⟨((0, 0), 0, (false, 0)), fun o j => o + j * 5, fun w b o x => w.cell? ⟨b, o, none⟩ = some (.int .i64 x.1.1) ∧ w.cell? ⟨b, o + 1, none⟩ = some (.int .i64 x.1.2) ∧ w.cell? ⟨b, o + 2, none⟩ = some (.int .i64 x.2.1) ∧ w.cell? ⟨b, o + 3, none⟩ = some (.bool x.2.2.1) ∧ w.cell? ⟨b, o + 4, none⟩ = some (.float .f64 x.2.2.2),
  fun {w w' b o x} hb h ⟨h0, h1, h2, h3, h4⟩ => ⟨(h.cell (p := ⟨b, o, none⟩) hb).trans h0, (h.cell (p := ⟨b, o + 1, none⟩) hb).trans h1, (h.cell (p := ⟨b, o + 2, none⟩) hb).trans h2, (h.cell (p := ⟨b, o + 3, none⟩) hb).trans h3, (h.cell (p := ⟨b, o + 4, none⟩) hb).trans h4⟩⟩
def wdR : Wd Rs where
  L := layR
  enc x := [.int .i64 x.1.1, .int .i64 x.1.2, .int .i64 x.2.1, .bool x.2.2.1, .float .f64 x.2.2.2]
  c := 5
  cpos := by decide
  pos _ _ := rfl
  len _ := rfl
  one _ u hu := by
    simp only [List.mem_cons, List.not_mem_nil, or_false] at hu
    rcases hu with rfl | rfl | rfl | rfl | rfl <;> rfl
  lies h := ⟨h 0 _ rfl, h 1 _ rfl, h 2 _ rfl, h 3 _ rfl, h 4 _ rfl⟩
  cells h i u hu := by
    match i, hu with
    | 0, hu => injection hu with hu; subst hu; exact h.1
    | 1, hu => injection hu with hu; subst hu; exact h.2.1
    | 2, hu => injection hu with hu; subst hu; exact h.2.2.1
    | 3, hu => injection hu with hu; subst hu; exact h.2.2.2.1
    | 4, hu => injection hu with hu; subst hu; exact h.2.2.2.2
    | i + 5, hu => simp at hu
theorem wtR : Wt wdR 38 67 (.agg #[.int .i64 0, .int .i64 0, .int .i64 0, .bool false, .float .f64 0]) 40 := ⟨Try.underlying38, by kernel_rfl, by kernel_rfl, by kernel_rfl, by decide⟩
theorem cellR {w : World} {B off : Nat} {zs : List Rs} (h : layR.In w B off zs) {k : Nat} (hk : k < zs.length) {a b c : Int} {f : Bool} {z : Nat} (hx : layR.at zs k = ((a, b), c, (f, z))) :
    w.cell? ⟨B, off + k * 5, none⟩ = some (.int .i64 a) ∧ w.cell? ⟨B, off + k * 5 + 1, none⟩ = some (.int .i64 b) ∧ w.cell? ⟨B, off + k * 5 + 2, none⟩ = some (.int .i64 c) ∧ w.cell? ⟨B, off + k * 5 + 3, none⟩ = some (.bool f) ∧ w.cell? ⟨B, off + k * 5 + 4, none⟩ = some (.float .f64 z) := by
  have := h.cell k hk
  rw [hx] at this; exact this
def same1 (x y : Rs) : Bool := decide (x.1 = y.1) && (decide (x.2.1 = y.2.1) && sameC x.2.2 y.2.2)
def sameR (xs ys : List Rs) : Bool := decide (xs.length = ys.length) && (List.range xs.length).all fun j => same1 (layR.at xs j) (layR.at ys j)
def wfR (x : Rs) : Prop := x.2.2.2 < 18446744073709551616
theorem sameR_no {xs ys : List Rs} {k : Nat} (hk : k < xs.length) (h : same1 (layR.at xs k) (layR.at ys k) = false) : sameR xs ys = false := by
  unfold sameR
  rw [Bool.and_eq_false_iff]; right
  rw [List.all_eq_false]
  exact ⟨k, List.mem_range.2 hk, by rw [h]; decide⟩
theorem sameR_yes {xs ys : List Rs} (hl : xs.length = ys.length) (h : ∀ j, j < xs.length → same1 (layR.at xs j) (layR.at ys j) = true) : sameR xs ys = true := by
  unfold sameR
  rw [decide_eq_true hl, Bool.true_and, List.all_eq_true]
  exact fun j hj => h j (List.mem_range.1 hj)
set_option maxHeartbeats 16000000 in
set_option maxRecDepth 100000 in
theorem sres_any (v u : Value) (xs ys : List Rs) (w : World) (h : layR.Row w v xs) (g : layR.Row w u ys) (hwx : ∀ x ∈ xs, wfR x) (hwy : ∀ y ∈ ys, wfR y) : Calls Try.prog 14 #[v, u] w (RetBelow (.bool (sameR xs ys)) w) := by
  obtain ⟨p, cap, rfl, h1, hd⟩ := h.parts
  obtain ⟨q, caq, rfl, g1, gd⟩ := g.parts
  by_cases hl : xs.length = ys.length
  · obtain ⟨n, hn⟩ : ∃ n, n = xs.length := ⟨_, rfl⟩
    have hm : n = ys.length := by omega
    rw [← hn] at h1 hd ⊢
    rw [← hm] at g1 gd ⊢
    have HN := Lib.hid hn
    have HM := Lib.hid hm
    have HXX := Lib.hid (fun (h : ∀ j, j < xs.length → same1 (layR.at xs j) (layR.at ys j) = true) => sameR_yes hl h)
    have HNN := Lib.hid (fun k (hk : k < xs.length) (h : same1 (layR.at xs k) (layR.at ys k) = false) => sameR_no hk h)
    have HWX := Lib.hid hwx
    have HWY := Lib.hid hwy
    generalize sameR xs ys = r at HXX HNN ⊢
    clear h g hn hm hl hwx hwy
    go_enter Try.func14, Try.ntmps14
    go_wp2_with fail
    go_loopw [5] (fun j wr => ∃ k : Nat, j = .int .i64 k ∧ k ≤ n ∧ Hid (Below w.heap.size w wr) ∧ Hid (∀ j, j < k → same1 (layR.at xs j) (layR.at ys j) = true)) (fun j _ => n - (intOf j).toNat)
    case atStart => exact ⟨0, rfl, Nat.zero_le _, Lib.hid (Below.refl _ _), Lib.hid fun j hj => absurd hj (Nat.not_lt_zero _)⟩
    case round =>
      obtain ⟨k, rfl, hk, HB, HNo⟩ := hrel
      have k0 : (0 : Int) ≤ k := by omega
      by_cases hkn : k < n
      · have kn : (k : Int) < n := by omega
        obtain ⟨B, off, rfl, HC⟩ := hd.resolve_left (by omega)
        obtain ⟨B', off', rfl, HD⟩ := gd.resolve_left (by omega)
        obtain ⟨a, b, c, f, z, hx⟩ : ∃ a b c f z, layR.at xs k = ((a, b), c, (f, z)) := ⟨_, _, _, _, _, rfl⟩
        obtain ⟨a', b', c', f', z', hy⟩ : ∃ a b c f z, layR.at ys k = ((a, b), c, (f, z)) := ⟨_, _, _, _, _, rfl⟩
        have hkx : k < xs.length := by rw [← HN.out]; exact hkn
        have hky : k < ys.length := by rw [← HM.out]; exact hkn
        obtain ⟨c0, c1, c2, c3, c4⟩ := cellR (HC.out.on HB.out) hkx hx
        obtain ⟨d0, d1, d2, d3, d4⟩ := cellR (HD.out.on HB.out) hky hy
        have hz : z < 18446744073709551616 := by have := HWX.out _ (layR.at_mem hkx); rw [hx] at this; exact this
        have hz' : z' < 18446744073709551616 := by have := HWY.out _ (layR.at_mem hky); rw [hy] at this; exact this
        have CS := Lib.hid (fun W => rcsame (f, z) (f', z') W hz hz')
        have HE : Hid (same1 (layR.at xs k) (layR.at ys k) = (decide ((a, b) = (a', b')) && (decide (c = c') && sameC (f, z) (f', z')))) := Lib.hid (by rw [hx, hy]; rfl)
        have HKX := Lib.hid hkx
        generalize sameC (f, z) (f', z') = s at CS HE
        have HSS : Hid (∀ w', Below w.heap.size w w' → w'.cell? ⟨B, off + k * 5, none⟩ = some (.int .i64 a) ∧ w'.cell? ⟨B, off + k * 5 + 1, none⟩ = some (.int .i64 b) ∧ w'.cell? ⟨B, off + k * 5 + 2, none⟩ = some (.int .i64 c) ∧ w'.cell? ⟨B, off + k * 5 + 3, none⟩ = some (.bool f) ∧ w'.cell? ⟨B, off + k * 5 + 4, none⟩ = some (.float .f64 z) ∧ w'.cell? ⟨B', off' + k * 5, none⟩ = some (.int .i64 a') ∧ w'.cell? ⟨B', off' + k * 5 + 1, none⟩ = some (.int .i64 b') ∧ w'.cell? ⟨B', off' + k * 5 + 2, none⟩ = some (.int .i64 c') ∧ w'.cell? ⟨B', off' + k * 5 + 3, none⟩ = some (.bool f') ∧ w'.cell? ⟨B', off' + k * 5 + 4, none⟩ = some (.float .f64 z')) := Lib.hid fun W hb => by
          obtain ⟨a0, a1, a2, a3, a4⟩ := cellR (HC.out.on hb) hkx hx
          obtain ⟨b0, b1, b2, b3, b4⟩ := cellR (HD.out.on hb) hky hy
          exact ⟨a0, a1, a2, a3, a4, b0, b1, b2, b3, b4⟩
        clear hx hy hz hz' hkx hky hd gd
        have HNX : Hid (same1 (layR.at xs k) (layR.at ys k) = false → r = false) := Lib.hid fun h => HNN.out k HKX.out h
        by_cases he : (a, b) = (a', b')
        · have h3 : (a == a' && b == b') = true := by
            rw [Prod.mk.injEq] at he; rw [he.1, he.2]; simp
          have hq : ∀ w, (binOp .neq 46 (.agg #[.int .i64 a, .int .i64 b]) (.agg #[.int .i64 a', .int .i64 b'])).run Try.prog w = .ok (.bool false) w := fun w => by rw [neq_idv, h3]; rfl
          have HE1 : Hid (same1 (layR.at xs k) (layR.at ys k) = (decide (c = c') && s)) := Lib.hid (by rw [HE.out, decide_eq_true he, Bool.true_and])
          clear he h3 HE
          by_cases hc : c = c'
          · have hc1 : (c != c') = false := by rw [hc]; simp
            have R0 := Lib.hid HB.out.drew
            have HS0 := Lib.hid (HSS.out _ R0.out)
            have HE2 : Hid (same1 (layR.at xs k) (layR.at ys k) = s) := Lib.hid (by rw [HE1.out, decide_eq_true hc, Bool.true_and])
            clear hc HE1
            cases s
            · have HZ : Hid (r = false) := Lib.hid (HNX.out HE2.out)
              go_wp2_with fail
              refine wp_region_held_drew (S := (fun w' => w'.cell? ⟨B, off + k * 5, none⟩ = some (.int .i64 a) ∧ w'.cell? ⟨B, off + k * 5 + 1, none⟩ = some (.int .i64 b) ∧ w'.cell? ⟨B, off + k * 5 + 2, none⟩ = some (.int .i64 c) ∧ w'.cell? ⟨B, off + k * 5 + 3, none⟩ = some (.bool f) ∧ w'.cell? ⟨B, off + k * 5 + 4, none⟩ = some (.float .f64 z) ∧ w'.cell? ⟨B', off' + k * 5, none⟩ = some (.int .i64 a') ∧ w'.cell? ⟨B', off' + k * 5 + 1, none⟩ = some (.int .i64 b') ∧ w'.cell? ⟨B', off' + k * 5 + 2, none⟩ = some (.int .i64 c') ∧ w'.cell? ⟨B', off' + k * 5 + 3, none⟩ = some (.bool f') ∧ w'.cell? ⟨B', off' + k * 5 + 4, none⟩ = some (.float .f64 z'))) (by kernel_rfl) HS0.out (fun hHeld => ?_)
              refine wpAnyH_take (i := 0) (v := ?_) rfl (by kernel_rfl) (by kernel_rfl) (by kernel_rfl) (fun _ _ _ h => h) (Or.inl ⟨by rfl, fun w hSw => ?_⟩) (by assumption) ?_
              rotate_left
              · (try dsimp only at hSw); go_simp; (try with_reducible rfl)
              try simp only [List.getElem_toArray, List.getElem_cons_succ, List.getElem_cons_zero, Act.put, List.setIfInBounds_toArray, List.set_cons_zero, List.set_cons_succ]
              refine wpAnyH_take (i := 1) (v := ?_) rfl (by kernel_rfl) (by kernel_rfl) (by kernel_rfl) (fun _ _ _ h => h) (Or.inl ⟨by rfl, fun w hSw => ?_⟩) (by assumption) ?_
              rotate_left
              · (try dsimp only at hSw); go_simp; (try with_reducible rfl)
              try simp only [List.getElem_toArray, List.getElem_cons_succ, List.getElem_cons_zero, Act.put, List.setIfInBounds_toArray, List.set_cons_zero, List.set_cons_succ]
              refine wpAnyH_take (i := 2) (v := ?_) rfl (by kernel_rfl) (by kernel_rfl) (by kernel_rfl) (fun _ _ _ h => h) (Or.inl ⟨by rfl, fun w hSw => ?_⟩) (by assumption) ?_
              rotate_left
              · (try dsimp only at hSw); go_simp; (try with_reducible rfl)
              try simp only [List.getElem_toArray, List.getElem_cons_succ, List.getElem_cons_zero, Act.put, List.setIfInBounds_toArray, List.set_cons_zero, List.set_cons_succ]
              refine wpAnyH_take (i := 3) (v := ?_) rfl (by kernel_rfl) (by kernel_rfl) (by kernel_rfl) (fun _ _ _ h => h) (Or.inl ⟨by rfl, fun w hSw => ?_⟩) (by assumption) ?_
              rotate_left
              · (try dsimp only at hSw); go_simp; (try with_reducible rfl)
              try simp only [List.getElem_toArray, List.getElem_cons_succ, List.getElem_cons_zero, Act.put, List.setIfInBounds_toArray, List.set_cons_zero, List.set_cons_succ]
              refine wpAnyH_take (i := 4) (v := ?_) rfl (by kernel_rfl) (by kernel_rfl) (by kernel_rfl) (fun _ _ _ h => h) (Or.inl ⟨by rfl, fun w hSw => ?_⟩) (by assumption) ?_
              rotate_left
              · (try dsimp only at hSw); go_simp; (try with_reducible rfl)
              try simp only [List.getElem_toArray, List.getElem_cons_succ, List.getElem_cons_zero, Act.put, List.setIfInBounds_toArray, List.set_cons_zero, List.set_cons_succ]
              refine wpAnyH_take (i := 5) (v := ?_) rfl (by kernel_rfl) (by kernel_rfl) (by kernel_rfl) (fun _ _ _ h => h) (Or.inl ⟨by rfl, fun w hSw => ?_⟩) (by assumption) ?_
              rotate_left
              · (try dsimp only at hSw); go_simp; (try with_reducible rfl)
              try simp only [List.getElem_toArray, List.getElem_cons_succ, List.getElem_cons_zero, Act.put, List.setIfInBounds_toArray, List.set_cons_zero, List.set_cons_succ]
              refine wpAnyH_take (i := 6) (v := ?_) rfl (by kernel_rfl) (by kernel_rfl) (by kernel_rfl) (fun _ _ _ h => h) (Or.inl ⟨by rfl, fun w hSw => ?_⟩) (by assumption) ?_
              rotate_left
              · (try dsimp only at hSw); go_simp; (try with_reducible rfl)
              try simp only [List.getElem_toArray, List.getElem_cons_succ, List.getElem_cons_zero, Act.put, List.setIfInBounds_toArray, List.set_cons_zero, List.set_cons_succ]
              refine wpAnyH_take (i := 7) (v := ?_) rfl (by kernel_rfl) (by kernel_rfl) (by kernel_rfl) (fun _ _ _ h => h) (Or.inl ⟨by rfl, fun w hSw => ?_⟩) (by assumption) ?_
              rotate_left
              · (try dsimp only at hSw); go_simp; (try with_reducible rfl)
              try simp only [List.getElem_toArray, List.getElem_cons_succ, List.getElem_cons_zero, Act.put, List.setIfInBounds_toArray, List.set_cons_zero, List.set_cons_succ]
              refine wpAnyH_take (i := 8) (v := ?_) rfl (by kernel_rfl) (by kernel_rfl) (by kernel_rfl) (fun _ _ _ h => h) (Or.inl ⟨by rfl, fun w hSw => ?_⟩) (by assumption) ?_
              rotate_left
              · (try dsimp only at hSw); go_simp; (try with_reducible rfl)
              try simp only [List.getElem_toArray, List.getElem_cons_succ, List.getElem_cons_zero, Act.put, List.setIfInBounds_toArray, List.set_cons_zero, List.set_cons_succ]
              refine wpAnyH_take (i := 9) (v := ?_) rfl (by kernel_rfl) (by kernel_rfl) (by kernel_rfl) (fun _ _ _ h => h) (Or.inl ⟨by rfl, fun w hSw => ?_⟩) (by assumption) ?_
              rotate_left
              · (try dsimp only at hSw); go_simp; (try with_reducible rfl)
              try simp only [List.getElem_toArray, List.getElem_cons_succ, List.getElem_cons_zero, Act.put, List.setIfInBounds_toArray, List.set_cons_zero, List.set_cons_succ]
              refine wpAnyH_take (i := 10) (v := ?_) rfl (by kernel_rfl) (by kernel_rfl) (by kernel_rfl) (fun _ _ _ h => h) (Or.inl ⟨by rfl, fun w hSw => ?_⟩) (by assumption) ?_
              rotate_left
              · (try dsimp only at hSw); go_simp; (try with_reducible rfl)
              try simp only [List.getElem_toArray, List.getElem_cons_succ, List.getElem_cons_zero, Act.put, List.setIfInBounds_toArray, List.set_cons_zero, List.set_cons_succ]
              refine wpAnyH_take (i := 11) (v := ?_) rfl (by kernel_rfl) (by kernel_rfl) (by kernel_rfl) (fun _ _ _ h => h) (Or.inl ⟨by rfl, fun w hSw => ?_⟩) (by assumption) ?_
              rotate_left
              · (try dsimp only at hSw); go_simp; (try with_reducible rfl)
              try simp only [List.getElem_toArray, List.getElem_cons_succ, List.getElem_cons_zero, Act.put, List.setIfInBounds_toArray, List.set_cons_zero, List.set_cons_succ]
              refine wpAnyH_take (i := 12) (v := ?_) rfl (by kernel_rfl) (by kernel_rfl) (by kernel_rfl) (fun _ _ _ h => h) (Or.inl ⟨by rfl, fun w hSw => ?_⟩) (by assumption) ?_
              rotate_left
              · (try dsimp only at hSw); go_simp; (try with_reducible rfl)
              try simp only [List.getElem_toArray, List.getElem_cons_succ, List.getElem_cons_zero, Act.put, List.setIfInBounds_toArray, List.set_cons_zero, List.set_cons_succ]
              refine wpAnyH_take (i := 13) (v := ?_) rfl (by kernel_rfl) (by kernel_rfl) (by kernel_rfl) (fun _ _ _ h => h) (Or.inl ⟨by rfl, fun w hSw => ?_⟩) (by assumption) ?_
              rotate_left
              · (try dsimp only at hSw); go_simp; (try with_reducible rfl)
              try simp only [List.getElem_toArray, List.getElem_cons_succ, List.getElem_cons_zero, Act.put, List.setIfInBounds_toArray, List.set_cons_zero, List.set_cons_succ]
              refine wpAnyH_take (i := 14) (v := ?_) rfl (by kernel_rfl) (by kernel_rfl) (by kernel_rfl) (fun _ _ _ h => h) (Or.inl ⟨by rfl, fun w hSw => ?_⟩) (by assumption) ?_
              rotate_left
              · (try dsimp only at hSw); go_simp; (try with_reducible rfl)
              try simp only [List.getElem_toArray, List.getElem_cons_succ, List.getElem_cons_zero, Act.put, List.setIfInBounds_toArray, List.set_cons_zero, List.set_cons_succ]
              refine wpAnyH_take (i := 15) (v := ?_) rfl (by kernel_rfl) (by kernel_rfl) (by kernel_rfl) (fun _ _ _ h => h) (Or.inl ⟨by rfl, fun w hSw => ?_⟩) (by assumption) ?_
              rotate_left
              · (try dsimp only at hSw); go_simp; (try with_reducible rfl)
              try simp only [List.getElem_toArray, List.getElem_cons_succ, List.getElem_cons_zero, Act.put, List.setIfInBounds_toArray, List.set_cons_zero, List.set_cons_succ]
              refine wpAnyH_take (i := 16) (v := ?_) rfl (by kernel_rfl) (by kernel_rfl) (by kernel_rfl) (fun _ _ _ h => h) (Or.inl ⟨by rfl, fun w hSw => ?_⟩) (by assumption) ?_
              rotate_left
              · (try dsimp only at hSw); go_simp; (try with_reducible rfl)
              try simp only [List.getElem_toArray, List.getElem_cons_succ, List.getElem_cons_zero, Act.put, List.setIfInBounds_toArray, List.set_cons_zero, List.set_cons_succ]
              refine wpAnyH_take (i := 17) (v := ?_) rfl (by kernel_rfl) (by kernel_rfl) (by kernel_rfl) (fun _ _ _ h => h) (Or.inl ⟨by rfl, fun w hSw => ?_⟩) (by assumption) ?_
              rotate_left
              · (try dsimp only at hSw); go_simp; (try with_reducible rfl)
              try simp only [List.getElem_toArray, List.getElem_cons_succ, List.getElem_cons_zero, Act.put, List.setIfInBounds_toArray, List.set_cons_zero, List.set_cons_succ]
              refine wpAnyH_take (i := 18) (v := ?_) rfl (by kernel_rfl) (by kernel_rfl) (by kernel_rfl) (fun _ _ _ h => h) (Or.inl ⟨by rfl, fun w hSw => ?_⟩) (by assumption) ?_
              rotate_left
              · (try dsimp only at hSw); go_simp; (try with_reducible rfl)
              try simp only [List.getElem_toArray, List.getElem_cons_succ, List.getElem_cons_zero, Act.put, List.setIfInBounds_toArray, List.set_cons_zero, List.set_cons_succ]
              refine wpAnyH_take (i := 19) (v := ?_) rfl (by kernel_rfl) (by kernel_rfl) (by kernel_rfl) (fun _ _ _ h => h) (Or.inl ⟨by rfl, fun w hSw => ?_⟩) (by assumption) ?_
              rotate_left
              · (try dsimp only at hSw); go_simp; (try with_reducible rfl)
              try simp only [List.getElem_toArray, List.getElem_cons_succ, List.getElem_cons_zero, Act.put, List.setIfInBounds_toArray, List.set_cons_zero, List.set_cons_succ]
              refine wpAnyH_take (i := 20) (v := ?_) rfl (by kernel_rfl) (by kernel_rfl) (by kernel_rfl) (fun _ _ _ h => h) (Or.inl ⟨by rfl, fun w hSw => ?_⟩) (by assumption) ?_
              rotate_left
              · (try dsimp only at hSw); go_simp; (try with_reducible rfl)
              try simp only [List.getElem_toArray, List.getElem_cons_succ, List.getElem_cons_zero, Act.put, List.setIfInBounds_toArray, List.set_cons_zero, List.set_cons_succ]
              refine wpAnyH_take (i := 21) (v := ?_) rfl (by kernel_rfl) (by kernel_rfl) (by kernel_rfl) (fun _ _ _ h => h) (Or.inl ⟨by rfl, fun w hSw => ?_⟩) (by assumption) ?_
              rotate_left
              · (try dsimp only at hSw); go_simp; (try with_reducible rfl)
              try simp only [List.getElem_toArray, List.getElem_cons_succ, List.getElem_cons_zero, Act.put, List.setIfInBounds_toArray, List.set_cons_zero, List.set_cons_succ]
              refine wpAnyH_take (i := 22) (v := ?_) rfl (by kernel_rfl) (by kernel_rfl) (by kernel_rfl) (fun _ _ _ h => h) (Or.inl ⟨by rfl, fun w hSw => ?_⟩) (by assumption) ?_
              rotate_left
              · (try dsimp only at hSw); go_simp; (try with_reducible rfl)
              try simp only [List.getElem_toArray, List.getElem_cons_succ, List.getElem_cons_zero, Act.put, List.setIfInBounds_toArray, List.set_cons_zero, List.set_cons_succ]
              refine wpAnyH_take (i := 23) (v := ?_) rfl (by kernel_rfl) (by kernel_rfl) (by kernel_rfl) (fun _ _ _ h => h) (Or.inl ⟨by rfl, fun w hSw => ?_⟩) (by assumption) ?_
              rotate_left
              · (try dsimp only at hSw); go_simp; (try with_reducible rfl)
              try simp only [List.getElem_toArray, List.getElem_cons_succ, List.getElem_cons_zero, Act.put, List.setIfInBounds_toArray, List.set_cons_zero, List.set_cons_succ]
              refine wpAnyH_take (i := 24) (v := ?_) rfl (by kernel_rfl) (by kernel_rfl) (by kernel_rfl) (fun _ _ _ h => h) (Or.inl ⟨by rfl, fun w hSw => ?_⟩) (by assumption) ?_
              rotate_left
              · (try dsimp only at hSw); go_simp; (try with_reducible rfl)
              try simp only [List.getElem_toArray, List.getElem_cons_succ, List.getElem_cons_zero, Act.put, List.setIfInBounds_toArray, List.set_cons_zero, List.set_cons_succ]
              refine wpAnyH_take (i := 25) (v := ?_) rfl (by kernel_rfl) (by kernel_rfl) (by kernel_rfl) (fun _ _ _ h => h) (Or.inl ⟨by rfl, fun w hSw => ?_⟩) (by assumption) ?_
              rotate_left
              · (try dsimp only at hSw); go_simp; (try with_reducible rfl)
              try simp only [List.getElem_toArray, List.getElem_cons_succ, List.getElem_cons_zero, Act.put, List.setIfInBounds_toArray, List.set_cons_zero, List.set_cons_succ]
              refine wpAnyH_take (i := 26) (v := ?_) rfl (by kernel_rfl) (by kernel_rfl) (by kernel_rfl) (fun _ _ _ h => h) (Or.inl ⟨by rfl, fun w hSw => ?_⟩) (by assumption) ?_
              rotate_left
              · (try dsimp only at hSw); go_simp; (try with_reducible rfl)
              try simp only [List.getElem_toArray, List.getElem_cons_succ, List.getElem_cons_zero, Act.put, List.setIfInBounds_toArray, List.set_cons_zero, List.set_cons_succ]
              refine wpAnyH_take (i := 27) (v := ?_) rfl (by kernel_rfl) (by kernel_rfl) (by kernel_rfl) (fun _ _ _ h => h) (Or.inl ⟨by rfl, fun w hSw => ?_⟩) (by assumption) ?_
              rotate_left
              · (try dsimp only at hSw); go_simp; (try with_reducible rfl)
              try simp only [List.getElem_toArray, List.getElem_cons_succ, List.getElem_cons_zero, Act.put, List.setIfInBounds_toArray, List.set_cons_zero, List.set_cons_succ]
              refine wpAnyH_take (i := 28) (v := ?_) rfl (by kernel_rfl) (by kernel_rfl) (by kernel_rfl) (fun _ _ _ h => h) (Or.inl ⟨by rfl, fun w hSw => ?_⟩) (by assumption) ?_
              rotate_left
              · (try dsimp only at hSw); go_simp; (try with_reducible rfl)
              try simp only [List.getElem_toArray, List.getElem_cons_succ, List.getElem_cons_zero, Act.put, List.setIfInBounds_toArray, List.set_cons_zero, List.set_cons_succ]
              refine wpAnyH_take (i := 29) (v := ?_) rfl (by kernel_rfl) (by kernel_rfl) (by kernel_rfl) (fun _ _ _ h => h) (Or.inl ⟨by rfl, fun w hSw => ?_⟩) (by assumption) ?_
              rotate_left
              · (try dsimp only at hSw); go_simp; (try with_reducible rfl)
              try simp only [List.getElem_toArray, List.getElem_cons_succ, List.getElem_cons_zero, Act.put, List.setIfInBounds_toArray, List.set_cons_zero, List.set_cons_succ]
              refine wpAnyH_take (i := 30) (v := ?_) rfl (by kernel_rfl) (by kernel_rfl) (by kernel_rfl) (fun _ _ _ h => h) (Or.inl ⟨by rfl, fun w hSw => ?_⟩) (by assumption) ?_
              rotate_left
              · (try dsimp only at hSw); go_simp; (try with_reducible rfl)
              try simp only [List.getElem_toArray, List.getElem_cons_succ, List.getElem_cons_zero, Act.put, List.setIfInBounds_toArray, List.set_cons_zero, List.set_cons_succ]
              refine wpAnyH_take (i := 31) (v := ?_) rfl (by kernel_rfl) (by kernel_rfl) (by kernel_rfl) (fun _ _ _ h => h) (Or.inl ⟨by rfl, fun w hSw => ?_⟩) (by assumption) ?_
              rotate_left
              · (try dsimp only at hSw); go_simp; (try with_reducible rfl)
              try simp only [List.getElem_toArray, List.getElem_cons_succ, List.getElem_cons_zero, Act.put, List.setIfInBounds_toArray, List.set_cons_zero, List.set_cons_succ]
              refine wpAnyH_take (i := 32) (v := ?_) rfl (by kernel_rfl) (by kernel_rfl) (by kernel_rfl) (fun _ _ _ h => h) (Or.inl ⟨by rfl, fun w hSw => ?_⟩) (by assumption) ?_
              rotate_left
              · (try dsimp only at hSw); go_simp; (try with_reducible rfl)
              try simp only [List.getElem_toArray, List.getElem_cons_succ, List.getElem_cons_zero, Act.put, List.setIfInBounds_toArray, List.set_cons_zero, List.set_cons_succ]
              refine wpAnyH_take (i := 33) (v := ?_) rfl (by kernel_rfl) (by kernel_rfl) (by kernel_rfl) (fun _ _ _ h => h) (Or.inl ⟨by rfl, fun w hSw => ?_⟩) (by assumption) ?_
              rotate_left
              · (try dsimp only at hSw); go_simp; (try with_reducible rfl)
              try simp only [List.getElem_toArray, List.getElem_cons_succ, List.getElem_cons_zero, Act.put, List.setIfInBounds_toArray, List.set_cons_zero, List.set_cons_succ]
              refine wpAnyH_take (i := 34) (v := ?_) rfl (by kernel_rfl) (by kernel_rfl) (by kernel_rfl) (fun _ _ _ h => h) (Or.inl ⟨by rfl, fun w hSw => ?_⟩) (by assumption) ?_
              rotate_left
              · (try dsimp only at hSw); go_simp; (try with_reducible rfl)
              try simp only [List.getElem_toArray, List.getElem_cons_succ, List.getElem_cons_zero, Act.put, List.setIfInBounds_toArray, List.set_cons_zero, List.set_cons_succ]
              refine wpAnyH_ready (rs := [35]) (by kernel_rfl) (by simp) ?_
              refine AllReadyH.cons rfl (fun K hK => ?_) ?_
              rotate_left
              · exact AllReadyH.nil
              go_simp
              (go_at_call 8; (with_reducible refine (CS.out _).mono ?_); rintro E w1 ⟨rfl, hb⟩; have Y1 := Lib.hid (R0.out.trans (hb.mono R0.out.size)); clear hb)
              refine hK.out _ _ ?_ (fun hHeld => ?_)
              · exact HSS.out _ Y1.out
              clear hK K
              try simp only [List.getElem_toArray, List.getElem_cons_succ, List.getElem_cons_zero, Act.put, List.setIfInBounds_toArray, List.set_cons_zero, List.set_cons_succ]
              refine wpAnyH_take (i := 36) (v := ?_) rfl (by kernel_rfl) (by kernel_rfl) (by kernel_rfl) (fun _ _ _ h => h) (Or.inl ⟨by rfl, fun w hSw => ?_⟩) (by assumption) ?_
              rotate_left
              · (try dsimp only at hSw); go_simp; (try with_reducible rfl)
              try simp only [List.getElem_toArray, List.getElem_cons_succ, List.getElem_cons_zero, Act.put, List.setIfInBounds_toArray, List.set_cons_zero, List.set_cons_succ]
              refine wpAnyH_take (i := 37) (v := ?_) rfl (by kernel_rfl) (by kernel_rfl) (by kernel_rfl) (fun _ _ _ h => h) (Or.inl ⟨by rfl, fun w hSw => ?_⟩) (by assumption) ?_
              rotate_left
              · (try dsimp only at hSw); go_simp; (try with_reducible rfl)
              try simp only [List.getElem_toArray, List.getElem_cons_succ, List.getElem_cons_zero, Act.put, List.setIfInBounds_toArray, List.set_cons_zero, List.set_cons_succ]
              refine wpAnyH_done (by kernel_rfl) ?_ _
              go_wp2_with fail
              go_ret
              exact ⟨ret_bool HZ.out.symm, Y1.out⟩
            · go_wp2_with fail
              refine wp_region_held_drew (S := (fun w' => w'.cell? ⟨B, off + k * 5, none⟩ = some (.int .i64 a) ∧ w'.cell? ⟨B, off + k * 5 + 1, none⟩ = some (.int .i64 b) ∧ w'.cell? ⟨B, off + k * 5 + 2, none⟩ = some (.int .i64 c) ∧ w'.cell? ⟨B, off + k * 5 + 3, none⟩ = some (.bool f) ∧ w'.cell? ⟨B, off + k * 5 + 4, none⟩ = some (.float .f64 z) ∧ w'.cell? ⟨B', off' + k * 5, none⟩ = some (.int .i64 a') ∧ w'.cell? ⟨B', off' + k * 5 + 1, none⟩ = some (.int .i64 b') ∧ w'.cell? ⟨B', off' + k * 5 + 2, none⟩ = some (.int .i64 c') ∧ w'.cell? ⟨B', off' + k * 5 + 3, none⟩ = some (.bool f') ∧ w'.cell? ⟨B', off' + k * 5 + 4, none⟩ = some (.float .f64 z'))) (by kernel_rfl) HS0.out (fun hHeld => ?_)
              refine wpAnyH_take (i := 0) (v := ?_) rfl (by kernel_rfl) (by kernel_rfl) (by kernel_rfl) (fun _ _ _ h => h) (Or.inl ⟨by rfl, fun w hSw => ?_⟩) (by assumption) ?_
              rotate_left
              · (try dsimp only at hSw); go_simp; (try with_reducible rfl)
              try simp only [List.getElem_toArray, List.getElem_cons_succ, List.getElem_cons_zero, Act.put, List.setIfInBounds_toArray, List.set_cons_zero, List.set_cons_succ]
              refine wpAnyH_take (i := 1) (v := ?_) rfl (by kernel_rfl) (by kernel_rfl) (by kernel_rfl) (fun _ _ _ h => h) (Or.inl ⟨by rfl, fun w hSw => ?_⟩) (by assumption) ?_
              rotate_left
              · (try dsimp only at hSw); go_simp; (try with_reducible rfl)
              try simp only [List.getElem_toArray, List.getElem_cons_succ, List.getElem_cons_zero, Act.put, List.setIfInBounds_toArray, List.set_cons_zero, List.set_cons_succ]
              refine wpAnyH_take (i := 2) (v := ?_) rfl (by kernel_rfl) (by kernel_rfl) (by kernel_rfl) (fun _ _ _ h => h) (Or.inl ⟨by rfl, fun w hSw => ?_⟩) (by assumption) ?_
              rotate_left
              · (try dsimp only at hSw); go_simp; (try with_reducible rfl)
              try simp only [List.getElem_toArray, List.getElem_cons_succ, List.getElem_cons_zero, Act.put, List.setIfInBounds_toArray, List.set_cons_zero, List.set_cons_succ]
              refine wpAnyH_take (i := 3) (v := ?_) rfl (by kernel_rfl) (by kernel_rfl) (by kernel_rfl) (fun _ _ _ h => h) (Or.inl ⟨by rfl, fun w hSw => ?_⟩) (by assumption) ?_
              rotate_left
              · (try dsimp only at hSw); go_simp; (try with_reducible rfl)
              try simp only [List.getElem_toArray, List.getElem_cons_succ, List.getElem_cons_zero, Act.put, List.setIfInBounds_toArray, List.set_cons_zero, List.set_cons_succ]
              refine wpAnyH_take (i := 4) (v := ?_) rfl (by kernel_rfl) (by kernel_rfl) (by kernel_rfl) (fun _ _ _ h => h) (Or.inl ⟨by rfl, fun w hSw => ?_⟩) (by assumption) ?_
              rotate_left
              · (try dsimp only at hSw); go_simp; (try with_reducible rfl)
              try simp only [List.getElem_toArray, List.getElem_cons_succ, List.getElem_cons_zero, Act.put, List.setIfInBounds_toArray, List.set_cons_zero, List.set_cons_succ]
              refine wpAnyH_take (i := 5) (v := ?_) rfl (by kernel_rfl) (by kernel_rfl) (by kernel_rfl) (fun _ _ _ h => h) (Or.inl ⟨by rfl, fun w hSw => ?_⟩) (by assumption) ?_
              rotate_left
              · (try dsimp only at hSw); go_simp; (try with_reducible rfl)
              try simp only [List.getElem_toArray, List.getElem_cons_succ, List.getElem_cons_zero, Act.put, List.setIfInBounds_toArray, List.set_cons_zero, List.set_cons_succ]
              refine wpAnyH_take (i := 6) (v := ?_) rfl (by kernel_rfl) (by kernel_rfl) (by kernel_rfl) (fun _ _ _ h => h) (Or.inl ⟨by rfl, fun w hSw => ?_⟩) (by assumption) ?_
              rotate_left
              · (try dsimp only at hSw); go_simp; (try with_reducible rfl)
              try simp only [List.getElem_toArray, List.getElem_cons_succ, List.getElem_cons_zero, Act.put, List.setIfInBounds_toArray, List.set_cons_zero, List.set_cons_succ]
              refine wpAnyH_take (i := 7) (v := ?_) rfl (by kernel_rfl) (by kernel_rfl) (by kernel_rfl) (fun _ _ _ h => h) (Or.inl ⟨by rfl, fun w hSw => ?_⟩) (by assumption) ?_
              rotate_left
              · (try dsimp only at hSw); go_simp; (try with_reducible rfl)
              try simp only [List.getElem_toArray, List.getElem_cons_succ, List.getElem_cons_zero, Act.put, List.setIfInBounds_toArray, List.set_cons_zero, List.set_cons_succ]
              refine wpAnyH_take (i := 8) (v := ?_) rfl (by kernel_rfl) (by kernel_rfl) (by kernel_rfl) (fun _ _ _ h => h) (Or.inl ⟨by rfl, fun w hSw => ?_⟩) (by assumption) ?_
              rotate_left
              · (try dsimp only at hSw); go_simp; (try with_reducible rfl)
              try simp only [List.getElem_toArray, List.getElem_cons_succ, List.getElem_cons_zero, Act.put, List.setIfInBounds_toArray, List.set_cons_zero, List.set_cons_succ]
              refine wpAnyH_take (i := 9) (v := ?_) rfl (by kernel_rfl) (by kernel_rfl) (by kernel_rfl) (fun _ _ _ h => h) (Or.inl ⟨by rfl, fun w hSw => ?_⟩) (by assumption) ?_
              rotate_left
              · (try dsimp only at hSw); go_simp; (try with_reducible rfl)
              try simp only [List.getElem_toArray, List.getElem_cons_succ, List.getElem_cons_zero, Act.put, List.setIfInBounds_toArray, List.set_cons_zero, List.set_cons_succ]
              refine wpAnyH_take (i := 10) (v := ?_) rfl (by kernel_rfl) (by kernel_rfl) (by kernel_rfl) (fun _ _ _ h => h) (Or.inl ⟨by rfl, fun w hSw => ?_⟩) (by assumption) ?_
              rotate_left
              · (try dsimp only at hSw); go_simp; (try with_reducible rfl)
              try simp only [List.getElem_toArray, List.getElem_cons_succ, List.getElem_cons_zero, Act.put, List.setIfInBounds_toArray, List.set_cons_zero, List.set_cons_succ]
              refine wpAnyH_take (i := 11) (v := ?_) rfl (by kernel_rfl) (by kernel_rfl) (by kernel_rfl) (fun _ _ _ h => h) (Or.inl ⟨by rfl, fun w hSw => ?_⟩) (by assumption) ?_
              rotate_left
              · (try dsimp only at hSw); go_simp; (try with_reducible rfl)
              try simp only [List.getElem_toArray, List.getElem_cons_succ, List.getElem_cons_zero, Act.put, List.setIfInBounds_toArray, List.set_cons_zero, List.set_cons_succ]
              refine wpAnyH_take (i := 12) (v := ?_) rfl (by kernel_rfl) (by kernel_rfl) (by kernel_rfl) (fun _ _ _ h => h) (Or.inl ⟨by rfl, fun w hSw => ?_⟩) (by assumption) ?_
              rotate_left
              · (try dsimp only at hSw); go_simp; (try with_reducible rfl)
              try simp only [List.getElem_toArray, List.getElem_cons_succ, List.getElem_cons_zero, Act.put, List.setIfInBounds_toArray, List.set_cons_zero, List.set_cons_succ]
              refine wpAnyH_take (i := 13) (v := ?_) rfl (by kernel_rfl) (by kernel_rfl) (by kernel_rfl) (fun _ _ _ h => h) (Or.inl ⟨by rfl, fun w hSw => ?_⟩) (by assumption) ?_
              rotate_left
              · (try dsimp only at hSw); go_simp; (try with_reducible rfl)
              try simp only [List.getElem_toArray, List.getElem_cons_succ, List.getElem_cons_zero, Act.put, List.setIfInBounds_toArray, List.set_cons_zero, List.set_cons_succ]
              refine wpAnyH_take (i := 14) (v := ?_) rfl (by kernel_rfl) (by kernel_rfl) (by kernel_rfl) (fun _ _ _ h => h) (Or.inl ⟨by rfl, fun w hSw => ?_⟩) (by assumption) ?_
              rotate_left
              · (try dsimp only at hSw); go_simp; (try with_reducible rfl)
              try simp only [List.getElem_toArray, List.getElem_cons_succ, List.getElem_cons_zero, Act.put, List.setIfInBounds_toArray, List.set_cons_zero, List.set_cons_succ]
              refine wpAnyH_take (i := 15) (v := ?_) rfl (by kernel_rfl) (by kernel_rfl) (by kernel_rfl) (fun _ _ _ h => h) (Or.inl ⟨by rfl, fun w hSw => ?_⟩) (by assumption) ?_
              rotate_left
              · (try dsimp only at hSw); go_simp; (try with_reducible rfl)
              try simp only [List.getElem_toArray, List.getElem_cons_succ, List.getElem_cons_zero, Act.put, List.setIfInBounds_toArray, List.set_cons_zero, List.set_cons_succ]
              refine wpAnyH_take (i := 16) (v := ?_) rfl (by kernel_rfl) (by kernel_rfl) (by kernel_rfl) (fun _ _ _ h => h) (Or.inl ⟨by rfl, fun w hSw => ?_⟩) (by assumption) ?_
              rotate_left
              · (try dsimp only at hSw); go_simp; (try with_reducible rfl)
              try simp only [List.getElem_toArray, List.getElem_cons_succ, List.getElem_cons_zero, Act.put, List.setIfInBounds_toArray, List.set_cons_zero, List.set_cons_succ]
              refine wpAnyH_take (i := 17) (v := ?_) rfl (by kernel_rfl) (by kernel_rfl) (by kernel_rfl) (fun _ _ _ h => h) (Or.inl ⟨by rfl, fun w hSw => ?_⟩) (by assumption) ?_
              rotate_left
              · (try dsimp only at hSw); go_simp; (try with_reducible rfl)
              try simp only [List.getElem_toArray, List.getElem_cons_succ, List.getElem_cons_zero, Act.put, List.setIfInBounds_toArray, List.set_cons_zero, List.set_cons_succ]
              refine wpAnyH_take (i := 18) (v := ?_) rfl (by kernel_rfl) (by kernel_rfl) (by kernel_rfl) (fun _ _ _ h => h) (Or.inl ⟨by rfl, fun w hSw => ?_⟩) (by assumption) ?_
              rotate_left
              · (try dsimp only at hSw); go_simp; (try with_reducible rfl)
              try simp only [List.getElem_toArray, List.getElem_cons_succ, List.getElem_cons_zero, Act.put, List.setIfInBounds_toArray, List.set_cons_zero, List.set_cons_succ]
              refine wpAnyH_take (i := 19) (v := ?_) rfl (by kernel_rfl) (by kernel_rfl) (by kernel_rfl) (fun _ _ _ h => h) (Or.inl ⟨by rfl, fun w hSw => ?_⟩) (by assumption) ?_
              rotate_left
              · (try dsimp only at hSw); go_simp; (try with_reducible rfl)
              try simp only [List.getElem_toArray, List.getElem_cons_succ, List.getElem_cons_zero, Act.put, List.setIfInBounds_toArray, List.set_cons_zero, List.set_cons_succ]
              refine wpAnyH_take (i := 20) (v := ?_) rfl (by kernel_rfl) (by kernel_rfl) (by kernel_rfl) (fun _ _ _ h => h) (Or.inl ⟨by rfl, fun w hSw => ?_⟩) (by assumption) ?_
              rotate_left
              · (try dsimp only at hSw); go_simp; (try with_reducible rfl)
              try simp only [List.getElem_toArray, List.getElem_cons_succ, List.getElem_cons_zero, Act.put, List.setIfInBounds_toArray, List.set_cons_zero, List.set_cons_succ]
              refine wpAnyH_take (i := 21) (v := ?_) rfl (by kernel_rfl) (by kernel_rfl) (by kernel_rfl) (fun _ _ _ h => h) (Or.inl ⟨by rfl, fun w hSw => ?_⟩) (by assumption) ?_
              rotate_left
              · (try dsimp only at hSw); go_simp; (try with_reducible rfl)
              try simp only [List.getElem_toArray, List.getElem_cons_succ, List.getElem_cons_zero, Act.put, List.setIfInBounds_toArray, List.set_cons_zero, List.set_cons_succ]
              refine wpAnyH_take (i := 22) (v := ?_) rfl (by kernel_rfl) (by kernel_rfl) (by kernel_rfl) (fun _ _ _ h => h) (Or.inl ⟨by rfl, fun w hSw => ?_⟩) (by assumption) ?_
              rotate_left
              · (try dsimp only at hSw); go_simp; (try with_reducible rfl)
              try simp only [List.getElem_toArray, List.getElem_cons_succ, List.getElem_cons_zero, Act.put, List.setIfInBounds_toArray, List.set_cons_zero, List.set_cons_succ]
              refine wpAnyH_take (i := 23) (v := ?_) rfl (by kernel_rfl) (by kernel_rfl) (by kernel_rfl) (fun _ _ _ h => h) (Or.inl ⟨by rfl, fun w hSw => ?_⟩) (by assumption) ?_
              rotate_left
              · (try dsimp only at hSw); go_simp; (try with_reducible rfl)
              try simp only [List.getElem_toArray, List.getElem_cons_succ, List.getElem_cons_zero, Act.put, List.setIfInBounds_toArray, List.set_cons_zero, List.set_cons_succ]
              refine wpAnyH_take (i := 24) (v := ?_) rfl (by kernel_rfl) (by kernel_rfl) (by kernel_rfl) (fun _ _ _ h => h) (Or.inl ⟨by rfl, fun w hSw => ?_⟩) (by assumption) ?_
              rotate_left
              · (try dsimp only at hSw); go_simp; (try with_reducible rfl)
              try simp only [List.getElem_toArray, List.getElem_cons_succ, List.getElem_cons_zero, Act.put, List.setIfInBounds_toArray, List.set_cons_zero, List.set_cons_succ]
              refine wpAnyH_take (i := 25) (v := ?_) rfl (by kernel_rfl) (by kernel_rfl) (by kernel_rfl) (fun _ _ _ h => h) (Or.inl ⟨by rfl, fun w hSw => ?_⟩) (by assumption) ?_
              rotate_left
              · (try dsimp only at hSw); go_simp; (try with_reducible rfl)
              try simp only [List.getElem_toArray, List.getElem_cons_succ, List.getElem_cons_zero, Act.put, List.setIfInBounds_toArray, List.set_cons_zero, List.set_cons_succ]
              refine wpAnyH_take (i := 26) (v := ?_) rfl (by kernel_rfl) (by kernel_rfl) (by kernel_rfl) (fun _ _ _ h => h) (Or.inl ⟨by rfl, fun w hSw => ?_⟩) (by assumption) ?_
              rotate_left
              · (try dsimp only at hSw); go_simp; (try with_reducible rfl)
              try simp only [List.getElem_toArray, List.getElem_cons_succ, List.getElem_cons_zero, Act.put, List.setIfInBounds_toArray, List.set_cons_zero, List.set_cons_succ]
              refine wpAnyH_take (i := 27) (v := ?_) rfl (by kernel_rfl) (by kernel_rfl) (by kernel_rfl) (fun _ _ _ h => h) (Or.inl ⟨by rfl, fun w hSw => ?_⟩) (by assumption) ?_
              rotate_left
              · (try dsimp only at hSw); go_simp; (try with_reducible rfl)
              try simp only [List.getElem_toArray, List.getElem_cons_succ, List.getElem_cons_zero, Act.put, List.setIfInBounds_toArray, List.set_cons_zero, List.set_cons_succ]
              refine wpAnyH_take (i := 28) (v := ?_) rfl (by kernel_rfl) (by kernel_rfl) (by kernel_rfl) (fun _ _ _ h => h) (Or.inl ⟨by rfl, fun w hSw => ?_⟩) (by assumption) ?_
              rotate_left
              · (try dsimp only at hSw); go_simp; (try with_reducible rfl)
              try simp only [List.getElem_toArray, List.getElem_cons_succ, List.getElem_cons_zero, Act.put, List.setIfInBounds_toArray, List.set_cons_zero, List.set_cons_succ]
              refine wpAnyH_take (i := 29) (v := ?_) rfl (by kernel_rfl) (by kernel_rfl) (by kernel_rfl) (fun _ _ _ h => h) (Or.inl ⟨by rfl, fun w hSw => ?_⟩) (by assumption) ?_
              rotate_left
              · (try dsimp only at hSw); go_simp; (try with_reducible rfl)
              try simp only [List.getElem_toArray, List.getElem_cons_succ, List.getElem_cons_zero, Act.put, List.setIfInBounds_toArray, List.set_cons_zero, List.set_cons_succ]
              refine wpAnyH_take (i := 30) (v := ?_) rfl (by kernel_rfl) (by kernel_rfl) (by kernel_rfl) (fun _ _ _ h => h) (Or.inl ⟨by rfl, fun w hSw => ?_⟩) (by assumption) ?_
              rotate_left
              · (try dsimp only at hSw); go_simp; (try with_reducible rfl)
              try simp only [List.getElem_toArray, List.getElem_cons_succ, List.getElem_cons_zero, Act.put, List.setIfInBounds_toArray, List.set_cons_zero, List.set_cons_succ]
              refine wpAnyH_take (i := 31) (v := ?_) rfl (by kernel_rfl) (by kernel_rfl) (by kernel_rfl) (fun _ _ _ h => h) (Or.inl ⟨by rfl, fun w hSw => ?_⟩) (by assumption) ?_
              rotate_left
              · (try dsimp only at hSw); go_simp; (try with_reducible rfl)
              try simp only [List.getElem_toArray, List.getElem_cons_succ, List.getElem_cons_zero, Act.put, List.setIfInBounds_toArray, List.set_cons_zero, List.set_cons_succ]
              refine wpAnyH_take (i := 32) (v := ?_) rfl (by kernel_rfl) (by kernel_rfl) (by kernel_rfl) (fun _ _ _ h => h) (Or.inl ⟨by rfl, fun w hSw => ?_⟩) (by assumption) ?_
              rotate_left
              · (try dsimp only at hSw); go_simp; (try with_reducible rfl)
              try simp only [List.getElem_toArray, List.getElem_cons_succ, List.getElem_cons_zero, Act.put, List.setIfInBounds_toArray, List.set_cons_zero, List.set_cons_succ]
              refine wpAnyH_take (i := 33) (v := ?_) rfl (by kernel_rfl) (by kernel_rfl) (by kernel_rfl) (fun _ _ _ h => h) (Or.inl ⟨by rfl, fun w hSw => ?_⟩) (by assumption) ?_
              rotate_left
              · (try dsimp only at hSw); go_simp; (try with_reducible rfl)
              try simp only [List.getElem_toArray, List.getElem_cons_succ, List.getElem_cons_zero, Act.put, List.setIfInBounds_toArray, List.set_cons_zero, List.set_cons_succ]
              refine wpAnyH_take (i := 34) (v := ?_) rfl (by kernel_rfl) (by kernel_rfl) (by kernel_rfl) (fun _ _ _ h => h) (Or.inl ⟨by rfl, fun w hSw => ?_⟩) (by assumption) ?_
              rotate_left
              · (try dsimp only at hSw); go_simp; (try with_reducible rfl)
              try simp only [List.getElem_toArray, List.getElem_cons_succ, List.getElem_cons_zero, Act.put, List.setIfInBounds_toArray, List.set_cons_zero, List.set_cons_succ]
              refine wpAnyH_ready (rs := [35]) (by kernel_rfl) (by simp) ?_
              refine AllReadyH.cons rfl (fun K hK => ?_) ?_
              rotate_left
              · exact AllReadyH.nil
              go_simp
              (go_at_call 8; (with_reducible refine (CS.out _).mono ?_); rintro E w1 ⟨rfl, hb⟩; have Y1 := Lib.hid (R0.out.trans (hb.mono R0.out.size)); clear hb)
              refine hK.out _ _ ?_ (fun hHeld => ?_)
              · exact HSS.out _ Y1.out
              clear hK K
              try simp only [List.getElem_toArray, List.getElem_cons_succ, List.getElem_cons_zero, Act.put, List.setIfInBounds_toArray, List.set_cons_zero, List.set_cons_succ]
              refine wpAnyH_take (i := 36) (v := ?_) rfl (by kernel_rfl) (by kernel_rfl) (by kernel_rfl) (fun _ _ _ h => h) (Or.inl ⟨by rfl, fun w hSw => ?_⟩) (by assumption) ?_
              rotate_left
              · (try dsimp only at hSw); go_simp; (try with_reducible rfl)
              try simp only [List.getElem_toArray, List.getElem_cons_succ, List.getElem_cons_zero, Act.put, List.setIfInBounds_toArray, List.set_cons_zero, List.set_cons_succ]
              refine wpAnyH_take (i := 37) (v := ?_) rfl (by kernel_rfl) (by kernel_rfl) (by kernel_rfl) (fun _ _ _ h => h) (Or.inl ⟨by rfl, fun w hSw => ?_⟩) (by assumption) ?_
              rotate_left
              · (try dsimp only at hSw); go_simp; (try with_reducible rfl)
              try simp only [List.getElem_toArray, List.getElem_cons_succ, List.getElem_cons_zero, Act.put, List.setIfInBounds_toArray, List.set_cons_zero, List.set_cons_succ]
              refine wpAnyH_done (by kernel_rfl) ?_ _
              go_wp2_with fail
              go_roundw
              case rel => exact ⟨k + 1, by go_num, by omega, Y1, Lib.hid fun j hj => by
                by_cases e : j = k
                · rw [e]; exact HE2.out
                · exact HNo.out j (by omega)⟩
              case measure => simp [intOf]; omega
          · have hc1 : (c != c') = true := bne_iff_ne.2 hc
            have HZ : Hid (r = false) := Lib.hid (HNX.out (by rw [HE1.out, decide_eq_false hc]; rfl))
            clear hc HE1 CS
            go_wp2_with fail
            go_quiet (fail)
            go_wp2_with fail
            go_ret
            exact ⟨ret_bool HZ.out.symm, HB.out.trans ((below_draws _ _).mono HB.out.size)⟩
        · have h3 : (a == a' && b == b') = false := by
            rw [Bool.eq_false_iff]; intro h; rw [Bool.and_eq_true, beq_iff_eq, beq_iff_eq] at h; exact he (by rw [h.1, h.2])
          have hq : ∀ w, (binOp .neq 46 (.agg #[.int .i64 a, .int .i64 b]) (.agg #[.int .i64 a', .int .i64 b'])).run Try.prog w = .ok (.bool true) w := fun w => by rw [neq_idv, h3]; rfl
          have HZ : Hid (r = false) := Lib.hid (HNX.out (by rw [HE.out, decide_eq_false he]; rfl))
          clear he h3 HE CS
          go_wp2_with fail
          go_quiet (fail)
          go_wp2_with fail
          go_ret
          exact ⟨ret_bool HZ.out.symm, HB.out.trans ((below_draws _ _).mono HB.out.size)⟩
      · obtain rfl : k = n := by omega
        have kn : ¬ (k : Int) < k := by omega
        clear hd gd
        go_wp2_with fail
        go_ret
        exact ⟨ret_bool (HXX.out fun j hj => HNo.out j (by rw [HN.out]; exact hj)).symm, HB.out⟩
  · have hr : sameR xs ys = false := by unfold sameR; rw [decide_eq_false hl]; rfl
    have hq : ((xs.length : Int) == (ys.length : Int)) = false := beq_eq_false_iff_ne.2 (by omega)
    rw [hr]
    clear hd gd h g hl hr hwx hwy
    generalize xs.length = n at hq h1
    generalize ys.length = m at hq g1
    go_enter Try.func14, Try.ntmps14
    go_wp2_with fail
    go_ret
    exact ⟨rfl, Below.refl _ _⟩

/-! ### some -/
def someOf (xs : List Itm) : Bool := (allOf xs).any fun s => !(logOf xs s).isEmpty
end Go.Proofs.Ytdnabghhjlhjoaa.Vau

/- What the document's Results gives (layer 13, vault): what all commands of items tell. Conditions: the list lies in memory as its cells say; numbers' words of 64 bits; texts of a length that Go reads; at most 100000 commands and 100000 items in all. (Written by tools/gen_vaue.py.) -/
namespace Go.Proofs.Ytdnabghhjlhjoaa.Vau
open Go.RowKit F64 Cmd Bat Cel Wid
set_option linter.unusedVariables false
set_option linter.unusedSimpArgs false

/-! ### Plain -/
def resT (xs : List Itm) (i : Nat) : List Rs := (List.range i).flatMap fun j => resB (xs.take j) (layT.at xs j).1 (layT.at xs j).2
def resOf (xs : List Itm) : List Rs := resT xs xs.length
theorem resT_succ (xs : List Itm) (i : Nat) : resT xs (i + 1) = resT xs i ++ resB (xs.take i) (layT.at xs i).1 (layT.at xs i).2 := by
  unfold resT; rw [List.range_succ, List.flatMap_append]; simp
theorem resB_len (xs : List Itm) (id : Int × Int) (cs : List Cmdn) : (resB xs id cs).length = cs.length := by unfold resB; rw [List.length_map, List.length_range]
def resP (xs : List Itm) (id : Int × Int) (cs : List Cmdn) (k : Nat) : List Rs := (List.range k).map (toldB xs id cs)
theorem resP_succ (xs : List Itm) (id : Int × Int) (cs : List Cmdn) (k : Nat) : resP xs id cs (k + 1) = resP xs id cs k ++ [toldB xs id cs k] := by
  unfold resP; rw [List.range_succ, List.map_append]; rfl
theorem resT_app (xs ys : List Itm) (i : Nat) (hi : i ≤ xs.length) : resT (xs ++ ys) i = resT xs i := by
  unfold resT
  have h : ∀ j ∈ List.range i, resB ((xs ++ ys).take j) (layT.at (xs ++ ys) j).1 (layT.at (xs ++ ys) j).2 = resB (xs.take j) (layT.at xs j).1 (layT.at xs j).2 := fun j hj => by
    have hj' : j < xs.length := Nat.lt_of_lt_of_le (List.mem_range.1 hj) hi
    have e : layT.at (xs ++ ys) j = layT.at xs j := by
      rw [layT.at_get (by rw [List.length_append]; omega), layT.at_get hj', List.getElem_append_left hj']
    rw [e, List.take_append_of_le_length (by omega)]
  rw [List.flatMap_def, List.flatMap_def, List.map_congr_left h]
theorem resOf_snoc (xs : List Itm) (x : Itm) : resOf (xs ++ [x]) = resOf xs ++ resB xs x.1 x.2 := by
  unfold resOf
  have e : layT.at (xs ++ [x]) xs.length = x := by rw [layT.at_get (by simp)]; simp
  rw [List.length_append, List.length_singleton, resT_succ, resT_app _ _ _ (Nat.le_refl _), e, List.take_left]
theorem resT_len (xs : List Itm) : ∀ i, i ≤ xs.length → (resT xs i).length = (cmdsOf (xs.take i)).length
  | 0, _ => rfl
  | i + 1, h => by
    rw [resT_succ, List.length_append, resT_len xs i (by omega), resB_len, layT.take (by omega), cmdsOf_snoc, List.length_append]
/-- Results that fit: all NaNs are one. -/
structure FitR (y r : Rs) : Prop where
  id : y.1 = r.1
  pos : y.2.1 = r.2.1
  cell : Fit y.2.2.1 y.2.2.2 r.2.2
structure Fits (ys rs : List Rs) : Prop where
  len : ys.length = rs.length
  one : ∀ j, j < ys.length → FitR (layR.at ys j) (layR.at rs j)
theorem Fits.nil : Fits [] [] := ⟨rfl, fun j hj => absurd hj (Nat.not_lt_zero _)⟩
theorem at_left {α : Type} (L : Lay α) {xs ys : List α} {j : Nat} (h : j < xs.length) : L.at (xs ++ ys) j = L.at xs j := by
  rw [L.at_get (by rw [List.length_append]; omega), L.at_get h, List.getElem_append_left h]
theorem at_right {α : Type} (L : Lay α) {xs ys : List α} {j : Nat} (h : j < ys.length) : L.at (xs ++ ys) (xs.length + j) = L.at ys j := by
  rw [L.at_get (by rw [List.length_append]; omega), L.at_get h, List.getElem_append_right (by omega)]; simp
theorem Fits.app {ys rs zs ss : List Rs} (h : Fits ys rs) (g : Fits zs ss) : Fits (ys ++ zs) (rs ++ ss) := by
  refine ⟨by rw [List.length_append, List.length_append, h.len, g.len], fun j hj => ?_⟩
  rw [List.length_append] at hj
  by_cases hj' : j < ys.length
  · rw [at_left layR hj', at_left layR (by rw [← h.len]; exact hj')]; exact h.one j hj'
  · obtain ⟨i, rfl⟩ : ∃ i, j = ys.length + i := ⟨j - ys.length, by omega⟩
    rw [at_right layR (by omega), h.len, at_right layR (by rw [← g.len]; omega)]
    exact g.one i (by omega)
theorem Fits.one1 {y r : Rs} (h : FitR y r) : Fits [y] [r] := ⟨rfl, fun j hj => by
  obtain rfl : j = 0 := by simpa using hj
  exact h⟩
theorem Fits.snoc {ys rs : List Rs} (h : Fits ys rs) {y r : Rs} (g : FitR y r) : Fits (ys ++ [y]) (rs ++ [r]) := h.app (.one1 g)
theorem Fits.wf {ys rs : List Rs} (h : Fits ys rs) : ∀ y ∈ ys, wfR y := fun y hy => by
  obtain ⟨j, hj, rfl⟩ := (Lay.mem (L := layR)).1 hy
  exact (h.one j hj).cell.lt
/-- Two lists that fit the same results are the same. -/
theorem Fits.same {ys zs rs : List Rs} (h : Fits ys rs) (g : Fits zs rs) : sameR ys zs = true := by
  refine sameR_yes (by rw [h.len, g.len]) fun j hj => ?_
  have a := h.one j hj
  have b := g.one j (by rw [g.len, ← h.len]; exact hj)
  unfold same1
  rw [decide_eq_true (a.id.trans b.id.symm), decide_eq_true (a.pos.trans b.pos.symm), Bool.true_and, Bool.true_and]
  exact alike_same (a.cell.alike.trans b.cell.alike.symm)
theorem Fits.drop {ys rs ss : List Rs} (h : Fits ys (rs ++ ss)) : Fits (ys.drop rs.length) ss := by
  have hl := h.len
  rw [List.length_append] at hl
  refine ⟨by rw [List.length_drop]; omega, fun j hj => ?_⟩
  rw [List.length_drop] at hj
  have := h.one (rs.length + j) (by omega)
  rw [at_right layR (by omega)] at this
  have e : layR.at (ys.drop rs.length) j = layR.at ys (rs.length + j) := by
    rw [layR.at_get (by rw [List.length_drop]; omega), layR.at_get (by omega), List.getElem_drop]
  rw [e]; exact this
theorem Fit.told {f g : Bool} {z y : Nat} {c : Cell2} {k : Int} {s : List UInt8} {x : Nat} (h : Fit f z c) (hd : Fit g y (doC (f, z) k s x).2) : Fit g y (doC c k s x).2 := by
  have ha := (do_alike h.alike k s x).2
  exact ⟨hd.found.trans ha.found, hd.val.trans ha.val, hd.plain, hd.lt⟩

/-! ### Items by their cells -/
abbrev Qt := (Int × Int) × (Option Addr × Nat × Nat)
def sl (q : Option Addr × Nat × Nat) : Value := .slice q.1 q.2.1 q.2.2
def layQ : Lay Qt := ⟨((0, 0), (none, 0, 0)), fun o j => o + j * 3, fun w b o x => w.cell? ⟨b, o, none⟩ = some (.int .i64 x.1.1) ∧ w.cell? ⟨b, o + 1, none⟩ = some (.int .i64 x.1.2) ∧ w.cell? ⟨b, o + 2, none⟩ = some (sl x.2),
  fun {w w' b o x} hb h ⟨h0, h1, h2⟩ => ⟨(h.cell (p := ⟨b, o, none⟩) hb).trans h0, (h.cell (p := ⟨b, o + 1, none⟩) hb).trans h1, (h.cell (p := ⟨b, o + 2, none⟩) hb).trans h2⟩⟩
def wdQ : Wd Qt where
  L := layQ
  enc x := [.int .i64 x.1.1, .int .i64 x.1.2, sl x.2]
  c := 3
  cpos := by decide
  pos _ _ := rfl
  len _ := rfl
  one _ := three_one rfl rfl rfl
  lies h := ⟨h 0 _ rfl, h 1 _ rfl, h 2 _ rfl⟩
  cells h := three_at h.1 h.2.1 h.2.2
theorem wtQ : Wt wdQ 22 52 (.agg #[.int .i64 0, .int .i64 0, .slice none 0 0]) 40 := ⟨Try.underlying22, by kernel_rfl, by kernel_rfl, by kernel_rfl, by decide⟩
/-- Which items the cells are. -/
structure Match (w : World) (qs : List Qt) (xs : List Itm) : Prop where
  len : qs.length = xs.length
  id : ∀ j, j < qs.length → (layQ.at qs j).1 = (layT.at xs j).1
  row : ∀ j, j < qs.length → layC.Row w (sl (layQ.at qs j).2) (layT.at xs j).2
theorem Match.on {w w' : World} {qs : List Qt} {xs : List Itm} (h : Match w qs xs) (hb : Below w.heap.size w w') : Match w' qs xs := ⟨h.len, h.id, fun j hj => (h.row j hj).on hb⟩
theorem Match.nil (w : World) : Match w [] [] := ⟨rfl, fun j hj => absurd hj (Nat.not_lt_zero _), fun j hj => absurd hj (Nat.not_lt_zero _)⟩
theorem Match.app {w : World} {qs ps : List Qt} {xs ys : List Itm} (h : Match w qs xs) (g : Match w ps ys) : Match w (qs ++ ps) (xs ++ ys) := by
  have hl := h.len
  have gl := g.len
  have key : ∀ j, j < (qs ++ ps).length → (layQ.at (qs ++ ps) j).1 = (layT.at (xs ++ ys) j).1 ∧ layC.Row w (sl (layQ.at (qs ++ ps) j).2) (layT.at (xs ++ ys) j).2 := fun j hj => by
    rw [List.length_append] at hj
    by_cases hj' : j < qs.length
    · rw [at_left layQ hj', at_left layT (by omega)]; exact ⟨h.id j hj', h.row j hj'⟩
    · obtain ⟨i, rfl⟩ : ∃ i, j = qs.length + i := ⟨j - qs.length, by omega⟩
      rw [at_right layQ (by omega), hl, at_right layT (by omega)]; exact ⟨g.id i (by omega), g.row i (by omega)⟩
  exact ⟨by rw [List.length_append, List.length_append, hl, gl], fun j hj => (key j hj).1, fun j hj => (key j hj).2⟩
theorem Match.one {w : World} {a b : Int} {q : Option Addr × Nat × Nat} {cs : List Cmdn} (h : layC.Row w (sl q) cs) : Match w [((a, b), q)] [((a, b), cs)] :=
  ⟨rfl, fun j hj => by obtain rfl : j = 0 := by simpa using hj
                       rfl, fun j hj => by obtain rfl : j = 0 := by simpa using hj
                                           exact h⟩
theorem Match.back {w : World} {v : Value} {qs : List Qt} {xs : List Itm} (h : layQ.Row w v qs) (m : Match w qs xs) : layT.Row w v xs := by
  obtain ⟨p, cap, rfl, h1, h2, h3⟩ := h
  refine ⟨p, cap, by rw [m.len], by rw [← m.len]; exact h1, h2, fun hz => ?_⟩
  obtain ⟨b, off, rfl, hi⟩ := h3 (by rintro rfl; exact hz (List.eq_nil_of_length_eq_zero m.len.symm))
  refine ⟨b, off, rfl, hi.lt, fun j hj => ?_⟩
  have hj' : j < qs.length := by rw [m.len]; exact hj
  obtain ⟨c0, c1, c2⟩ := hi.cell j hj'
  rw [m.id j hj'] at c0 c1
  exact ⟨c0, c1, _, c2, m.row j hj'⟩
theorem Match.of {w : World} {v : Value} {xs : List Itm} (h : layT.Row w v xs) : ∃ qs, layQ.Row w v qs ∧ Match w qs xs := by
  obtain ⟨p, cap, rfl, h1, h2, h3⟩ := h
  by_cases hz : xs = []
  · subst hz; exact ⟨[], ⟨p, cap, rfl, h1, h2, fun h => absurd rfl h⟩, .nil w⟩
  · obtain ⟨b, off, rfl, hi⟩ := h3 hz
    have ht : ∀ j : Nat, ∃ q : Option Addr × Nat × Nat, j < xs.length → w.cell? ⟨b, off + j * 3 + 2, none⟩ = some (sl q) ∧ layC.Row w (sl q) (layT.at xs j).2 := fun j => by
      by_cases hj : j < xs.length
      · obtain ⟨-, -, v, c2, hr⟩ := hi.cell j hj
        have hr' := hr
        obtain ⟨p, cap, rfl, h⟩ := hr'
        exact ⟨(p, _, cap), fun _ => ⟨c2, hr⟩⟩
      · exact ⟨(none, 0, 0), fun h => absurd h hj⟩
    obtain ⟨q, hq⟩ := Classical.axiomOfChoice ht
    have hlen : ((List.range xs.length).map fun j => (((layT.at xs j).1, q j) : Qt)).length = xs.length := by rw [List.length_map, List.length_range]
    have hat : ∀ j, j < xs.length → layQ.at ((List.range xs.length).map fun j => (((layT.at xs j).1, q j) : Qt)) j = ((layT.at xs j).1, q j) := fun j hj => by
      rw [layQ.at_get (by rw [hlen]; exact hj), List.getElem_map, List.getElem_range]
    refine ⟨_, ⟨_, cap, by rw [hlen], by rw [hlen]; exact h1, h2, fun _ => ⟨b, off, rfl, hi.lt, fun j hj => ?_⟩⟩, hlen, fun j hj => ?_, fun j hj => ?_⟩
    · rw [hlen] at hj
      rw [hat j hj]
      obtain ⟨c0, c1, -⟩ := hi.cell j hj
      exact ⟨c0, c1, (hq j hj).1⟩
    · rw [hlen] at hj; rw [hat j hj]
    · rw [hlen] at hj; rw [hat j hj]; exact (hq j hj).2
theorem cutw_some (B off cap : Nat) : cutw (some ⟨B, off, none⟩) cap = some ⟨B, off, none⟩ := by
  unfold cutw; split
  · rfl
  · simp [Addr.add_lit]
/-- A row of the call's own stays where only younger blocks turn. -/
theorem own_under {w w' : World} {N base : Nat} {e : TypeId} {size : Nat} {v : Value} {n : Nat} {xs : List Value} (h : w.ownsRow base e size v n xs) (hb : Below N w w') (hN : ∀ k, v.ownBlock = some k → k < N) : w'.ownsRow base e size v n xs :=
  ⟨h.1, h.2.imp id fun ⟨g, cap, cur, h1, h2, h3, h4⟩ => ⟨g, cap, cur, h1, h2, (hb.block g (hN g (by rw [h1]; rfl))).trans h3, h4⟩⟩
theorem lone_at {α : Type} {D : Wd α} {e : TypeId} {W : World} {g : Nat} {x : α} {cs : Array Value} (hb : W.heap[g]? = some (.cells cs e (0, 0))) (hcs : cs.toList = D.enc x) : D.L.Row W (.slice (some ⟨g, 0, none⟩) 1 1) [x] := by
  refine ⟨_, 1, rfl, Nat.le_refl _, by omega, fun _ => ⟨g, 0, rfl, (Array.getElem?_eq_some_iff.1 hb).1, fun j hj => ?_⟩⟩
  obtain rfl : j = 0 := by simpa using hj
  rw [D.L.at_get hj, D.pos, Nat.zero_mul]
  refine D.lies fun i u hu => ?_
  have hx : (D.enc x)[i]? = some u := hu
  have hi : cs[i]? = some u := by rw [← hx, ← hcs, Array.getElem?_toList]
  unfold World.cell?
  rw [hb, Nat.zero_add]
  exact hi
def GivesRes (rs : List Rs) (w : World) (E : Ending) (w' : World) : Prop := ∃ v' ys, E = .returned v' ∧ layR.Row w' v' ys ∧ Fits ys rs ∧ Below w.heap.size w w'
set_option maxHeartbeats 32000000 in
set_option maxRecDepth 100000 in
theorem rres_any (v : Value) (xs : List Itm) (w : World) (h : layT.Row w v xs) (hw : ∀ x ∈ xs, wfT x) (hl : (cmdsOf xs).length ≤ 100000) (hl2 : xs.length ≤ 100000) : Calls Try.prog 16 #[v] w (GivesRes (resOf xs) w) := by
  obtain ⟨p, cap, rfl, h1, hd⟩ := h.parts
  obtain ⟨n, hn⟩ : ∃ n, n = xs.length := ⟨_, rfl⟩
  have HROW := Lib.hid h
  have hncap : n ≤ cap := by obtain ⟨p', cap', e, g1, -, -⟩ := h; injection e with _ _ e3; subst e3; rw [hn]; exact g1
  rw [← hn] at h1 hd hl2 HROW ⊢
  have HW := Lib.hid hw
  have HN := Lib.hid hn
  have HL := Lib.hid hl
  have HT : Hid (resT xs n = resOf xs) := Lib.hid (by rw [hn]; rfl)
  have B0 := Lib.hid (Cmd.below_one w (.cells #[] 67))
  have O0 := Lib.hid (Wd.Own.made (D := wdR) 67 w (Nat.le_refl _))
  clear h hw hn hl
  go_enter Try.func16, Try.ntmps16
  go_wp2_with fail
  go_loopw [3, 4] (fun o j wr => ∃ (i : Nat) (ys : List Rs), j = .int .i64 i ∧ i ≤ n ∧ Hid (Below w.heap.size w wr) ∧ Hid (wdR.Own 67 wr w.heap.size o ys) ∧ Hid (Fits ys (resT xs i))) (fun _ j _ => n - (intOf j).toNat)
  case atStart => exact ⟨0, [], rfl, Nat.zero_le _, B0, O0, Lib.hid .nil⟩
  case round =>
    obtain ⟨i, ys, rfl, hi, HX, HF, HG⟩ := hrel
    have i00 : (0 : Int) ≤ i := by omega
    by_cases hin : i < n
    · have kn : (i : Int) < n := by omega
      obtain ⟨B, off, rfl, HC⟩ := hd.resolve_left (by omega)
      have hix : i < xs.length := by rw [← HN.out]; exact hin
      obtain ⟨a1, a2, cs, hx⟩ : ∃ a b cs, layT.at xs i = ((a, b), cs) := ⟨_, _, _, rfl⟩
      have HX1 := Lib.hid hx
      have HIX := Lib.hid hix
      have hwf := HW.out _ (layT.at_mem hix)
      rw [hx] at hwf
      have HWC := Lib.hid hwf
      have hpart := cmds_part hix
      rw [hx] at hpart
      have HLP : Hid ((resT xs i).length + cs.length ≤ 100000) := Lib.hid (by rw [resT_len xs i (by omega)]; exact Nat.le_trans hpart HL.out)
      have HWT : Hid (∀ y ∈ xs.take i ++ [((0, 0), cs)], wfT y) := Lib.hid fun y hy => by
        rcases List.mem_append.1 hy with hy | hy
        · exact HW.out y (List.mem_of_mem_take hy)
        · rw [List.mem_singleton.1 hy]; exact hwf
      obtain ⟨p', cap', hp2, hm1, hm2, hd'⟩ := partT HC.out hix hx
      obtain ⟨m, hm⟩ : ∃ m, m = cs.length := ⟨_, rfl⟩
      rw [← hm] at hp2 hm1 hd' HLP
      have HM := Lib.hid hm
      have HP2 := Lib.hid (fun W (hb : Below w.heap.size w W) => (hb.cell (p := ⟨B, off + i * 3 + 2, none⟩) HC.out.lt).trans hp2)
      have HP0 := Lib.hid (fun W (hb : Below w.heap.size w W) => cellT (HC.out.on hb) hix hx)
      have HCR : Hid (∀ W, Below w.heap.size w W → ∀ q c, p' = q → cap' = c → layC.Row W (.slice q m c) cs) := Lib.hid fun W hb q c hq hc => by
        obtain ⟨-, -, u, c2, hr⟩ := cellT (HC.out.on hb) hix hx
        have := (HP2.out W hb).symm.trans c2
        injection this with this
        rw [← hq, ← hc, this]; exact hr
      obtain ⟨wq, hwq⟩ : ∃ wq, wq = wr := ⟨_, rfl⟩
      subst hwq
      clear hx hd hwf hix hm hp2 hpart
      go_wp2_with fail
      go_loopw [3, 5] (fun o j wr => ∃ (k : Nat) (ys : List Rs), j = .int .i64 k ∧ k ≤ m ∧ Hid (Below w.heap.size w wr) ∧ Hid (wdR.Own 67 wr w.heap.size o ys) ∧ Hid (Fits ys (resT xs i ++ resP (xs.take i) (a1, a2) cs k))) (fun _ j _ => m - (intOf j).toNat)
      case atStart => exact ⟨0, ys, rfl, Nat.zero_le _, HX, HF, Lib.hid (by show Fits ys (_ ++ []); rw [List.append_nil]; exact HG.out)⟩
      case round =>
        obtain ⟨k, ys, rfl, hk, HY, HO, HZ⟩ := hrel
        have k00 : (0 : Int) ≤ k := by omega
        have e2 := HP2.out _ HY.out
        by_cases hkm : k < m
        · have km : (k : Int) < m := by omega
          obtain ⟨B', off', rfl, HD⟩ := hd'.resolve_left (by omega)
          have hkx : k < cs.length := by rw [← HM.out]; exact hkm
          obtain ⟨a, t, x, hx⟩ : ∃ a t x, layC.at cs k = (a, t, x) := ⟨_, _, _, rfl⟩
          have hwf := HWC.out _ (layC.at_mem hkx)
          rw [hx] at hwf
          have HS8 : Hid (∀ w', Below w.heap.size w w' → w'.cell? ⟨B, off + i * 3 + 2, none⟩ = some (.slice (some ⟨B', off', none⟩) m cap')) := HP2
          have HS : Hid (∀ w', Below w.heap.size w w' → w'.cell? ⟨B, off + i * 3 + 2, none⟩ = some (.slice (some ⟨B', off', none⟩) m cap') ∧ w'.cell? ⟨B', off' + k * 3, none⟩ = some (.int .i64 a) ∧ w'.cell? ⟨B', off' + k * 3 + 1, none⟩ = some (.string (str t)) ∧ w'.cell? ⟨B', off' + k * 3 + 2, none⟩ = some (.float .f64 x)) := Lib.hid fun W hb => ⟨HP2.out _ hb, cellC (HD.out.on hb) hkx hx⟩
          have hsz : w.heap.size ≤ wr.heap.size := HY.out.size
          have HOL : Hid (∀ g, Value.ownBlock u3 = some g → g < wr.heap.size) := Lib.hid fun g hg => (World.ownsRow.lt HO.out g hg).2
          have hic : i ≤ cap := by omega
          have hkc : k ≤ cap' := by omega
          obtain ⟨qs, hq1, hq2⟩ := Match.of (row_first (HROW.out.on HY.out) i (by rw [← HN.out]; exact hi))
          rw [cutw_some] at hq1
          have HQR := Lib.hid hq1
          have hqc := row_first (HCR.out _ HY.out _ _ rfl rfl) k (by rw [← HM.out]; exact hk)
          rw [cutw_some] at hqc
          have HQM : Hid (Match wr (qs ++ [((0, 0), (some ⟨B', off', none⟩, k, cap'))]) (xs.take i ++ [((0, 0), cs.take k)])) := Lib.hid (hq2.app (.one hqc))
          have hql : qs.length ≤ 100000 := by have := hq2.len; rw [List.length_take] at this; omega
          clear hq1 hq2 hqc
          have HN0 := Lib.hid ((Below.refl wr.heap.size wr).drew)
          go_upto_region 8 with fail
          go_cut [6] from 16 to 74 (fun ah wc => Hid (Below wr.heap.size wr wc) ∧ Hid (layT.Row wc ah (xs.take i ++ [((0, 0), cs.take k)])))
          case first =>
            refine wp_region_held_drew (S := (fun w' => w'.cell? ⟨B, off + i * 3 + 2, none⟩ = some (.slice (some ⟨B', off', none⟩) m cap'))) (by kernel_rfl) (HS8.out _ (HY.out.trans (HN0.out.mono hsz))) (fun hHeld => ?_)
            generalize wr.drew = W0 at HN0 hHeld ⊢
            refine wpAnyH_take (i := 1) (v := ?_) rfl (by kernel_rfl) (by kernel_rfl) (by kernel_rfl) (fun _ _ _ h => h) (Or.inl ⟨by rfl, fun w hSw => ?_⟩) (by assumption) ?_
            rotate_left
            · (try dsimp only at hSw); go_simp; (try with_reducible rfl)
            try simp only [List.getElem_toArray, List.getElem_cons_succ, List.getElem_cons_zero, Act.put, List.setIfInBounds_toArray, List.set_cons_zero, List.set_cons_succ]
            refine wpAnyH_take (i := 2) (v := ?_) rfl (by kernel_rfl) (by kernel_rfl) (by kernel_rfl) (fun _ _ _ h => h) (Or.inl ⟨by rfl, fun w hSw => ?_⟩) (by assumption) ?_
            rotate_left
            · (try dsimp only at hSw); go_simp; (try with_reducible rfl)
            try simp only [List.getElem_toArray, List.getElem_cons_succ, List.getElem_cons_zero, Act.put, List.setIfInBounds_toArray, List.set_cons_zero, List.set_cons_succ]
            refine wpAnyH_take (i := 3) (v := ?_) rfl (by kernel_rfl) (by kernel_rfl) (by kernel_rfl) (fun _ _ _ h => h) (Or.inl ⟨by rfl, fun w hSw => ?_⟩) (by assumption) ?_
            rotate_left
            · (try dsimp only at hSw); go_simp; (try with_reducible rfl)
            try simp only [List.getElem_toArray, List.getElem_cons_succ, List.getElem_cons_zero, Act.put, List.setIfInBounds_toArray, List.set_cons_zero, List.set_cons_succ]
            refine wpAnyH_take (i := 5) (v := ?_) rfl (by kernel_rfl) (by kernel_rfl) (by kernel_rfl) (fun _ _ _ h => h) (Or.inl ⟨by rfl, fun w hSw => ?_⟩) (by assumption) ?_
            rotate_left
            · (try dsimp only at hSw); go_simp; (try with_reducible rfl)
            try simp only [List.getElem_toArray, List.getElem_cons_succ, List.getElem_cons_zero, Act.put, List.setIfInBounds_toArray, List.set_cons_zero, List.set_cons_succ]
            refine wpAnyH_take (i := 6) (v := ?_) rfl (by kernel_rfl) (by kernel_rfl) (by kernel_rfl) (fun _ _ _ h => h) (Or.inl ⟨by rfl, fun w hSw => ?_⟩) (by assumption) ?_
            rotate_left
            · (try dsimp only at hSw); go_simp; (try with_reducible rfl)
            try simp only [List.getElem_toArray, List.getElem_cons_succ, List.getElem_cons_zero, Act.put, List.setIfInBounds_toArray, List.set_cons_zero, List.set_cons_succ]
            refine wpAnyH_take (i := 7) (v := ?_) rfl (by kernel_rfl) (by kernel_rfl) (by kernel_rfl) (fun _ _ _ h => h) (Or.inl ⟨by rfl, fun w hSw => ?_⟩) (by assumption) ?_
            rotate_left
            · (try dsimp only at hSw); go_simp; (try with_reducible rfl)
            try simp only [List.getElem_toArray, List.getElem_cons_succ, List.getElem_cons_zero, Act.put, List.setIfInBounds_toArray, List.set_cons_zero, List.set_cons_succ]
            refine wpAnyH_take (i := 8) (v := ?_) rfl (by kernel_rfl) (by kernel_rfl) (by kernel_rfl) (fun _ _ _ h => h) (Or.inl ⟨by rfl, fun w hSw => ?_⟩) (by assumption) ?_
            rotate_left
            · (try dsimp only at hSw); go_simp; (try with_reducible rfl)
            try simp only [List.getElem_toArray, List.getElem_cons_succ, List.getElem_cons_zero, Act.put, List.setIfInBounds_toArray, List.set_cons_zero, List.set_cons_succ]
            refine wpAnyH_take (i := 9) (v := ?_) rfl (by kernel_rfl) (by kernel_rfl) (by kernel_rfl) (fun _ _ _ h => h) (Or.inl ⟨by rfl, fun w hSw => ?_⟩) (by assumption) ?_
            rotate_left
            · (try dsimp only at hSw); go_simp; (try with_reducible rfl)
            try simp only [List.getElem_toArray, List.getElem_cons_succ, List.getElem_cons_zero, Act.put, List.setIfInBounds_toArray, List.set_cons_zero, List.set_cons_succ]
            refine wpAnyH_take (i := 10) (v := ?_) rfl (by kernel_rfl) (by kernel_rfl) (by kernel_rfl) (fun _ _ _ h => h) (Or.inl ⟨by rfl, fun w hSw => ?_⟩) (by assumption) ?_
            rotate_left
            · (try dsimp only at hSw); go_simp; (try with_reducible rfl)
            try simp only [List.getElem_toArray, List.getElem_cons_succ, List.getElem_cons_zero, Act.put, List.setIfInBounds_toArray, List.set_cons_zero, List.set_cons_succ]
            refine wpAnyH_take (i := 11) (v := ?_) rfl (by kernel_rfl) (by kernel_rfl) (by kernel_rfl) (fun _ _ _ h => h) (Or.inl ⟨by rfl, fun w hSw => ?_⟩) (by assumption) ?_
            rotate_left
            · (try dsimp only at hSw); go_simp; (try with_reducible rfl)
            try simp only [List.getElem_toArray, List.getElem_cons_succ, List.getElem_cons_zero, Act.put, List.setIfInBounds_toArray, List.set_cons_zero, List.set_cons_succ]
            refine wpAnyH_take (i := 12) (v := ?_) rfl (by kernel_rfl) (by kernel_rfl) (by kernel_rfl) (fun _ _ _ h => h) (Or.inl ⟨by rfl, fun w hSw => ?_⟩) (by assumption) ?_
            rotate_left
            · (try dsimp only at hSw); go_simp; (try with_reducible rfl)
            try simp only [List.getElem_toArray, List.getElem_cons_succ, List.getElem_cons_zero, Act.put, List.setIfInBounds_toArray, List.set_cons_zero, List.set_cons_succ]
            refine wpAnyH_ready (rs := [0, 13]) (by kernel_rfl) (by simp) ?_
            refine AllReadyH.cons rfl (fun K hK => ?_) ?_
            · go_simp
              have HN1 := Lib.hid (HN0.out.alloc HN0.out.size (.cells #[] 52))
              have HA1 := Lib.hid (Wd.Own.made (D := wdQ) 52 W0 HN0.out.size)
              refine hK.out _ _ ?_ (fun hHeld => ?_)
              · exact HS8.out _ (HY.out.trans (HN1.out.mono hsz))
              clear hK K
              generalize W0.alloc (.cells #[] 52) = W1 at HN1 HA1 hHeld ⊢
              try simp only [List.getElem_toArray, List.getElem_cons_succ, List.getElem_cons_zero, Act.put, List.setIfInBounds_toArray, List.set_cons_zero, List.set_cons_succ]
              refine wpAnyH_ready (rs := [4, 13]) (by kernel_rfl) (by simp) ?_
              refine AllReadyH.cons rfl (fun K hK => ?_) ?_
              · refine step_wide wtQ (by rfl) (.tmp 26) (.tmp 29) (by rfl) wr.heap.size _ _ (by rfl) HA1.out HN1.out.size _ qs (by rfl) (HQR.out.on HN1.out) (by rw [List.length_nil]; omega) ?_
                intro v4 W2 o1 o2 o3
                have HN2 := Lib.hid (HN1.out.trans o2.out)
                refine hK.out _ _ ?_ (fun hHeld => ?_)
                · exact HS8.out _ (HY.out.trans (HN2.out.mono hsz))
                clear hK K
                try simp only [List.getElem_toArray, List.getElem_cons_succ, List.getElem_cons_zero, Act.put, List.setIfInBounds_toArray, List.set_cons_zero, List.set_cons_succ]
                refine wpAnyH_ready (rs := [13]) (by kernel_rfl) (by simp) ?_
                refine AllReadyH.cons rfl (fun K hK => ?_) ?_
                · go_simp
                  have HN3 := Lib.hid (HN2.out.alloc HN2.out.size (.cells #[.int .i64 0, .int .i64 0, .slice (some ⟨B', off', none⟩) k cap'] 52))
                  have HE3 := Lib.hid (heap_alloc_new W2 (.cells #[.int .i64 0, .int .i64 0, .slice (some ⟨B', off', none⟩) k cap'] 52))
                  have HA3 := Lib.hid (o1.out.below (Cmd.below_one W2 (.cells #[.int .i64 0, .int .i64 0, .slice (some ⟨B', off', none⟩) k cap'] 52)))
                  refine hK.out _ _ ?_ (fun hHeld => ?_)
                  · exact HS8.out _ (HY.out.trans (HN3.out.mono hsz))
                  clear hK K
                  generalize W2.alloc (.cells #[.int .i64 0, .int .i64 0, .slice (some ⟨B', off', none⟩) k cap'] 52) = W3 at HN3 HE3 HA3 hHeld ⊢
                  try simp only [List.getElem_toArray, List.getElem_cons_succ, List.getElem_cons_zero, Act.put, List.setIfInBounds_toArray, List.set_cons_zero, List.set_cons_succ]
                  refine wpAnyH_ready (rs := [14]) (by kernel_rfl) (by simp) ?_
                  refine AllReadyH.cons rfl (fun K hK => ?_) ?_
                  · refine step_wide wtQ (by rfl) (.tmp 30) (.tmp 39) (by rfl) wr.heap.size _ _ (by rfl) HA3.out HN3.out.size _ [((0, 0), (some ⟨B', off', none⟩, k, cap'))] (by rfl) (lone_at (D := wdQ) HE3.out rfl) (by simp; omega) ?_
                    intro v5 W4 o5 o6 o7
                    have HN4 := Lib.hid (HN3.out.trans o6.out)
                    refine hK.out _ _ ?_ (fun hHeld => ?_)
                    · exact HS8.out _ (HY.out.trans (HN4.out.mono hsz))
                    clear hK K
                    try simp only [List.getElem_toArray, List.getElem_cons_succ, List.getElem_cons_zero, Act.put, List.setIfInBounds_toArray, List.set_cons_zero, List.set_cons_succ]
                    refine wpAnyH_take (i := 15) (v := ?_) rfl (by kernel_rfl) (by kernel_rfl) (by kernel_rfl) (fun _ _ _ h => h) (Or.inl ⟨by rfl, fun w hSw => ?_⟩) (by assumption) ?_
                    rotate_left
                    · (try dsimp only at hSw); go_simp; (try with_reducible rfl)
                    try simp only [List.getElem_toArray, List.getElem_cons_succ, List.getElem_cons_zero, Act.put, List.setIfInBounds_toArray, List.set_cons_zero, List.set_cons_succ]
                    refine wpAnyH_done (by kernel_rfl) ?_ _
                    go_wp2_with fail
                    go_meet
                    case rel => exact ⟨HN4, Lib.hid (Match.back (by have := o5.out.row; rw [List.nil_append] at this; exact this) (HQM.out.on HN4.out))⟩
                  exact AllReadyH.nil
                exact AllReadyH.nil
              refine AllReadyH.cons rfl (fun K hK => ?_) ?_
              · go_simp
                have HN2 := Lib.hid (HN1.out.alloc HN1.out.size (.cells #[.int .i64 0, .int .i64 0, .slice (some ⟨B', off', none⟩) k cap'] 52))
                have HE2 := Lib.hid (heap_alloc_new W1 (.cells #[.int .i64 0, .int .i64 0, .slice (some ⟨B', off', none⟩) k cap'] 52))
                have HA2 := Lib.hid (HA1.out.below (Cmd.below_one W1 (.cells #[.int .i64 0, .int .i64 0, .slice (some ⟨B', off', none⟩) k cap'] 52)))
                have hne : W1.heap.size ≠ W0.heap.size := Nat.ne_of_gt (World.ownsRow.lt HA1.out _ rfl).2
                refine hK.out _ _ ?_ (fun hHeld => ?_)
                · exact HS8.out _ (HY.out.trans (HN2.out.mono hsz))
                clear hK K
                generalize W1.alloc (.cells #[.int .i64 0, .int .i64 0, .slice (some ⟨B', off', none⟩) k cap'] 52) = W2 at HN2 HE2 HA2 hHeld ⊢
                try simp only [List.getElem_toArray, List.getElem_cons_succ, List.getElem_cons_zero, Act.put, List.setIfInBounds_toArray, List.set_cons_zero, List.set_cons_succ]
                refine wpAnyH_ready (rs := [4]) (by kernel_rfl) (by simp) ?_
                refine AllReadyH.cons rfl (fun K hK => ?_) ?_
                · refine step_wide wtQ (by rfl) (.tmp 26) (.tmp 29) (by rfl) wr.heap.size _ _ (by rfl) HA2.out HN2.out.size _ qs (by rfl) (HQR.out.on HN2.out) (by rw [List.length_nil]; omega) ?_
                  intro v4 W3 o1 o2 o3
                  have HN3 := Lib.hid (HN2.out.trans o2.out)
                  have HE3 := Lib.hid ((o3.out.block W1.heap.size (Array.getElem?_eq_some_iff.1 HE2.out).1 (by intro e; injection e with e; exact hne e)).trans HE2.out)
                  refine hK.out _ _ ?_ (fun hHeld => ?_)
                  · exact HS8.out _ (HY.out.trans (HN3.out.mono hsz))
                  clear hK K
                  try simp only [List.getElem_toArray, List.getElem_cons_succ, List.getElem_cons_zero, Act.put, List.setIfInBounds_toArray, List.set_cons_zero, List.set_cons_succ]
                  refine wpAnyH_ready (rs := [14]) (by kernel_rfl) (by simp) ?_
                  refine AllReadyH.cons rfl (fun K hK => ?_) ?_
                  · refine step_wide wtQ (by rfl) (.tmp 30) (.tmp 39) (by rfl) wr.heap.size _ _ (by rfl) o1.out HN3.out.size _ [((0, 0), (some ⟨B', off', none⟩, k, cap'))] (by rfl) (lone_at (D := wdQ) HE3.out rfl) (by simp; omega) ?_
                    intro v5 W4 o5 o6 o7
                    have HN4 := Lib.hid (HN3.out.trans o6.out)
                    refine hK.out _ _ ?_ (fun hHeld => ?_)
                    · exact HS8.out _ (HY.out.trans (HN4.out.mono hsz))
                    clear hK K
                    try simp only [List.getElem_toArray, List.getElem_cons_succ, List.getElem_cons_zero, Act.put, List.setIfInBounds_toArray, List.set_cons_zero, List.set_cons_succ]
                    refine wpAnyH_take (i := 15) (v := ?_) rfl (by kernel_rfl) (by kernel_rfl) (by kernel_rfl) (fun _ _ _ h => h) (Or.inl ⟨by rfl, fun w hSw => ?_⟩) (by assumption) ?_
                    rotate_left
                    · (try dsimp only at hSw); go_simp; (try with_reducible rfl)
                    try simp only [List.getElem_toArray, List.getElem_cons_succ, List.getElem_cons_zero, Act.put, List.setIfInBounds_toArray, List.set_cons_zero, List.set_cons_succ]
                    refine wpAnyH_done (by kernel_rfl) ?_ _
                    go_wp2_with fail
                    go_meet
                    case rel => exact ⟨HN4, Lib.hid (Match.back (by have := o5.out.row; rw [List.nil_append] at this; exact this) (HQM.out.on HN4.out))⟩
                  exact AllReadyH.nil
                exact AllReadyH.nil
              exact AllReadyH.nil
            refine AllReadyH.cons rfl (fun K hK => ?_) ?_
            · go_simp
              have HN1 := Lib.hid (HN0.out.alloc HN0.out.size (.cells #[.int .i64 0, .int .i64 0, .slice (some ⟨B', off', none⟩) k cap'] 52))
              have HE1 := Lib.hid (heap_alloc_new W0 (.cells #[.int .i64 0, .int .i64 0, .slice (some ⟨B', off', none⟩) k cap'] 52))
              refine hK.out _ _ ?_ (fun hHeld => ?_)
              · exact HS8.out _ (HY.out.trans (HN1.out.mono hsz))
              clear hK K
              generalize W0.alloc (.cells #[.int .i64 0, .int .i64 0, .slice (some ⟨B', off', none⟩) k cap'] 52) = W1 at HN1 HE1 hHeld ⊢
              try simp only [List.getElem_toArray, List.getElem_cons_succ, List.getElem_cons_zero, Act.put, List.setIfInBounds_toArray, List.set_cons_zero, List.set_cons_succ]
              refine wpAnyH_ready (rs := [0]) (by kernel_rfl) (by simp) ?_
              refine AllReadyH.cons rfl (fun K hK => ?_) ?_
              · go_simp
                have HN2 := Lib.hid (HN1.out.alloc HN1.out.size (.cells #[] 52))
                have HA2 := Lib.hid (Wd.Own.made (D := wdQ) 52 W1 HN1.out.size)
                have HE2 := Lib.hid (((Below.refl _ W1).alloc (Nat.le_refl _) (.cells #[] 52)).block _ (Array.getElem?_eq_some_iff.1 HE1.out).1 |>.trans HE1.out)
                have hne : W0.heap.size ≠ W1.heap.size := by have := (Array.getElem?_eq_some_iff.1 HE1.out).1; omega
                refine hK.out _ _ ?_ (fun hHeld => ?_)
                · exact HS8.out _ (HY.out.trans (HN2.out.mono hsz))
                clear hK K
                generalize W1.alloc (.cells #[] 52) = W2 at HN2 HA2 HE2 hHeld ⊢
                try simp only [List.getElem_toArray, List.getElem_cons_succ, List.getElem_cons_zero, Act.put, List.setIfInBounds_toArray, List.set_cons_zero, List.set_cons_succ]
                refine wpAnyH_ready (rs := [4]) (by kernel_rfl) (by simp) ?_
                refine AllReadyH.cons rfl (fun K hK => ?_) ?_
                · refine step_wide wtQ (by rfl) (.tmp 26) (.tmp 29) (by rfl) wr.heap.size _ _ (by rfl) HA2.out HN2.out.size _ qs (by rfl) (HQR.out.on HN2.out) (by rw [List.length_nil]; omega) ?_
                  intro v4 W3 o1 o2 o3
                  have HN3 := Lib.hid (HN2.out.trans o2.out)
                  have HE3 := Lib.hid ((o3.out.block W0.heap.size (Array.getElem?_eq_some_iff.1 HE2.out).1 (by intro e; injection e with e; exact hne e)).trans HE2.out)
                  refine hK.out _ _ ?_ (fun hHeld => ?_)
                  · exact HS8.out _ (HY.out.trans (HN3.out.mono hsz))
                  clear hK K
                  try simp only [List.getElem_toArray, List.getElem_cons_succ, List.getElem_cons_zero, Act.put, List.setIfInBounds_toArray, List.set_cons_zero, List.set_cons_succ]
                  refine wpAnyH_ready (rs := [14]) (by kernel_rfl) (by simp) ?_
                  refine AllReadyH.cons rfl (fun K hK => ?_) ?_
                  · refine step_wide wtQ (by rfl) (.tmp 30) (.tmp 39) (by rfl) wr.heap.size _ _ (by rfl) o1.out HN3.out.size _ [((0, 0), (some ⟨B', off', none⟩, k, cap'))] (by rfl) (lone_at (D := wdQ) HE3.out rfl) (by simp; omega) ?_
                    intro v5 W4 o5 o6 o7
                    have HN4 := Lib.hid (HN3.out.trans o6.out)
                    refine hK.out _ _ ?_ (fun hHeld => ?_)
                    · exact HS8.out _ (HY.out.trans (HN4.out.mono hsz))
                    clear hK K
                    try simp only [List.getElem_toArray, List.getElem_cons_succ, List.getElem_cons_zero, Act.put, List.setIfInBounds_toArray, List.set_cons_zero, List.set_cons_succ]
                    refine wpAnyH_take (i := 15) (v := ?_) rfl (by kernel_rfl) (by kernel_rfl) (by kernel_rfl) (fun _ _ _ h => h) (Or.inl ⟨by rfl, fun w hSw => ?_⟩) (by assumption) ?_
                    rotate_left
                    · (try dsimp only at hSw); go_simp; (try with_reducible rfl)
                    try simp only [List.getElem_toArray, List.getElem_cons_succ, List.getElem_cons_zero, Act.put, List.setIfInBounds_toArray, List.set_cons_zero, List.set_cons_succ]
                    refine wpAnyH_done (by kernel_rfl) ?_ _
                    go_wp2_with fail
                    go_meet
                    case rel => exact ⟨HN4, Lib.hid (Match.back (by have := o5.out.row; rw [List.nil_append] at this; exact this) (HQM.out.on HN4.out))⟩
                  exact AllReadyH.nil
                exact AllReadyH.nil
              exact AllReadyH.nil
            exact AllReadyH.nil
          case rest =>
            obtain ⟨HN8, HAH⟩ := hcut
            obtain ⟨wd, hwd⟩ : ∃ wd, wd = wc := ⟨_, rfl⟩
            subst hwd
            have HY9 := Lib.hid (HY.out.trans (HN8.out.mono hsz))
            have hsz9 : w.heap.size ≤ wd.heap.size := HY9.out.size
            have HO9 : Hid (wdR.Own 67 wd w.heap.size u3 ys) := Lib.hid (own_under HO.out HN8.out HOL.out)
            have HOL9 : Hid (∀ g, Value.ownBlock u3 = some g → g < wd.heap.size) := Lib.hid fun g hg => (World.ownsRow.lt HO9.out g hg).2
            have hwa : ∀ y ∈ xs.take i ++ [((0, 0), cs.take k)], wfT y := fun y hy => by
              rcases List.mem_append.1 hy with hy | hy
              · exact HW.out y (List.mem_of_mem_take hy)
              · rw [List.mem_singleton.1 hy]; exact fun c hc => HWC.out c (List.mem_of_mem_take hc)
            have CC := Lib.hid (fun W (hb : Below wd.heap.size wd W) => rcell_any u6 _ t W (HAH.out.on hb) hwa)
            have CD : Hid (∀ f z, Fit f z (cellOf (xs.take i ++ [((0, 0), cs.take k)]) t) → ∀ W, Calls Try.prog 24 #[.agg #[.bool f, .float .f64 z], .agg #[.int .i64 a, .string (str t), .float .f64 x]] W (GivesDo (doC (f, z) a t x) W)) := Lib.hid fun f z hf W => refdo_any (f, z) a t x W hf.lt hwf.1 (by have := hwf.2; simp only [] at this; omega)
            have HTD : Hid (toldB (xs.take i) (a1, a2) cs k = ((a1, a2), (k : Int), (doC (cellOf (xs.take i ++ [((0, 0), cs.take k)]) t) a t x).2)) := Lib.hid (by unfold toldB; rw [hx, cellOf_snoc])
            clear hwa hwf hx
            generalize cellOf (xs.take i ++ [((0, 0), cs.take k)]) t = c at CC CD HTD
            clear HAH
            have HN0 := Lib.hid ((Below.refl wd.heap.size wd).drew)
            go_upto_region 9 with fail
            go_cut [7, 8] from 16 to 74 (fun _ p8 wx => ∃ (g : Nat) (f : Bool) (z : Nat), p8 = .pointer (some ⟨g, 0, none⟩) ∧ wd.heap.size ≤ g ∧ Hid (Below wd.heap.size wd wx) ∧ Hid (Bx g f z wx) ∧ Hid (Fit f z (doC c a t x).2))
            case first =>
              refine wp_region_held_drew (S := (fun w' => w'.cell? ⟨B, off + i * 3 + 2, none⟩ = some (.slice (some ⟨B', off', none⟩) m cap') ∧ w'.cell? ⟨B', off' + k * 3, none⟩ = some (.int .i64 a) ∧ w'.cell? ⟨B', off' + k * 3 + 1, none⟩ = some (.string (str t)) ∧ w'.cell? ⟨B', off' + k * 3 + 2, none⟩ = some (.float .f64 x))) (by kernel_rfl) (HS.out _ (HY9.out.trans (HN0.out.mono hsz9))) (fun hHeld => ?_)
              generalize wd.drew = W0 at HN0 hHeld ⊢
              refine wpAnyH_take (i := 0) (v := ?_) rfl (by kernel_rfl) (by kernel_rfl) (by kernel_rfl) (fun _ _ _ h => h) (Or.inl ⟨by rfl, fun w hSw => ?_⟩) (by assumption) ?_
              rotate_left
              · (try dsimp only at hSw); go_simp; (try with_reducible rfl)
              try simp only [List.getElem_toArray, List.getElem_cons_succ, List.getElem_cons_zero, Act.put, List.setIfInBounds_toArray, List.set_cons_zero, List.set_cons_succ]
              refine wpAnyH_take (i := 1) (v := ?_) rfl (by kernel_rfl) (by kernel_rfl) (by kernel_rfl) (fun _ _ _ h => h) (Or.inl ⟨by rfl, fun w hSw => ?_⟩) (by assumption) ?_
              rotate_left
              · (try dsimp only at hSw); go_simp; (try with_reducible rfl)
              try simp only [List.getElem_toArray, List.getElem_cons_succ, List.getElem_cons_zero, Act.put, List.setIfInBounds_toArray, List.set_cons_zero, List.set_cons_succ]
              refine wpAnyH_take (i := 2) (v := ?_) rfl (by kernel_rfl) (by kernel_rfl) (by kernel_rfl) (fun _ _ _ h => h) (Or.inl ⟨by rfl, fun w hSw => ?_⟩) (by assumption) ?_
              rotate_left
              · (try dsimp only at hSw); go_simp; (try with_reducible rfl)
              try simp only [List.getElem_toArray, List.getElem_cons_succ, List.getElem_cons_zero, Act.put, List.setIfInBounds_toArray, List.set_cons_zero, List.set_cons_succ]
              refine wpAnyH_take (i := 3) (v := ?_) rfl (by kernel_rfl) (by kernel_rfl) (by kernel_rfl) (fun _ _ _ h => h) (Or.inl ⟨by rfl, fun w hSw => ?_⟩) (by assumption) ?_
              rotate_left
              · (try dsimp only at hSw); go_simp; (try with_reducible rfl)
              try simp only [List.getElem_toArray, List.getElem_cons_succ, List.getElem_cons_zero, Act.put, List.setIfInBounds_toArray, List.set_cons_zero, List.set_cons_succ]
              refine wpAnyH_take (i := 4) (v := ?_) rfl (by kernel_rfl) (by kernel_rfl) (by kernel_rfl) (fun _ _ _ h => h) (Or.inl ⟨by rfl, fun w hSw => ?_⟩) (by assumption) ?_
              rotate_left
              · (try dsimp only at hSw); go_simp; (try with_reducible rfl)
              try simp only [List.getElem_toArray, List.getElem_cons_succ, List.getElem_cons_zero, Act.put, List.setIfInBounds_toArray, List.set_cons_zero, List.set_cons_succ]
              refine wpAnyH_take (i := 5) (v := ?_) rfl (by kernel_rfl) (by kernel_rfl) (by kernel_rfl) (fun _ _ _ h => h) (Or.inl ⟨by rfl, fun w hSw => ?_⟩) (by assumption) ?_
              rotate_left
              · (try dsimp only at hSw); go_simp; (try with_reducible rfl)
              try simp only [List.getElem_toArray, List.getElem_cons_succ, List.getElem_cons_zero, Act.put, List.setIfInBounds_toArray, List.set_cons_zero, List.set_cons_succ]
              refine wpAnyH_take (i := 6) (v := ?_) rfl (by kernel_rfl) (by kernel_rfl) (by kernel_rfl) (fun _ _ _ h => h) (Or.inl ⟨by rfl, fun w hSw => ?_⟩) (by assumption) ?_
              rotate_left
              · (try dsimp only at hSw); go_simp; (try with_reducible rfl)
              try simp only [List.getElem_toArray, List.getElem_cons_succ, List.getElem_cons_zero, Act.put, List.setIfInBounds_toArray, List.set_cons_zero, List.set_cons_succ]
              refine wpAnyH_take (i := 7) (v := ?_) rfl (by kernel_rfl) (by kernel_rfl) (by kernel_rfl) (fun _ _ _ h => h) (Or.inl ⟨by rfl, fun w hSw => ?_⟩) (by assumption) ?_
              rotate_left
              · (try dsimp only at hSw); go_simp; (try with_reducible rfl)
              try simp only [List.getElem_toArray, List.getElem_cons_succ, List.getElem_cons_zero, Act.put, List.setIfInBounds_toArray, List.set_cons_zero, List.set_cons_succ]
              refine wpAnyH_take (i := 8) (v := ?_) rfl (by kernel_rfl) (by kernel_rfl) (by kernel_rfl) (fun _ _ _ h => h) (Or.inl ⟨by rfl, fun w hSw => ?_⟩) (by assumption) ?_
              rotate_left
              · (try dsimp only at hSw); go_simp; (try with_reducible rfl)
              try simp only [List.getElem_toArray, List.getElem_cons_succ, List.getElem_cons_zero, Act.put, List.setIfInBounds_toArray, List.set_cons_zero, List.set_cons_succ]
              refine wpAnyH_take (i := 9) (v := ?_) rfl (by kernel_rfl) (by kernel_rfl) (by kernel_rfl) (fun _ _ _ h => h) (Or.inl ⟨by rfl, fun w hSw => ?_⟩) (by assumption) ?_
              rotate_left
              · (try dsimp only at hSw); go_simp; (try with_reducible rfl)
              try simp only [List.getElem_toArray, List.getElem_cons_succ, List.getElem_cons_zero, Act.put, List.setIfInBounds_toArray, List.set_cons_zero, List.set_cons_succ]
              refine wpAnyH_take (i := 11) (v := ?_) rfl (by kernel_rfl) (by kernel_rfl) (by kernel_rfl) (fun _ _ _ h => h) (Or.inl ⟨by rfl, fun w hSw => ?_⟩) (by assumption) ?_
              rotate_left
              · (try dsimp only at hSw); go_simp; (try with_reducible rfl)
              try simp only [List.getElem_toArray, List.getElem_cons_succ, List.getElem_cons_zero, Act.put, List.setIfInBounds_toArray, List.set_cons_zero, List.set_cons_succ]
              refine wpAnyH_take (i := 12) (v := ?_) rfl (by kernel_rfl) (by kernel_rfl) (by kernel_rfl) (fun _ _ _ h => h) (Or.inl ⟨by rfl, fun w hSw => ?_⟩) (by assumption) ?_
              rotate_left
              · (try dsimp only at hSw); go_simp; (try with_reducible rfl)
              try simp only [List.getElem_toArray, List.getElem_cons_succ, List.getElem_cons_zero, Act.put, List.setIfInBounds_toArray, List.set_cons_zero, List.set_cons_succ]
              refine wpAnyH_take (i := 13) (v := ?_) rfl (by kernel_rfl) (by kernel_rfl) (by kernel_rfl) (fun _ _ _ h => h) (Or.inl ⟨by rfl, fun w hSw => ?_⟩) (by assumption) ?_
              rotate_left
              · (try dsimp only at hSw); go_simp; (try with_reducible rfl)
              try simp only [List.getElem_toArray, List.getElem_cons_succ, List.getElem_cons_zero, Act.put, List.setIfInBounds_toArray, List.set_cons_zero, List.set_cons_succ]
              refine wpAnyH_take (i := 14) (v := ?_) rfl (by kernel_rfl) (by kernel_rfl) (by kernel_rfl) (fun _ _ _ h => h) (Or.inl ⟨by rfl, fun w hSw => ?_⟩) (by assumption) ?_
              rotate_left
              · (try dsimp only at hSw); go_simp; (try with_reducible rfl)
              try simp only [List.getElem_toArray, List.getElem_cons_succ, List.getElem_cons_zero, Act.put, List.setIfInBounds_toArray, List.set_cons_zero, List.set_cons_succ]
              refine wpAnyH_take (i := 15) (v := ?_) rfl (by kernel_rfl) (by kernel_rfl) (by kernel_rfl) (fun _ _ _ h => h) (Or.inl ⟨by rfl, fun w hSw => ?_⟩) (by assumption) ?_
              rotate_left
              · (try dsimp only at hSw); go_simp; (try with_reducible rfl)
              try simp only [List.getElem_toArray, List.getElem_cons_succ, List.getElem_cons_zero, Act.put, List.setIfInBounds_toArray, List.set_cons_zero, List.set_cons_succ]
              refine wpAnyH_take (i := 16) (v := ?_) rfl (by kernel_rfl) (by kernel_rfl) (by kernel_rfl) (fun _ _ _ h => h) (Or.inl ⟨by rfl, fun w hSw => ?_⟩) (by assumption) ?_
              rotate_left
              · (try dsimp only at hSw); go_simp; (try with_reducible rfl)
              try simp only [List.getElem_toArray, List.getElem_cons_succ, List.getElem_cons_zero, Act.put, List.setIfInBounds_toArray, List.set_cons_zero, List.set_cons_succ]
              refine wpAnyH_take (i := 17) (v := ?_) rfl (by kernel_rfl) (by kernel_rfl) (by kernel_rfl) (fun _ _ _ h => h) (Or.inl ⟨by rfl, fun w hSw => ?_⟩) (by assumption) ?_
              rotate_left
              · (try dsimp only at hSw); go_simp; (try with_reducible rfl)
              try simp only [List.getElem_toArray, List.getElem_cons_succ, List.getElem_cons_zero, Act.put, List.setIfInBounds_toArray, List.set_cons_zero, List.set_cons_succ]
              refine wpAnyH_take (i := 18) (v := ?_) rfl (by kernel_rfl) (by kernel_rfl) (by kernel_rfl) (fun _ _ _ h => h) (Or.inl ⟨by rfl, fun w hSw => ?_⟩) (by assumption) ?_
              rotate_left
              · (try dsimp only at hSw); go_simp; (try with_reducible rfl)
              try simp only [List.getElem_toArray, List.getElem_cons_succ, List.getElem_cons_zero, Act.put, List.setIfInBounds_toArray, List.set_cons_zero, List.set_cons_succ]
              refine wpAnyH_ready (rs := [10, 23, 24]) (by kernel_rfl) (by simp) ?_
              refine AllReadyH.cons rfl (fun K hK => ?_) ?_
              · go_simp
                (go_at_call 10; (with_reducible refine (CC.out _ HN0.out).mono ?_); rintro E W1 ⟨f1, z1, rfl, hf, hb⟩; have HF1 := Lib.hid hf; have HN1 := Lib.hid (HN0.out.trans (hb.mono HN0.out.size)); clear hf hb)
                refine hK.out _ _ ?_ (fun hHeld => ?_)
                · exact HS.out _ (HY9.out.trans (HN1.out.mono hsz9))
                clear hK K
                try simp only [List.getElem_toArray, List.getElem_cons_succ, List.getElem_cons_zero, Act.put, List.setIfInBounds_toArray, List.set_cons_zero, List.set_cons_succ]
                refine wpAnyH_ready (rs := [19, 23, 24]) (by kernel_rfl) (by simp) ?_
                refine AllReadyH.cons rfl (fun K hK => ?_) ?_
                · go_simp
                  (go_at_call 24; (with_reducible refine (CD.out _ _ HF1.out _).mono ?_); rintro E W2 ⟨f2, z2, f3, z3, rfl, hf2, hf, hb⟩; have HF3 := Lib.hid (Fit.told HF1.out hf); clear hf2; have HN2 := Lib.hid (HN1.out.trans (hb.mono HN1.out.size)); clear hf hb)
                  refine hK.out _ _ ?_ (fun hHeld => ?_)
                  · exact HS.out _ (HY9.out.trans (HN2.out.mono hsz9))
                  clear hK K
                  try simp only [List.getElem_toArray, List.getElem_cons_succ, List.getElem_cons_zero, Act.put, List.setIfInBounds_toArray, List.set_cons_zero, List.set_cons_succ]
                  refine wpAnyH_take (i := 20) (v := ?_) rfl (by kernel_rfl) (by kernel_rfl) (by kernel_rfl) (fun _ _ _ h => h) (Or.inl ⟨by rfl, fun w hSw => ?_⟩) (by assumption) ?_
                  rotate_left
                  · (try dsimp only at hSw); go_simp; (try with_reducible rfl)
                  try simp only [List.getElem_toArray, List.getElem_cons_succ, List.getElem_cons_zero, Act.put, List.setIfInBounds_toArray, List.set_cons_zero, List.set_cons_succ]
                  refine wpAnyH_take (i := 21) (v := ?_) rfl (by kernel_rfl) (by kernel_rfl) (by kernel_rfl) (fun _ _ _ h => h) (Or.inl ⟨by rfl, fun w hSw => ?_⟩) (by assumption) ?_
                  rotate_left
                  · (try dsimp only at hSw); go_simp; (try with_reducible rfl)
                  try simp only [List.getElem_toArray, List.getElem_cons_succ, List.getElem_cons_zero, Act.put, List.setIfInBounds_toArray, List.set_cons_zero, List.set_cons_succ]
                  refine wpAnyH_take (i := 22) (v := ?_) rfl (by kernel_rfl) (by kernel_rfl) (by kernel_rfl) (fun _ _ _ h => h) (Or.inl ⟨by rfl, fun w hSw => ?_⟩) (by assumption) ?_
                  rotate_left
                  · (try dsimp only at hSw); go_simp; (try with_reducible rfl)
                  try simp only [List.getElem_toArray, List.getElem_cons_succ, List.getElem_cons_zero, Act.put, List.setIfInBounds_toArray, List.set_cons_zero, List.set_cons_succ]
                  refine wpAnyH_ready (rs := [23, 24]) (by kernel_rfl) (by simp) ?_
                  refine AllReadyH.cons rfl (fun K hK => ?_) ?_
                  · go_simp
                    have HN3 := Lib.hid (HN2.out.alloc HN2.out.size (.cells #[.bool false, .float .f64 0] 30))
                    have B73 := Lib.hid (Bx.new W2 false 0)
                    have hge7 : wd.heap.size ≤ W2.heap.size := HN2.out.size
                    refine hK.out _ _ ?_ (fun hHeld => ?_)
                    · exact HS.out _ (HY9.out.trans (HN3.out.mono hsz9))
                    clear hK K
                    generalize W2.alloc (.cells #[.bool false, .float .f64 0] 30) = W3 at HN3 B73 hHeld ⊢
                    try simp only [List.getElem_toArray, List.getElem_cons_succ, List.getElem_cons_zero, Act.put, List.setIfInBounds_toArray, List.set_cons_zero, List.set_cons_succ]
                    refine wpAnyH_ready (rs := [24]) (by kernel_rfl) (by simp) ?_
                    refine AllReadyH.cons rfl (fun K hK => ?_) ?_
                    · go_simp
                      have HN4 := Lib.hid (HN3.out.alloc HN3.out.size (.cells #[.bool false, .float .f64 0] 30))
                      have B84 := Lib.hid (Bx.new W3 false 0)
                      have hge8 : wd.heap.size ≤ W3.heap.size := HN3.out.size
                      have hne : W2.heap.size ≠ W3.heap.size := Nat.ne_of_lt B73.out.lt
                      have B74 := Lib.hid (B73.out.alloc (.cells #[.bool false, .float .f64 0] 30))
                      refine hK.out _ _ ?_ (fun hHeld => ?_)
                      · exact HS.out _ (HY9.out.trans (HN4.out.mono hsz9))
                      clear hK K
                      generalize W3.alloc (.cells #[.bool false, .float .f64 0] 30) = W4 at HN4 B84 B74 hHeld ⊢
                      try simp only [List.getElem_toArray, List.getElem_cons_succ, List.getElem_cons_zero, Act.put, List.setIfInBounds_toArray, List.set_cons_zero, List.set_cons_succ]
                      refine wpAnyH_ready (rs := [25]) (by kernel_rfl) (by simp) ?_
                      refine AllReadyH.cons rfl (fun K hK => ?_) ?_
                      · obtain ⟨x0, x1, x2, x3⟩ := B74.out.facts
                        go_simp
                        have HN5 := Lib.hid ((HN4.out.setCell (p := ⟨W2.heap.size, 0, none⟩) hge7 (.bool f2)).setCell (p := ⟨W2.heap.size, 1, none⟩) hge7 (.float .f64 z2))
                        have B75 := Lib.hid (B74.out.put f2 z2)
                        have B85 := Lib.hid ((B84.out.far (c := W2.heap.size) (by omega) 0 (.bool f2)).far (c := W2.heap.size) (by omega) 1 (.float .f64 z2))
                        refine hK.out _ _ ?_ (fun hHeld => ?_)
                        · exact HS.out _ (HY9.out.trans (HN5.out.mono hsz9))
                        clear hK K
                        generalize ((W4.setCell ⟨W2.heap.size, 0, none⟩ (.bool f2)).setCell ⟨W2.heap.size, 1, none⟩ (.float .f64 z2)) = W5 at HN5 B75 B85 hHeld ⊢
                        try simp only [List.getElem_toArray, List.getElem_cons_succ, List.getElem_cons_zero, Act.put, List.setIfInBounds_toArray, List.set_cons_zero, List.set_cons_succ]
                        refine wpAnyH_ready (rs := [26]) (by kernel_rfl) (by simp) ?_
                        refine AllReadyH.cons rfl (fun K hK => ?_) ?_
                        · obtain ⟨x0, x1, x2, x3⟩ := B85.out.facts
                          go_simp
                          have HN6 := Lib.hid ((HN5.out.setCell (p := ⟨W3.heap.size, 0, none⟩) hge8 (.bool f3)).setCell (p := ⟨W3.heap.size, 1, none⟩) hge8 (.float .f64 z3))
                          have B86 := Lib.hid (B85.out.put f3 z3)
                          have B76 := Lib.hid ((B75.out.far (c := W3.heap.size) (by omega) 0 (.bool f3)).far (c := W3.heap.size) (by omega) 1 (.float .f64 z3))
                          refine hK.out _ _ ?_ (fun hHeld => ?_)
                          · exact HS.out _ (HY9.out.trans (HN6.out.mono hsz9))
                          clear hK K
                          generalize ((W5.setCell ⟨W3.heap.size, 0, none⟩ (.bool f3)).setCell ⟨W3.heap.size, 1, none⟩ (.float .f64 z3)) = W6 at HN6 B86 B76 hHeld ⊢
                          try simp only [List.getElem_toArray, List.getElem_cons_succ, List.getElem_cons_zero, Act.put, List.setIfInBounds_toArray, List.set_cons_zero, List.set_cons_succ]
                          refine wpAnyH_done (by kernel_rfl) ?_ _
                          go_wp2_with fail
                          go_meet
                          case rel => exact ⟨_, f3, z3, rfl, hge8, HN6, B86, HF3⟩
                        exact AllReadyH.nil
                      exact AllReadyH.nil
                    exact AllReadyH.nil
                  refine AllReadyH.cons rfl (fun K hK => ?_) ?_
                  · go_simp
                    have HN3 := Lib.hid (HN2.out.alloc HN2.out.size (.cells #[.bool false, .float .f64 0] 30))
                    have B83 := Lib.hid (Bx.new W2 false 0)
                    have hge8 : wd.heap.size ≤ W2.heap.size := HN2.out.size
                    refine hK.out _ _ ?_ (fun hHeld => ?_)
                    · exact HS.out _ (HY9.out.trans (HN3.out.mono hsz9))
                    clear hK K
                    generalize W2.alloc (.cells #[.bool false, .float .f64 0] 30) = W3 at HN3 B83 hHeld ⊢
                    try simp only [List.getElem_toArray, List.getElem_cons_succ, List.getElem_cons_zero, Act.put, List.setIfInBounds_toArray, List.set_cons_zero, List.set_cons_succ]
                    refine wpAnyH_ready (rs := [23]) (by kernel_rfl) (by simp) ?_
                    refine AllReadyH.cons rfl (fun K hK => ?_) ?_
                    · go_simp
                      have HN4 := Lib.hid (HN3.out.alloc HN3.out.size (.cells #[.bool false, .float .f64 0] 30))
                      have B74 := Lib.hid (Bx.new W3 false 0)
                      have hge7 : wd.heap.size ≤ W3.heap.size := HN3.out.size
                      have hne : W2.heap.size ≠ W3.heap.size := Nat.ne_of_lt B83.out.lt
                      have B84 := Lib.hid (B83.out.alloc (.cells #[.bool false, .float .f64 0] 30))
                      refine hK.out _ _ ?_ (fun hHeld => ?_)
                      · exact HS.out _ (HY9.out.trans (HN4.out.mono hsz9))
                      clear hK K
                      generalize W3.alloc (.cells #[.bool false, .float .f64 0] 30) = W4 at HN4 B74 B84 hHeld ⊢
                      try simp only [List.getElem_toArray, List.getElem_cons_succ, List.getElem_cons_zero, Act.put, List.setIfInBounds_toArray, List.set_cons_zero, List.set_cons_succ]
                      refine wpAnyH_ready (rs := [25]) (by kernel_rfl) (by simp) ?_
                      refine AllReadyH.cons rfl (fun K hK => ?_) ?_
                      · obtain ⟨x0, x1, x2, x3⟩ := B74.out.facts
                        go_simp
                        have HN5 := Lib.hid ((HN4.out.setCell (p := ⟨W3.heap.size, 0, none⟩) hge7 (.bool f2)).setCell (p := ⟨W3.heap.size, 1, none⟩) hge7 (.float .f64 z2))
                        have B75 := Lib.hid (B74.out.put f2 z2)
                        have B85 := Lib.hid ((B84.out.far (c := W3.heap.size) (by omega) 0 (.bool f2)).far (c := W3.heap.size) (by omega) 1 (.float .f64 z2))
                        refine hK.out _ _ ?_ (fun hHeld => ?_)
                        · exact HS.out _ (HY9.out.trans (HN5.out.mono hsz9))
                        clear hK K
                        generalize ((W4.setCell ⟨W3.heap.size, 0, none⟩ (.bool f2)).setCell ⟨W3.heap.size, 1, none⟩ (.float .f64 z2)) = W5 at HN5 B75 B85 hHeld ⊢
                        try simp only [List.getElem_toArray, List.getElem_cons_succ, List.getElem_cons_zero, Act.put, List.setIfInBounds_toArray, List.set_cons_zero, List.set_cons_succ]
                        refine wpAnyH_ready (rs := [26]) (by kernel_rfl) (by simp) ?_
                        refine AllReadyH.cons rfl (fun K hK => ?_) ?_
                        · obtain ⟨x0, x1, x2, x3⟩ := B85.out.facts
                          go_simp
                          have HN6 := Lib.hid ((HN5.out.setCell (p := ⟨W2.heap.size, 0, none⟩) hge8 (.bool f3)).setCell (p := ⟨W2.heap.size, 1, none⟩) hge8 (.float .f64 z3))
                          have B86 := Lib.hid (B85.out.put f3 z3)
                          have B76 := Lib.hid ((B75.out.far (c := W2.heap.size) (by omega) 0 (.bool f3)).far (c := W2.heap.size) (by omega) 1 (.float .f64 z3))
                          refine hK.out _ _ ?_ (fun hHeld => ?_)
                          · exact HS.out _ (HY9.out.trans (HN6.out.mono hsz9))
                          clear hK K
                          generalize ((W5.setCell ⟨W2.heap.size, 0, none⟩ (.bool f3)).setCell ⟨W2.heap.size, 1, none⟩ (.float .f64 z3)) = W6 at HN6 B86 B76 hHeld ⊢
                          try simp only [List.getElem_toArray, List.getElem_cons_succ, List.getElem_cons_zero, Act.put, List.setIfInBounds_toArray, List.set_cons_zero, List.set_cons_succ]
                          refine wpAnyH_done (by kernel_rfl) ?_ _
                          go_wp2_with fail
                          go_meet
                          case rel => exact ⟨_, f3, z3, rfl, hge8, HN6, B86, HF3⟩
                        exact AllReadyH.nil
                      exact AllReadyH.nil
                    exact AllReadyH.nil
                  exact AllReadyH.nil
                refine AllReadyH.cons rfl (fun K hK => ?_) ?_
                · go_simp
                  have HN2 := Lib.hid (HN1.out.alloc HN1.out.size (.cells #[.bool false, .float .f64 0] 30))
                  have B72 := Lib.hid (Bx.new W1 false 0)
                  have hge7 : wd.heap.size ≤ W1.heap.size := HN1.out.size
                  refine hK.out _ _ ?_ (fun hHeld => ?_)
                  · exact HS.out _ (HY9.out.trans (HN2.out.mono hsz9))
                  clear hK K
                  generalize W1.alloc (.cells #[.bool false, .float .f64 0] 30) = W2 at HN2 B72 hHeld ⊢
                  try simp only [List.getElem_toArray, List.getElem_cons_succ, List.getElem_cons_zero, Act.put, List.setIfInBounds_toArray, List.set_cons_zero, List.set_cons_succ]
                  refine wpAnyH_ready (rs := [19, 24]) (by kernel_rfl) (by simp) ?_
                  refine AllReadyH.cons rfl (fun K hK => ?_) ?_
                  · go_simp
                    (go_at_call 24; (with_reducible refine (CD.out _ _ HF1.out _).mono ?_); rintro E W3 ⟨f2, z2, f3, z3, rfl, hf2, hf, hb⟩; have HF3 := Lib.hid (Fit.told HF1.out hf); clear hf2; have HN3 := Lib.hid (HN2.out.trans (hb.mono HN2.out.size)); have B73 := Lib.hid (B72.out.on hb); clear hf hb)
                    refine hK.out _ _ ?_ (fun hHeld => ?_)
                    · exact HS.out _ (HY9.out.trans (HN3.out.mono hsz9))
                    clear hK K
                    try simp only [List.getElem_toArray, List.getElem_cons_succ, List.getElem_cons_zero, Act.put, List.setIfInBounds_toArray, List.set_cons_zero, List.set_cons_succ]
                    refine wpAnyH_take (i := 20) (v := ?_) rfl (by kernel_rfl) (by kernel_rfl) (by kernel_rfl) (fun _ _ _ h => h) (Or.inl ⟨by rfl, fun w hSw => ?_⟩) (by assumption) ?_
                    rotate_left
                    · (try dsimp only at hSw); go_simp; (try with_reducible rfl)
                    try simp only [List.getElem_toArray, List.getElem_cons_succ, List.getElem_cons_zero, Act.put, List.setIfInBounds_toArray, List.set_cons_zero, List.set_cons_succ]
                    refine wpAnyH_take (i := 21) (v := ?_) rfl (by kernel_rfl) (by kernel_rfl) (by kernel_rfl) (fun _ _ _ h => h) (Or.inl ⟨by rfl, fun w hSw => ?_⟩) (by assumption) ?_
                    rotate_left
                    · (try dsimp only at hSw); go_simp; (try with_reducible rfl)
                    try simp only [List.getElem_toArray, List.getElem_cons_succ, List.getElem_cons_zero, Act.put, List.setIfInBounds_toArray, List.set_cons_zero, List.set_cons_succ]
                    refine wpAnyH_take (i := 22) (v := ?_) rfl (by kernel_rfl) (by kernel_rfl) (by kernel_rfl) (fun _ _ _ h => h) (Or.inl ⟨by rfl, fun w hSw => ?_⟩) (by assumption) ?_
                    rotate_left
                    · (try dsimp only at hSw); go_simp; (try with_reducible rfl)
                    try simp only [List.getElem_toArray, List.getElem_cons_succ, List.getElem_cons_zero, Act.put, List.setIfInBounds_toArray, List.set_cons_zero, List.set_cons_succ]
                    refine wpAnyH_ready (rs := [24]) (by kernel_rfl) (by simp) ?_
                    refine AllReadyH.cons rfl (fun K hK => ?_) ?_
                    · go_simp
                      have HN4 := Lib.hid (HN3.out.alloc HN3.out.size (.cells #[.bool false, .float .f64 0] 30))
                      have B84 := Lib.hid (Bx.new W3 false 0)
                      have hge8 : wd.heap.size ≤ W3.heap.size := HN3.out.size
                      have hne : W1.heap.size ≠ W3.heap.size := Nat.ne_of_lt B73.out.lt
                      have B74 := Lib.hid (B73.out.alloc (.cells #[.bool false, .float .f64 0] 30))
                      refine hK.out _ _ ?_ (fun hHeld => ?_)
                      · exact HS.out _ (HY9.out.trans (HN4.out.mono hsz9))
                      clear hK K
                      generalize W3.alloc (.cells #[.bool false, .float .f64 0] 30) = W4 at HN4 B84 B74 hHeld ⊢
                      try simp only [List.getElem_toArray, List.getElem_cons_succ, List.getElem_cons_zero, Act.put, List.setIfInBounds_toArray, List.set_cons_zero, List.set_cons_succ]
                      refine wpAnyH_ready (rs := [25]) (by kernel_rfl) (by simp) ?_
                      refine AllReadyH.cons rfl (fun K hK => ?_) ?_
                      · obtain ⟨x0, x1, x2, x3⟩ := B74.out.facts
                        go_simp
                        have HN5 := Lib.hid ((HN4.out.setCell (p := ⟨W1.heap.size, 0, none⟩) hge7 (.bool f2)).setCell (p := ⟨W1.heap.size, 1, none⟩) hge7 (.float .f64 z2))
                        have B75 := Lib.hid (B74.out.put f2 z2)
                        have B85 := Lib.hid ((B84.out.far (c := W1.heap.size) (by omega) 0 (.bool f2)).far (c := W1.heap.size) (by omega) 1 (.float .f64 z2))
                        refine hK.out _ _ ?_ (fun hHeld => ?_)
                        · exact HS.out _ (HY9.out.trans (HN5.out.mono hsz9))
                        clear hK K
                        generalize ((W4.setCell ⟨W1.heap.size, 0, none⟩ (.bool f2)).setCell ⟨W1.heap.size, 1, none⟩ (.float .f64 z2)) = W5 at HN5 B75 B85 hHeld ⊢
                        try simp only [List.getElem_toArray, List.getElem_cons_succ, List.getElem_cons_zero, Act.put, List.setIfInBounds_toArray, List.set_cons_zero, List.set_cons_succ]
                        refine wpAnyH_ready (rs := [26]) (by kernel_rfl) (by simp) ?_
                        refine AllReadyH.cons rfl (fun K hK => ?_) ?_
                        · obtain ⟨x0, x1, x2, x3⟩ := B85.out.facts
                          go_simp
                          have HN6 := Lib.hid ((HN5.out.setCell (p := ⟨W3.heap.size, 0, none⟩) hge8 (.bool f3)).setCell (p := ⟨W3.heap.size, 1, none⟩) hge8 (.float .f64 z3))
                          have B86 := Lib.hid (B85.out.put f3 z3)
                          have B76 := Lib.hid ((B75.out.far (c := W3.heap.size) (by omega) 0 (.bool f3)).far (c := W3.heap.size) (by omega) 1 (.float .f64 z3))
                          refine hK.out _ _ ?_ (fun hHeld => ?_)
                          · exact HS.out _ (HY9.out.trans (HN6.out.mono hsz9))
                          clear hK K
                          generalize ((W5.setCell ⟨W3.heap.size, 0, none⟩ (.bool f3)).setCell ⟨W3.heap.size, 1, none⟩ (.float .f64 z3)) = W6 at HN6 B86 B76 hHeld ⊢
                          try simp only [List.getElem_toArray, List.getElem_cons_succ, List.getElem_cons_zero, Act.put, List.setIfInBounds_toArray, List.set_cons_zero, List.set_cons_succ]
                          refine wpAnyH_done (by kernel_rfl) ?_ _
                          go_wp2_with fail
                          go_meet
                          case rel => exact ⟨_, f3, z3, rfl, hge8, HN6, B86, HF3⟩
                        exact AllReadyH.nil
                      exact AllReadyH.nil
                    exact AllReadyH.nil
                  refine AllReadyH.cons rfl (fun K hK => ?_) ?_
                  · go_simp
                    have HN3 := Lib.hid (HN2.out.alloc HN2.out.size (.cells #[.bool false, .float .f64 0] 30))
                    have B83 := Lib.hid (Bx.new W2 false 0)
                    have hge8 : wd.heap.size ≤ W2.heap.size := HN2.out.size
                    have hne : W1.heap.size ≠ W2.heap.size := Nat.ne_of_lt B72.out.lt
                    have B73 := Lib.hid (B72.out.alloc (.cells #[.bool false, .float .f64 0] 30))
                    refine hK.out _ _ ?_ (fun hHeld => ?_)
                    · exact HS.out _ (HY9.out.trans (HN3.out.mono hsz9))
                    clear hK K
                    generalize W2.alloc (.cells #[.bool false, .float .f64 0] 30) = W3 at HN3 B83 B73 hHeld ⊢
                    try simp only [List.getElem_toArray, List.getElem_cons_succ, List.getElem_cons_zero, Act.put, List.setIfInBounds_toArray, List.set_cons_zero, List.set_cons_succ]
                    refine wpAnyH_ready (rs := [19]) (by kernel_rfl) (by simp) ?_
                    refine AllReadyH.cons rfl (fun K hK => ?_) ?_
                    · go_simp
                      (go_at_call 24; (with_reducible refine (CD.out _ _ HF1.out _).mono ?_); rintro E W4 ⟨f2, z2, f3, z3, rfl, hf2, hf, hb⟩; have HF3 := Lib.hid (Fit.told HF1.out hf); clear hf2; have HN4 := Lib.hid (HN3.out.trans (hb.mono HN3.out.size)); have B74 := Lib.hid (B73.out.on hb); have B84 := Lib.hid (B83.out.on hb); clear hf hb)
                      refine hK.out _ _ ?_ (fun hHeld => ?_)
                      · exact HS.out _ (HY9.out.trans (HN4.out.mono hsz9))
                      clear hK K
                      try simp only [List.getElem_toArray, List.getElem_cons_succ, List.getElem_cons_zero, Act.put, List.setIfInBounds_toArray, List.set_cons_zero, List.set_cons_succ]
                      refine wpAnyH_take (i := 20) (v := ?_) rfl (by kernel_rfl) (by kernel_rfl) (by kernel_rfl) (fun _ _ _ h => h) (Or.inl ⟨by rfl, fun w hSw => ?_⟩) (by assumption) ?_
                      rotate_left
                      · (try dsimp only at hSw); go_simp; (try with_reducible rfl)
                      try simp only [List.getElem_toArray, List.getElem_cons_succ, List.getElem_cons_zero, Act.put, List.setIfInBounds_toArray, List.set_cons_zero, List.set_cons_succ]
                      refine wpAnyH_take (i := 21) (v := ?_) rfl (by kernel_rfl) (by kernel_rfl) (by kernel_rfl) (fun _ _ _ h => h) (Or.inl ⟨by rfl, fun w hSw => ?_⟩) (by assumption) ?_
                      rotate_left
                      · (try dsimp only at hSw); go_simp; (try with_reducible rfl)
                      try simp only [List.getElem_toArray, List.getElem_cons_succ, List.getElem_cons_zero, Act.put, List.setIfInBounds_toArray, List.set_cons_zero, List.set_cons_succ]
                      refine wpAnyH_take (i := 22) (v := ?_) rfl (by kernel_rfl) (by kernel_rfl) (by kernel_rfl) (fun _ _ _ h => h) (Or.inl ⟨by rfl, fun w hSw => ?_⟩) (by assumption) ?_
                      rotate_left
                      · (try dsimp only at hSw); go_simp; (try with_reducible rfl)
                      try simp only [List.getElem_toArray, List.getElem_cons_succ, List.getElem_cons_zero, Act.put, List.setIfInBounds_toArray, List.set_cons_zero, List.set_cons_succ]
                      refine wpAnyH_ready (rs := [25]) (by kernel_rfl) (by simp) ?_
                      refine AllReadyH.cons rfl (fun K hK => ?_) ?_
                      · obtain ⟨x0, x1, x2, x3⟩ := B74.out.facts
                        go_simp
                        have HN5 := Lib.hid ((HN4.out.setCell (p := ⟨W1.heap.size, 0, none⟩) hge7 (.bool f2)).setCell (p := ⟨W1.heap.size, 1, none⟩) hge7 (.float .f64 z2))
                        have B75 := Lib.hid (B74.out.put f2 z2)
                        have B85 := Lib.hid ((B84.out.far (c := W1.heap.size) (by omega) 0 (.bool f2)).far (c := W1.heap.size) (by omega) 1 (.float .f64 z2))
                        refine hK.out _ _ ?_ (fun hHeld => ?_)
                        · exact HS.out _ (HY9.out.trans (HN5.out.mono hsz9))
                        clear hK K
                        generalize ((W4.setCell ⟨W1.heap.size, 0, none⟩ (.bool f2)).setCell ⟨W1.heap.size, 1, none⟩ (.float .f64 z2)) = W5 at HN5 B75 B85 hHeld ⊢
                        try simp only [List.getElem_toArray, List.getElem_cons_succ, List.getElem_cons_zero, Act.put, List.setIfInBounds_toArray, List.set_cons_zero, List.set_cons_succ]
                        refine wpAnyH_ready (rs := [26]) (by kernel_rfl) (by simp) ?_
                        refine AllReadyH.cons rfl (fun K hK => ?_) ?_
                        · obtain ⟨x0, x1, x2, x3⟩ := B85.out.facts
                          go_simp
                          have HN6 := Lib.hid ((HN5.out.setCell (p := ⟨W2.heap.size, 0, none⟩) hge8 (.bool f3)).setCell (p := ⟨W2.heap.size, 1, none⟩) hge8 (.float .f64 z3))
                          have B86 := Lib.hid (B85.out.put f3 z3)
                          have B76 := Lib.hid ((B75.out.far (c := W2.heap.size) (by omega) 0 (.bool f3)).far (c := W2.heap.size) (by omega) 1 (.float .f64 z3))
                          refine hK.out _ _ ?_ (fun hHeld => ?_)
                          · exact HS.out _ (HY9.out.trans (HN6.out.mono hsz9))
                          clear hK K
                          generalize ((W5.setCell ⟨W2.heap.size, 0, none⟩ (.bool f3)).setCell ⟨W2.heap.size, 1, none⟩ (.float .f64 z3)) = W6 at HN6 B86 B76 hHeld ⊢
                          try simp only [List.getElem_toArray, List.getElem_cons_succ, List.getElem_cons_zero, Act.put, List.setIfInBounds_toArray, List.set_cons_zero, List.set_cons_succ]
                          refine wpAnyH_done (by kernel_rfl) ?_ _
                          go_wp2_with fail
                          go_meet
                          case rel => exact ⟨_, f3, z3, rfl, hge8, HN6, B86, HF3⟩
                        exact AllReadyH.nil
                      exact AllReadyH.nil
                    exact AllReadyH.nil
                  exact AllReadyH.nil
                refine AllReadyH.cons rfl (fun K hK => ?_) ?_
                · go_simp
                  have HN2 := Lib.hid (HN1.out.alloc HN1.out.size (.cells #[.bool false, .float .f64 0] 30))
                  have B82 := Lib.hid (Bx.new W1 false 0)
                  have hge8 : wd.heap.size ≤ W1.heap.size := HN1.out.size
                  refine hK.out _ _ ?_ (fun hHeld => ?_)
                  · exact HS.out _ (HY9.out.trans (HN2.out.mono hsz9))
                  clear hK K
                  generalize W1.alloc (.cells #[.bool false, .float .f64 0] 30) = W2 at HN2 B82 hHeld ⊢
                  try simp only [List.getElem_toArray, List.getElem_cons_succ, List.getElem_cons_zero, Act.put, List.setIfInBounds_toArray, List.set_cons_zero, List.set_cons_succ]
                  refine wpAnyH_ready (rs := [19, 23]) (by kernel_rfl) (by simp) ?_
                  refine AllReadyH.cons rfl (fun K hK => ?_) ?_
                  · go_simp
                    (go_at_call 24; (with_reducible refine (CD.out _ _ HF1.out _).mono ?_); rintro E W3 ⟨f2, z2, f3, z3, rfl, hf2, hf, hb⟩; have HF3 := Lib.hid (Fit.told HF1.out hf); clear hf2; have HN3 := Lib.hid (HN2.out.trans (hb.mono HN2.out.size)); have B83 := Lib.hid (B82.out.on hb); clear hf hb)
                    refine hK.out _ _ ?_ (fun hHeld => ?_)
                    · exact HS.out _ (HY9.out.trans (HN3.out.mono hsz9))
                    clear hK K
                    try simp only [List.getElem_toArray, List.getElem_cons_succ, List.getElem_cons_zero, Act.put, List.setIfInBounds_toArray, List.set_cons_zero, List.set_cons_succ]
                    refine wpAnyH_take (i := 20) (v := ?_) rfl (by kernel_rfl) (by kernel_rfl) (by kernel_rfl) (fun _ _ _ h => h) (Or.inl ⟨by rfl, fun w hSw => ?_⟩) (by assumption) ?_
                    rotate_left
                    · (try dsimp only at hSw); go_simp; (try with_reducible rfl)
                    try simp only [List.getElem_toArray, List.getElem_cons_succ, List.getElem_cons_zero, Act.put, List.setIfInBounds_toArray, List.set_cons_zero, List.set_cons_succ]
                    refine wpAnyH_take (i := 21) (v := ?_) rfl (by kernel_rfl) (by kernel_rfl) (by kernel_rfl) (fun _ _ _ h => h) (Or.inl ⟨by rfl, fun w hSw => ?_⟩) (by assumption) ?_
                    rotate_left
                    · (try dsimp only at hSw); go_simp; (try with_reducible rfl)
                    try simp only [List.getElem_toArray, List.getElem_cons_succ, List.getElem_cons_zero, Act.put, List.setIfInBounds_toArray, List.set_cons_zero, List.set_cons_succ]
                    refine wpAnyH_take (i := 22) (v := ?_) rfl (by kernel_rfl) (by kernel_rfl) (by kernel_rfl) (fun _ _ _ h => h) (Or.inl ⟨by rfl, fun w hSw => ?_⟩) (by assumption) ?_
                    rotate_left
                    · (try dsimp only at hSw); go_simp; (try with_reducible rfl)
                    try simp only [List.getElem_toArray, List.getElem_cons_succ, List.getElem_cons_zero, Act.put, List.setIfInBounds_toArray, List.set_cons_zero, List.set_cons_succ]
                    refine wpAnyH_ready (rs := [23]) (by kernel_rfl) (by simp) ?_
                    refine AllReadyH.cons rfl (fun K hK => ?_) ?_
                    · go_simp
                      have HN4 := Lib.hid (HN3.out.alloc HN3.out.size (.cells #[.bool false, .float .f64 0] 30))
                      have B74 := Lib.hid (Bx.new W3 false 0)
                      have hge7 : wd.heap.size ≤ W3.heap.size := HN3.out.size
                      have hne : W1.heap.size ≠ W3.heap.size := Nat.ne_of_lt B83.out.lt
                      have B84 := Lib.hid (B83.out.alloc (.cells #[.bool false, .float .f64 0] 30))
                      refine hK.out _ _ ?_ (fun hHeld => ?_)
                      · exact HS.out _ (HY9.out.trans (HN4.out.mono hsz9))
                      clear hK K
                      generalize W3.alloc (.cells #[.bool false, .float .f64 0] 30) = W4 at HN4 B74 B84 hHeld ⊢
                      try simp only [List.getElem_toArray, List.getElem_cons_succ, List.getElem_cons_zero, Act.put, List.setIfInBounds_toArray, List.set_cons_zero, List.set_cons_succ]
                      refine wpAnyH_ready (rs := [25]) (by kernel_rfl) (by simp) ?_
                      refine AllReadyH.cons rfl (fun K hK => ?_) ?_
                      · obtain ⟨x0, x1, x2, x3⟩ := B74.out.facts
                        go_simp
                        have HN5 := Lib.hid ((HN4.out.setCell (p := ⟨W3.heap.size, 0, none⟩) hge7 (.bool f2)).setCell (p := ⟨W3.heap.size, 1, none⟩) hge7 (.float .f64 z2))
                        have B75 := Lib.hid (B74.out.put f2 z2)
                        have B85 := Lib.hid ((B84.out.far (c := W3.heap.size) (by omega) 0 (.bool f2)).far (c := W3.heap.size) (by omega) 1 (.float .f64 z2))
                        refine hK.out _ _ ?_ (fun hHeld => ?_)
                        · exact HS.out _ (HY9.out.trans (HN5.out.mono hsz9))
                        clear hK K
                        generalize ((W4.setCell ⟨W3.heap.size, 0, none⟩ (.bool f2)).setCell ⟨W3.heap.size, 1, none⟩ (.float .f64 z2)) = W5 at HN5 B75 B85 hHeld ⊢
                        try simp only [List.getElem_toArray, List.getElem_cons_succ, List.getElem_cons_zero, Act.put, List.setIfInBounds_toArray, List.set_cons_zero, List.set_cons_succ]
                        refine wpAnyH_ready (rs := [26]) (by kernel_rfl) (by simp) ?_
                        refine AllReadyH.cons rfl (fun K hK => ?_) ?_
                        · obtain ⟨x0, x1, x2, x3⟩ := B85.out.facts
                          go_simp
                          have HN6 := Lib.hid ((HN5.out.setCell (p := ⟨W1.heap.size, 0, none⟩) hge8 (.bool f3)).setCell (p := ⟨W1.heap.size, 1, none⟩) hge8 (.float .f64 z3))
                          have B86 := Lib.hid (B85.out.put f3 z3)
                          have B76 := Lib.hid ((B75.out.far (c := W1.heap.size) (by omega) 0 (.bool f3)).far (c := W1.heap.size) (by omega) 1 (.float .f64 z3))
                          refine hK.out _ _ ?_ (fun hHeld => ?_)
                          · exact HS.out _ (HY9.out.trans (HN6.out.mono hsz9))
                          clear hK K
                          generalize ((W5.setCell ⟨W1.heap.size, 0, none⟩ (.bool f3)).setCell ⟨W1.heap.size, 1, none⟩ (.float .f64 z3)) = W6 at HN6 B86 B76 hHeld ⊢
                          try simp only [List.getElem_toArray, List.getElem_cons_succ, List.getElem_cons_zero, Act.put, List.setIfInBounds_toArray, List.set_cons_zero, List.set_cons_succ]
                          refine wpAnyH_done (by kernel_rfl) ?_ _
                          go_wp2_with fail
                          go_meet
                          case rel => exact ⟨_, f3, z3, rfl, hge8, HN6, B86, HF3⟩
                        exact AllReadyH.nil
                      exact AllReadyH.nil
                    exact AllReadyH.nil
                  refine AllReadyH.cons rfl (fun K hK => ?_) ?_
                  · go_simp
                    have HN3 := Lib.hid (HN2.out.alloc HN2.out.size (.cells #[.bool false, .float .f64 0] 30))
                    have B73 := Lib.hid (Bx.new W2 false 0)
                    have hge7 : wd.heap.size ≤ W2.heap.size := HN2.out.size
                    have hne : W1.heap.size ≠ W2.heap.size := Nat.ne_of_lt B82.out.lt
                    have B83 := Lib.hid (B82.out.alloc (.cells #[.bool false, .float .f64 0] 30))
                    refine hK.out _ _ ?_ (fun hHeld => ?_)
                    · exact HS.out _ (HY9.out.trans (HN3.out.mono hsz9))
                    clear hK K
                    generalize W2.alloc (.cells #[.bool false, .float .f64 0] 30) = W3 at HN3 B73 B83 hHeld ⊢
                    try simp only [List.getElem_toArray, List.getElem_cons_succ, List.getElem_cons_zero, Act.put, List.setIfInBounds_toArray, List.set_cons_zero, List.set_cons_succ]
                    refine wpAnyH_ready (rs := [19]) (by kernel_rfl) (by simp) ?_
                    refine AllReadyH.cons rfl (fun K hK => ?_) ?_
                    · go_simp
                      (go_at_call 24; (with_reducible refine (CD.out _ _ HF1.out _).mono ?_); rintro E W4 ⟨f2, z2, f3, z3, rfl, hf2, hf, hb⟩; have HF3 := Lib.hid (Fit.told HF1.out hf); clear hf2; have HN4 := Lib.hid (HN3.out.trans (hb.mono HN3.out.size)); have B74 := Lib.hid (B73.out.on hb); have B84 := Lib.hid (B83.out.on hb); clear hf hb)
                      refine hK.out _ _ ?_ (fun hHeld => ?_)
                      · exact HS.out _ (HY9.out.trans (HN4.out.mono hsz9))
                      clear hK K
                      try simp only [List.getElem_toArray, List.getElem_cons_succ, List.getElem_cons_zero, Act.put, List.setIfInBounds_toArray, List.set_cons_zero, List.set_cons_succ]
                      refine wpAnyH_take (i := 20) (v := ?_) rfl (by kernel_rfl) (by kernel_rfl) (by kernel_rfl) (fun _ _ _ h => h) (Or.inl ⟨by rfl, fun w hSw => ?_⟩) (by assumption) ?_
                      rotate_left
                      · (try dsimp only at hSw); go_simp; (try with_reducible rfl)
                      try simp only [List.getElem_toArray, List.getElem_cons_succ, List.getElem_cons_zero, Act.put, List.setIfInBounds_toArray, List.set_cons_zero, List.set_cons_succ]
                      refine wpAnyH_take (i := 21) (v := ?_) rfl (by kernel_rfl) (by kernel_rfl) (by kernel_rfl) (fun _ _ _ h => h) (Or.inl ⟨by rfl, fun w hSw => ?_⟩) (by assumption) ?_
                      rotate_left
                      · (try dsimp only at hSw); go_simp; (try with_reducible rfl)
                      try simp only [List.getElem_toArray, List.getElem_cons_succ, List.getElem_cons_zero, Act.put, List.setIfInBounds_toArray, List.set_cons_zero, List.set_cons_succ]
                      refine wpAnyH_take (i := 22) (v := ?_) rfl (by kernel_rfl) (by kernel_rfl) (by kernel_rfl) (fun _ _ _ h => h) (Or.inl ⟨by rfl, fun w hSw => ?_⟩) (by assumption) ?_
                      rotate_left
                      · (try dsimp only at hSw); go_simp; (try with_reducible rfl)
                      try simp only [List.getElem_toArray, List.getElem_cons_succ, List.getElem_cons_zero, Act.put, List.setIfInBounds_toArray, List.set_cons_zero, List.set_cons_succ]
                      refine wpAnyH_ready (rs := [25]) (by kernel_rfl) (by simp) ?_
                      refine AllReadyH.cons rfl (fun K hK => ?_) ?_
                      · obtain ⟨x0, x1, x2, x3⟩ := B74.out.facts
                        go_simp
                        have HN5 := Lib.hid ((HN4.out.setCell (p := ⟨W2.heap.size, 0, none⟩) hge7 (.bool f2)).setCell (p := ⟨W2.heap.size, 1, none⟩) hge7 (.float .f64 z2))
                        have B75 := Lib.hid (B74.out.put f2 z2)
                        have B85 := Lib.hid ((B84.out.far (c := W2.heap.size) (by omega) 0 (.bool f2)).far (c := W2.heap.size) (by omega) 1 (.float .f64 z2))
                        refine hK.out _ _ ?_ (fun hHeld => ?_)
                        · exact HS.out _ (HY9.out.trans (HN5.out.mono hsz9))
                        clear hK K
                        generalize ((W4.setCell ⟨W2.heap.size, 0, none⟩ (.bool f2)).setCell ⟨W2.heap.size, 1, none⟩ (.float .f64 z2)) = W5 at HN5 B75 B85 hHeld ⊢
                        try simp only [List.getElem_toArray, List.getElem_cons_succ, List.getElem_cons_zero, Act.put, List.setIfInBounds_toArray, List.set_cons_zero, List.set_cons_succ]
                        refine wpAnyH_ready (rs := [26]) (by kernel_rfl) (by simp) ?_
                        refine AllReadyH.cons rfl (fun K hK => ?_) ?_
                        · obtain ⟨x0, x1, x2, x3⟩ := B85.out.facts
                          go_simp
                          have HN6 := Lib.hid ((HN5.out.setCell (p := ⟨W1.heap.size, 0, none⟩) hge8 (.bool f3)).setCell (p := ⟨W1.heap.size, 1, none⟩) hge8 (.float .f64 z3))
                          have B86 := Lib.hid (B85.out.put f3 z3)
                          have B76 := Lib.hid ((B75.out.far (c := W1.heap.size) (by omega) 0 (.bool f3)).far (c := W1.heap.size) (by omega) 1 (.float .f64 z3))
                          refine hK.out _ _ ?_ (fun hHeld => ?_)
                          · exact HS.out _ (HY9.out.trans (HN6.out.mono hsz9))
                          clear hK K
                          generalize ((W5.setCell ⟨W1.heap.size, 0, none⟩ (.bool f3)).setCell ⟨W1.heap.size, 1, none⟩ (.float .f64 z3)) = W6 at HN6 B86 B76 hHeld ⊢
                          try simp only [List.getElem_toArray, List.getElem_cons_succ, List.getElem_cons_zero, Act.put, List.setIfInBounds_toArray, List.set_cons_zero, List.set_cons_succ]
                          refine wpAnyH_done (by kernel_rfl) ?_ _
                          go_wp2_with fail
                          go_meet
                          case rel => exact ⟨_, f3, z3, rfl, hge8, HN6, B86, HF3⟩
                        exact AllReadyH.nil
                      exact AllReadyH.nil
                    exact AllReadyH.nil
                  exact AllReadyH.nil
                exact AllReadyH.nil
              refine AllReadyH.cons rfl (fun K hK => ?_) ?_
              · go_simp
                have HN1 := Lib.hid (HN0.out.alloc HN0.out.size (.cells #[.bool false, .float .f64 0] 30))
                have B71 := Lib.hid (Bx.new W0 false 0)
                have hge7 : wd.heap.size ≤ W0.heap.size := HN0.out.size
                refine hK.out _ _ ?_ (fun hHeld => ?_)
                · exact HS.out _ (HY9.out.trans (HN1.out.mono hsz9))
                clear hK K
                generalize W0.alloc (.cells #[.bool false, .float .f64 0] 30) = W1 at HN1 B71 hHeld ⊢
                try simp only [List.getElem_toArray, List.getElem_cons_succ, List.getElem_cons_zero, Act.put, List.setIfInBounds_toArray, List.set_cons_zero, List.set_cons_succ]
                refine wpAnyH_ready (rs := [10, 24]) (by kernel_rfl) (by simp) ?_
                refine AllReadyH.cons rfl (fun K hK => ?_) ?_
                · go_simp
                  (go_at_call 10; (with_reducible refine (CC.out _ HN1.out).mono ?_); rintro E W2 ⟨f1, z1, rfl, hf, hb⟩; have HF1 := Lib.hid hf; have HN2 := Lib.hid (HN1.out.trans (hb.mono HN1.out.size)); have B72 := Lib.hid (B71.out.on hb); clear hf hb)
                  refine hK.out _ _ ?_ (fun hHeld => ?_)
                  · exact HS.out _ (HY9.out.trans (HN2.out.mono hsz9))
                  clear hK K
                  try simp only [List.getElem_toArray, List.getElem_cons_succ, List.getElem_cons_zero, Act.put, List.setIfInBounds_toArray, List.set_cons_zero, List.set_cons_succ]
                  refine wpAnyH_ready (rs := [19, 24]) (by kernel_rfl) (by simp) ?_
                  refine AllReadyH.cons rfl (fun K hK => ?_) ?_
                  · go_simp
                    (go_at_call 24; (with_reducible refine (CD.out _ _ HF1.out _).mono ?_); rintro E W3 ⟨f2, z2, f3, z3, rfl, hf2, hf, hb⟩; have HF3 := Lib.hid (Fit.told HF1.out hf); clear hf2; have HN3 := Lib.hid (HN2.out.trans (hb.mono HN2.out.size)); have B73 := Lib.hid (B72.out.on hb); clear hf hb)
                    refine hK.out _ _ ?_ (fun hHeld => ?_)
                    · exact HS.out _ (HY9.out.trans (HN3.out.mono hsz9))
                    clear hK K
                    try simp only [List.getElem_toArray, List.getElem_cons_succ, List.getElem_cons_zero, Act.put, List.setIfInBounds_toArray, List.set_cons_zero, List.set_cons_succ]
                    refine wpAnyH_take (i := 20) (v := ?_) rfl (by kernel_rfl) (by kernel_rfl) (by kernel_rfl) (fun _ _ _ h => h) (Or.inl ⟨by rfl, fun w hSw => ?_⟩) (by assumption) ?_
                    rotate_left
                    · (try dsimp only at hSw); go_simp; (try with_reducible rfl)
                    try simp only [List.getElem_toArray, List.getElem_cons_succ, List.getElem_cons_zero, Act.put, List.setIfInBounds_toArray, List.set_cons_zero, List.set_cons_succ]
                    refine wpAnyH_take (i := 21) (v := ?_) rfl (by kernel_rfl) (by kernel_rfl) (by kernel_rfl) (fun _ _ _ h => h) (Or.inl ⟨by rfl, fun w hSw => ?_⟩) (by assumption) ?_
                    rotate_left
                    · (try dsimp only at hSw); go_simp; (try with_reducible rfl)
                    try simp only [List.getElem_toArray, List.getElem_cons_succ, List.getElem_cons_zero, Act.put, List.setIfInBounds_toArray, List.set_cons_zero, List.set_cons_succ]
                    refine wpAnyH_take (i := 22) (v := ?_) rfl (by kernel_rfl) (by kernel_rfl) (by kernel_rfl) (fun _ _ _ h => h) (Or.inl ⟨by rfl, fun w hSw => ?_⟩) (by assumption) ?_
                    rotate_left
                    · (try dsimp only at hSw); go_simp; (try with_reducible rfl)
                    try simp only [List.getElem_toArray, List.getElem_cons_succ, List.getElem_cons_zero, Act.put, List.setIfInBounds_toArray, List.set_cons_zero, List.set_cons_succ]
                    refine wpAnyH_ready (rs := [24]) (by kernel_rfl) (by simp) ?_
                    refine AllReadyH.cons rfl (fun K hK => ?_) ?_
                    · go_simp
                      have HN4 := Lib.hid (HN3.out.alloc HN3.out.size (.cells #[.bool false, .float .f64 0] 30))
                      have B84 := Lib.hid (Bx.new W3 false 0)
                      have hge8 : wd.heap.size ≤ W3.heap.size := HN3.out.size
                      have hne : W0.heap.size ≠ W3.heap.size := Nat.ne_of_lt B73.out.lt
                      have B74 := Lib.hid (B73.out.alloc (.cells #[.bool false, .float .f64 0] 30))
                      refine hK.out _ _ ?_ (fun hHeld => ?_)
                      · exact HS.out _ (HY9.out.trans (HN4.out.mono hsz9))
                      clear hK K
                      generalize W3.alloc (.cells #[.bool false, .float .f64 0] 30) = W4 at HN4 B84 B74 hHeld ⊢
                      try simp only [List.getElem_toArray, List.getElem_cons_succ, List.getElem_cons_zero, Act.put, List.setIfInBounds_toArray, List.set_cons_zero, List.set_cons_succ]
                      refine wpAnyH_ready (rs := [25]) (by kernel_rfl) (by simp) ?_
                      refine AllReadyH.cons rfl (fun K hK => ?_) ?_
                      · obtain ⟨x0, x1, x2, x3⟩ := B74.out.facts
                        go_simp
                        have HN5 := Lib.hid ((HN4.out.setCell (p := ⟨W0.heap.size, 0, none⟩) hge7 (.bool f2)).setCell (p := ⟨W0.heap.size, 1, none⟩) hge7 (.float .f64 z2))
                        have B75 := Lib.hid (B74.out.put f2 z2)
                        have B85 := Lib.hid ((B84.out.far (c := W0.heap.size) (by omega) 0 (.bool f2)).far (c := W0.heap.size) (by omega) 1 (.float .f64 z2))
                        refine hK.out _ _ ?_ (fun hHeld => ?_)
                        · exact HS.out _ (HY9.out.trans (HN5.out.mono hsz9))
                        clear hK K
                        generalize ((W4.setCell ⟨W0.heap.size, 0, none⟩ (.bool f2)).setCell ⟨W0.heap.size, 1, none⟩ (.float .f64 z2)) = W5 at HN5 B75 B85 hHeld ⊢
                        try simp only [List.getElem_toArray, List.getElem_cons_succ, List.getElem_cons_zero, Act.put, List.setIfInBounds_toArray, List.set_cons_zero, List.set_cons_succ]
                        refine wpAnyH_ready (rs := [26]) (by kernel_rfl) (by simp) ?_
                        refine AllReadyH.cons rfl (fun K hK => ?_) ?_
                        · obtain ⟨x0, x1, x2, x3⟩ := B85.out.facts
                          go_simp
                          have HN6 := Lib.hid ((HN5.out.setCell (p := ⟨W3.heap.size, 0, none⟩) hge8 (.bool f3)).setCell (p := ⟨W3.heap.size, 1, none⟩) hge8 (.float .f64 z3))
                          have B86 := Lib.hid (B85.out.put f3 z3)
                          have B76 := Lib.hid ((B75.out.far (c := W3.heap.size) (by omega) 0 (.bool f3)).far (c := W3.heap.size) (by omega) 1 (.float .f64 z3))
                          refine hK.out _ _ ?_ (fun hHeld => ?_)
                          · exact HS.out _ (HY9.out.trans (HN6.out.mono hsz9))
                          clear hK K
                          generalize ((W5.setCell ⟨W3.heap.size, 0, none⟩ (.bool f3)).setCell ⟨W3.heap.size, 1, none⟩ (.float .f64 z3)) = W6 at HN6 B86 B76 hHeld ⊢
                          try simp only [List.getElem_toArray, List.getElem_cons_succ, List.getElem_cons_zero, Act.put, List.setIfInBounds_toArray, List.set_cons_zero, List.set_cons_succ]
                          refine wpAnyH_done (by kernel_rfl) ?_ _
                          go_wp2_with fail
                          go_meet
                          case rel => exact ⟨_, f3, z3, rfl, hge8, HN6, B86, HF3⟩
                        exact AllReadyH.nil
                      exact AllReadyH.nil
                    exact AllReadyH.nil
                  refine AllReadyH.cons rfl (fun K hK => ?_) ?_
                  · go_simp
                    have HN3 := Lib.hid (HN2.out.alloc HN2.out.size (.cells #[.bool false, .float .f64 0] 30))
                    have B83 := Lib.hid (Bx.new W2 false 0)
                    have hge8 : wd.heap.size ≤ W2.heap.size := HN2.out.size
                    have hne : W0.heap.size ≠ W2.heap.size := Nat.ne_of_lt B72.out.lt
                    have B73 := Lib.hid (B72.out.alloc (.cells #[.bool false, .float .f64 0] 30))
                    refine hK.out _ _ ?_ (fun hHeld => ?_)
                    · exact HS.out _ (HY9.out.trans (HN3.out.mono hsz9))
                    clear hK K
                    generalize W2.alloc (.cells #[.bool false, .float .f64 0] 30) = W3 at HN3 B83 B73 hHeld ⊢
                    try simp only [List.getElem_toArray, List.getElem_cons_succ, List.getElem_cons_zero, Act.put, List.setIfInBounds_toArray, List.set_cons_zero, List.set_cons_succ]
                    refine wpAnyH_ready (rs := [19]) (by kernel_rfl) (by simp) ?_
                    refine AllReadyH.cons rfl (fun K hK => ?_) ?_
                    · go_simp
                      (go_at_call 24; (with_reducible refine (CD.out _ _ HF1.out _).mono ?_); rintro E W4 ⟨f2, z2, f3, z3, rfl, hf2, hf, hb⟩; have HF3 := Lib.hid (Fit.told HF1.out hf); clear hf2; have HN4 := Lib.hid (HN3.out.trans (hb.mono HN3.out.size)); have B74 := Lib.hid (B73.out.on hb); have B84 := Lib.hid (B83.out.on hb); clear hf hb)
                      refine hK.out _ _ ?_ (fun hHeld => ?_)
                      · exact HS.out _ (HY9.out.trans (HN4.out.mono hsz9))
                      clear hK K
                      try simp only [List.getElem_toArray, List.getElem_cons_succ, List.getElem_cons_zero, Act.put, List.setIfInBounds_toArray, List.set_cons_zero, List.set_cons_succ]
                      refine wpAnyH_take (i := 20) (v := ?_) rfl (by kernel_rfl) (by kernel_rfl) (by kernel_rfl) (fun _ _ _ h => h) (Or.inl ⟨by rfl, fun w hSw => ?_⟩) (by assumption) ?_
                      rotate_left
                      · (try dsimp only at hSw); go_simp; (try with_reducible rfl)
                      try simp only [List.getElem_toArray, List.getElem_cons_succ, List.getElem_cons_zero, Act.put, List.setIfInBounds_toArray, List.set_cons_zero, List.set_cons_succ]
                      refine wpAnyH_take (i := 21) (v := ?_) rfl (by kernel_rfl) (by kernel_rfl) (by kernel_rfl) (fun _ _ _ h => h) (Or.inl ⟨by rfl, fun w hSw => ?_⟩) (by assumption) ?_
                      rotate_left
                      · (try dsimp only at hSw); go_simp; (try with_reducible rfl)
                      try simp only [List.getElem_toArray, List.getElem_cons_succ, List.getElem_cons_zero, Act.put, List.setIfInBounds_toArray, List.set_cons_zero, List.set_cons_succ]
                      refine wpAnyH_take (i := 22) (v := ?_) rfl (by kernel_rfl) (by kernel_rfl) (by kernel_rfl) (fun _ _ _ h => h) (Or.inl ⟨by rfl, fun w hSw => ?_⟩) (by assumption) ?_
                      rotate_left
                      · (try dsimp only at hSw); go_simp; (try with_reducible rfl)
                      try simp only [List.getElem_toArray, List.getElem_cons_succ, List.getElem_cons_zero, Act.put, List.setIfInBounds_toArray, List.set_cons_zero, List.set_cons_succ]
                      refine wpAnyH_ready (rs := [25]) (by kernel_rfl) (by simp) ?_
                      refine AllReadyH.cons rfl (fun K hK => ?_) ?_
                      · obtain ⟨x0, x1, x2, x3⟩ := B74.out.facts
                        go_simp
                        have HN5 := Lib.hid ((HN4.out.setCell (p := ⟨W0.heap.size, 0, none⟩) hge7 (.bool f2)).setCell (p := ⟨W0.heap.size, 1, none⟩) hge7 (.float .f64 z2))
                        have B75 := Lib.hid (B74.out.put f2 z2)
                        have B85 := Lib.hid ((B84.out.far (c := W0.heap.size) (by omega) 0 (.bool f2)).far (c := W0.heap.size) (by omega) 1 (.float .f64 z2))
                        refine hK.out _ _ ?_ (fun hHeld => ?_)
                        · exact HS.out _ (HY9.out.trans (HN5.out.mono hsz9))
                        clear hK K
                        generalize ((W4.setCell ⟨W0.heap.size, 0, none⟩ (.bool f2)).setCell ⟨W0.heap.size, 1, none⟩ (.float .f64 z2)) = W5 at HN5 B75 B85 hHeld ⊢
                        try simp only [List.getElem_toArray, List.getElem_cons_succ, List.getElem_cons_zero, Act.put, List.setIfInBounds_toArray, List.set_cons_zero, List.set_cons_succ]
                        refine wpAnyH_ready (rs := [26]) (by kernel_rfl) (by simp) ?_
                        refine AllReadyH.cons rfl (fun K hK => ?_) ?_
                        · obtain ⟨x0, x1, x2, x3⟩ := B85.out.facts
                          go_simp
                          have HN6 := Lib.hid ((HN5.out.setCell (p := ⟨W2.heap.size, 0, none⟩) hge8 (.bool f3)).setCell (p := ⟨W2.heap.size, 1, none⟩) hge8 (.float .f64 z3))
                          have B86 := Lib.hid (B85.out.put f3 z3)
                          have B76 := Lib.hid ((B75.out.far (c := W2.heap.size) (by omega) 0 (.bool f3)).far (c := W2.heap.size) (by omega) 1 (.float .f64 z3))
                          refine hK.out _ _ ?_ (fun hHeld => ?_)
                          · exact HS.out _ (HY9.out.trans (HN6.out.mono hsz9))
                          clear hK K
                          generalize ((W5.setCell ⟨W2.heap.size, 0, none⟩ (.bool f3)).setCell ⟨W2.heap.size, 1, none⟩ (.float .f64 z3)) = W6 at HN6 B86 B76 hHeld ⊢
                          try simp only [List.getElem_toArray, List.getElem_cons_succ, List.getElem_cons_zero, Act.put, List.setIfInBounds_toArray, List.set_cons_zero, List.set_cons_succ]
                          refine wpAnyH_done (by kernel_rfl) ?_ _
                          go_wp2_with fail
                          go_meet
                          case rel => exact ⟨_, f3, z3, rfl, hge8, HN6, B86, HF3⟩
                        exact AllReadyH.nil
                      exact AllReadyH.nil
                    exact AllReadyH.nil
                  exact AllReadyH.nil
                refine AllReadyH.cons rfl (fun K hK => ?_) ?_
                · go_simp
                  have HN2 := Lib.hid (HN1.out.alloc HN1.out.size (.cells #[.bool false, .float .f64 0] 30))
                  have B82 := Lib.hid (Bx.new W1 false 0)
                  have hge8 : wd.heap.size ≤ W1.heap.size := HN1.out.size
                  have hne : W0.heap.size ≠ W1.heap.size := Nat.ne_of_lt B71.out.lt
                  have B72 := Lib.hid (B71.out.alloc (.cells #[.bool false, .float .f64 0] 30))
                  refine hK.out _ _ ?_ (fun hHeld => ?_)
                  · exact HS.out _ (HY9.out.trans (HN2.out.mono hsz9))
                  clear hK K
                  generalize W1.alloc (.cells #[.bool false, .float .f64 0] 30) = W2 at HN2 B82 B72 hHeld ⊢
                  try simp only [List.getElem_toArray, List.getElem_cons_succ, List.getElem_cons_zero, Act.put, List.setIfInBounds_toArray, List.set_cons_zero, List.set_cons_succ]
                  refine wpAnyH_ready (rs := [10]) (by kernel_rfl) (by simp) ?_
                  refine AllReadyH.cons rfl (fun K hK => ?_) ?_
                  · go_simp
                    (go_at_call 10; (with_reducible refine (CC.out _ HN2.out).mono ?_); rintro E W3 ⟨f1, z1, rfl, hf, hb⟩; have HF1 := Lib.hid hf; have HN3 := Lib.hid (HN2.out.trans (hb.mono HN2.out.size)); have B73 := Lib.hid (B72.out.on hb); have B83 := Lib.hid (B82.out.on hb); clear hf hb)
                    refine hK.out _ _ ?_ (fun hHeld => ?_)
                    · exact HS.out _ (HY9.out.trans (HN3.out.mono hsz9))
                    clear hK K
                    try simp only [List.getElem_toArray, List.getElem_cons_succ, List.getElem_cons_zero, Act.put, List.setIfInBounds_toArray, List.set_cons_zero, List.set_cons_succ]
                    refine wpAnyH_ready (rs := [19]) (by kernel_rfl) (by simp) ?_
                    refine AllReadyH.cons rfl (fun K hK => ?_) ?_
                    · go_simp
                      (go_at_call 24; (with_reducible refine (CD.out _ _ HF1.out _).mono ?_); rintro E W4 ⟨f2, z2, f3, z3, rfl, hf2, hf, hb⟩; have HF3 := Lib.hid (Fit.told HF1.out hf); clear hf2; have HN4 := Lib.hid (HN3.out.trans (hb.mono HN3.out.size)); have B74 := Lib.hid (B73.out.on hb); have B84 := Lib.hid (B83.out.on hb); clear hf hb)
                      refine hK.out _ _ ?_ (fun hHeld => ?_)
                      · exact HS.out _ (HY9.out.trans (HN4.out.mono hsz9))
                      clear hK K
                      try simp only [List.getElem_toArray, List.getElem_cons_succ, List.getElem_cons_zero, Act.put, List.setIfInBounds_toArray, List.set_cons_zero, List.set_cons_succ]
                      refine wpAnyH_take (i := 20) (v := ?_) rfl (by kernel_rfl) (by kernel_rfl) (by kernel_rfl) (fun _ _ _ h => h) (Or.inl ⟨by rfl, fun w hSw => ?_⟩) (by assumption) ?_
                      rotate_left
                      · (try dsimp only at hSw); go_simp; (try with_reducible rfl)
                      try simp only [List.getElem_toArray, List.getElem_cons_succ, List.getElem_cons_zero, Act.put, List.setIfInBounds_toArray, List.set_cons_zero, List.set_cons_succ]
                      refine wpAnyH_take (i := 21) (v := ?_) rfl (by kernel_rfl) (by kernel_rfl) (by kernel_rfl) (fun _ _ _ h => h) (Or.inl ⟨by rfl, fun w hSw => ?_⟩) (by assumption) ?_
                      rotate_left
                      · (try dsimp only at hSw); go_simp; (try with_reducible rfl)
                      try simp only [List.getElem_toArray, List.getElem_cons_succ, List.getElem_cons_zero, Act.put, List.setIfInBounds_toArray, List.set_cons_zero, List.set_cons_succ]
                      refine wpAnyH_take (i := 22) (v := ?_) rfl (by kernel_rfl) (by kernel_rfl) (by kernel_rfl) (fun _ _ _ h => h) (Or.inl ⟨by rfl, fun w hSw => ?_⟩) (by assumption) ?_
                      rotate_left
                      · (try dsimp only at hSw); go_simp; (try with_reducible rfl)
                      try simp only [List.getElem_toArray, List.getElem_cons_succ, List.getElem_cons_zero, Act.put, List.setIfInBounds_toArray, List.set_cons_zero, List.set_cons_succ]
                      refine wpAnyH_ready (rs := [25]) (by kernel_rfl) (by simp) ?_
                      refine AllReadyH.cons rfl (fun K hK => ?_) ?_
                      · obtain ⟨x0, x1, x2, x3⟩ := B74.out.facts
                        go_simp
                        have HN5 := Lib.hid ((HN4.out.setCell (p := ⟨W0.heap.size, 0, none⟩) hge7 (.bool f2)).setCell (p := ⟨W0.heap.size, 1, none⟩) hge7 (.float .f64 z2))
                        have B75 := Lib.hid (B74.out.put f2 z2)
                        have B85 := Lib.hid ((B84.out.far (c := W0.heap.size) (by omega) 0 (.bool f2)).far (c := W0.heap.size) (by omega) 1 (.float .f64 z2))
                        refine hK.out _ _ ?_ (fun hHeld => ?_)
                        · exact HS.out _ (HY9.out.trans (HN5.out.mono hsz9))
                        clear hK K
                        generalize ((W4.setCell ⟨W0.heap.size, 0, none⟩ (.bool f2)).setCell ⟨W0.heap.size, 1, none⟩ (.float .f64 z2)) = W5 at HN5 B75 B85 hHeld ⊢
                        try simp only [List.getElem_toArray, List.getElem_cons_succ, List.getElem_cons_zero, Act.put, List.setIfInBounds_toArray, List.set_cons_zero, List.set_cons_succ]
                        refine wpAnyH_ready (rs := [26]) (by kernel_rfl) (by simp) ?_
                        refine AllReadyH.cons rfl (fun K hK => ?_) ?_
                        · obtain ⟨x0, x1, x2, x3⟩ := B85.out.facts
                          go_simp
                          have HN6 := Lib.hid ((HN5.out.setCell (p := ⟨W1.heap.size, 0, none⟩) hge8 (.bool f3)).setCell (p := ⟨W1.heap.size, 1, none⟩) hge8 (.float .f64 z3))
                          have B86 := Lib.hid (B85.out.put f3 z3)
                          have B76 := Lib.hid ((B75.out.far (c := W1.heap.size) (by omega) 0 (.bool f3)).far (c := W1.heap.size) (by omega) 1 (.float .f64 z3))
                          refine hK.out _ _ ?_ (fun hHeld => ?_)
                          · exact HS.out _ (HY9.out.trans (HN6.out.mono hsz9))
                          clear hK K
                          generalize ((W5.setCell ⟨W1.heap.size, 0, none⟩ (.bool f3)).setCell ⟨W1.heap.size, 1, none⟩ (.float .f64 z3)) = W6 at HN6 B86 B76 hHeld ⊢
                          try simp only [List.getElem_toArray, List.getElem_cons_succ, List.getElem_cons_zero, Act.put, List.setIfInBounds_toArray, List.set_cons_zero, List.set_cons_succ]
                          refine wpAnyH_done (by kernel_rfl) ?_ _
                          go_wp2_with fail
                          go_meet
                          case rel => exact ⟨_, f3, z3, rfl, hge8, HN6, B86, HF3⟩
                        exact AllReadyH.nil
                      exact AllReadyH.nil
                    exact AllReadyH.nil
                  exact AllReadyH.nil
                exact AllReadyH.nil
              refine AllReadyH.cons rfl (fun K hK => ?_) ?_
              · go_simp
                have HN1 := Lib.hid (HN0.out.alloc HN0.out.size (.cells #[.bool false, .float .f64 0] 30))
                have B81 := Lib.hid (Bx.new W0 false 0)
                have hge8 : wd.heap.size ≤ W0.heap.size := HN0.out.size
                refine hK.out _ _ ?_ (fun hHeld => ?_)
                · exact HS.out _ (HY9.out.trans (HN1.out.mono hsz9))
                clear hK K
                generalize W0.alloc (.cells #[.bool false, .float .f64 0] 30) = W1 at HN1 B81 hHeld ⊢
                try simp only [List.getElem_toArray, List.getElem_cons_succ, List.getElem_cons_zero, Act.put, List.setIfInBounds_toArray, List.set_cons_zero, List.set_cons_succ]
                refine wpAnyH_ready (rs := [10, 23]) (by kernel_rfl) (by simp) ?_
                refine AllReadyH.cons rfl (fun K hK => ?_) ?_
                · go_simp
                  (go_at_call 10; (with_reducible refine (CC.out _ HN1.out).mono ?_); rintro E W2 ⟨f1, z1, rfl, hf, hb⟩; have HF1 := Lib.hid hf; have HN2 := Lib.hid (HN1.out.trans (hb.mono HN1.out.size)); have B82 := Lib.hid (B81.out.on hb); clear hf hb)
                  refine hK.out _ _ ?_ (fun hHeld => ?_)
                  · exact HS.out _ (HY9.out.trans (HN2.out.mono hsz9))
                  clear hK K
                  try simp only [List.getElem_toArray, List.getElem_cons_succ, List.getElem_cons_zero, Act.put, List.setIfInBounds_toArray, List.set_cons_zero, List.set_cons_succ]
                  refine wpAnyH_ready (rs := [19, 23]) (by kernel_rfl) (by simp) ?_
                  refine AllReadyH.cons rfl (fun K hK => ?_) ?_
                  · go_simp
                    (go_at_call 24; (with_reducible refine (CD.out _ _ HF1.out _).mono ?_); rintro E W3 ⟨f2, z2, f3, z3, rfl, hf2, hf, hb⟩; have HF3 := Lib.hid (Fit.told HF1.out hf); clear hf2; have HN3 := Lib.hid (HN2.out.trans (hb.mono HN2.out.size)); have B83 := Lib.hid (B82.out.on hb); clear hf hb)
                    refine hK.out _ _ ?_ (fun hHeld => ?_)
                    · exact HS.out _ (HY9.out.trans (HN3.out.mono hsz9))
                    clear hK K
                    try simp only [List.getElem_toArray, List.getElem_cons_succ, List.getElem_cons_zero, Act.put, List.setIfInBounds_toArray, List.set_cons_zero, List.set_cons_succ]
                    refine wpAnyH_take (i := 20) (v := ?_) rfl (by kernel_rfl) (by kernel_rfl) (by kernel_rfl) (fun _ _ _ h => h) (Or.inl ⟨by rfl, fun w hSw => ?_⟩) (by assumption) ?_
                    rotate_left
                    · (try dsimp only at hSw); go_simp; (try with_reducible rfl)
                    try simp only [List.getElem_toArray, List.getElem_cons_succ, List.getElem_cons_zero, Act.put, List.setIfInBounds_toArray, List.set_cons_zero, List.set_cons_succ]
                    refine wpAnyH_take (i := 21) (v := ?_) rfl (by kernel_rfl) (by kernel_rfl) (by kernel_rfl) (fun _ _ _ h => h) (Or.inl ⟨by rfl, fun w hSw => ?_⟩) (by assumption) ?_
                    rotate_left
                    · (try dsimp only at hSw); go_simp; (try with_reducible rfl)
                    try simp only [List.getElem_toArray, List.getElem_cons_succ, List.getElem_cons_zero, Act.put, List.setIfInBounds_toArray, List.set_cons_zero, List.set_cons_succ]
                    refine wpAnyH_take (i := 22) (v := ?_) rfl (by kernel_rfl) (by kernel_rfl) (by kernel_rfl) (fun _ _ _ h => h) (Or.inl ⟨by rfl, fun w hSw => ?_⟩) (by assumption) ?_
                    rotate_left
                    · (try dsimp only at hSw); go_simp; (try with_reducible rfl)
                    try simp only [List.getElem_toArray, List.getElem_cons_succ, List.getElem_cons_zero, Act.put, List.setIfInBounds_toArray, List.set_cons_zero, List.set_cons_succ]
                    refine wpAnyH_ready (rs := [23]) (by kernel_rfl) (by simp) ?_
                    refine AllReadyH.cons rfl (fun K hK => ?_) ?_
                    · go_simp
                      have HN4 := Lib.hid (HN3.out.alloc HN3.out.size (.cells #[.bool false, .float .f64 0] 30))
                      have B74 := Lib.hid (Bx.new W3 false 0)
                      have hge7 : wd.heap.size ≤ W3.heap.size := HN3.out.size
                      have hne : W0.heap.size ≠ W3.heap.size := Nat.ne_of_lt B83.out.lt
                      have B84 := Lib.hid (B83.out.alloc (.cells #[.bool false, .float .f64 0] 30))
                      refine hK.out _ _ ?_ (fun hHeld => ?_)
                      · exact HS.out _ (HY9.out.trans (HN4.out.mono hsz9))
                      clear hK K
                      generalize W3.alloc (.cells #[.bool false, .float .f64 0] 30) = W4 at HN4 B74 B84 hHeld ⊢
                      try simp only [List.getElem_toArray, List.getElem_cons_succ, List.getElem_cons_zero, Act.put, List.setIfInBounds_toArray, List.set_cons_zero, List.set_cons_succ]
                      refine wpAnyH_ready (rs := [25]) (by kernel_rfl) (by simp) ?_
                      refine AllReadyH.cons rfl (fun K hK => ?_) ?_
                      · obtain ⟨x0, x1, x2, x3⟩ := B74.out.facts
                        go_simp
                        have HN5 := Lib.hid ((HN4.out.setCell (p := ⟨W3.heap.size, 0, none⟩) hge7 (.bool f2)).setCell (p := ⟨W3.heap.size, 1, none⟩) hge7 (.float .f64 z2))
                        have B75 := Lib.hid (B74.out.put f2 z2)
                        have B85 := Lib.hid ((B84.out.far (c := W3.heap.size) (by omega) 0 (.bool f2)).far (c := W3.heap.size) (by omega) 1 (.float .f64 z2))
                        refine hK.out _ _ ?_ (fun hHeld => ?_)
                        · exact HS.out _ (HY9.out.trans (HN5.out.mono hsz9))
                        clear hK K
                        generalize ((W4.setCell ⟨W3.heap.size, 0, none⟩ (.bool f2)).setCell ⟨W3.heap.size, 1, none⟩ (.float .f64 z2)) = W5 at HN5 B75 B85 hHeld ⊢
                        try simp only [List.getElem_toArray, List.getElem_cons_succ, List.getElem_cons_zero, Act.put, List.setIfInBounds_toArray, List.set_cons_zero, List.set_cons_succ]
                        refine wpAnyH_ready (rs := [26]) (by kernel_rfl) (by simp) ?_
                        refine AllReadyH.cons rfl (fun K hK => ?_) ?_
                        · obtain ⟨x0, x1, x2, x3⟩ := B85.out.facts
                          go_simp
                          have HN6 := Lib.hid ((HN5.out.setCell (p := ⟨W0.heap.size, 0, none⟩) hge8 (.bool f3)).setCell (p := ⟨W0.heap.size, 1, none⟩) hge8 (.float .f64 z3))
                          have B86 := Lib.hid (B85.out.put f3 z3)
                          have B76 := Lib.hid ((B75.out.far (c := W0.heap.size) (by omega) 0 (.bool f3)).far (c := W0.heap.size) (by omega) 1 (.float .f64 z3))
                          refine hK.out _ _ ?_ (fun hHeld => ?_)
                          · exact HS.out _ (HY9.out.trans (HN6.out.mono hsz9))
                          clear hK K
                          generalize ((W5.setCell ⟨W0.heap.size, 0, none⟩ (.bool f3)).setCell ⟨W0.heap.size, 1, none⟩ (.float .f64 z3)) = W6 at HN6 B86 B76 hHeld ⊢
                          try simp only [List.getElem_toArray, List.getElem_cons_succ, List.getElem_cons_zero, Act.put, List.setIfInBounds_toArray, List.set_cons_zero, List.set_cons_succ]
                          refine wpAnyH_done (by kernel_rfl) ?_ _
                          go_wp2_with fail
                          go_meet
                          case rel => exact ⟨_, f3, z3, rfl, hge8, HN6, B86, HF3⟩
                        exact AllReadyH.nil
                      exact AllReadyH.nil
                    exact AllReadyH.nil
                  refine AllReadyH.cons rfl (fun K hK => ?_) ?_
                  · go_simp
                    have HN3 := Lib.hid (HN2.out.alloc HN2.out.size (.cells #[.bool false, .float .f64 0] 30))
                    have B73 := Lib.hid (Bx.new W2 false 0)
                    have hge7 : wd.heap.size ≤ W2.heap.size := HN2.out.size
                    have hne : W0.heap.size ≠ W2.heap.size := Nat.ne_of_lt B82.out.lt
                    have B83 := Lib.hid (B82.out.alloc (.cells #[.bool false, .float .f64 0] 30))
                    refine hK.out _ _ ?_ (fun hHeld => ?_)
                    · exact HS.out _ (HY9.out.trans (HN3.out.mono hsz9))
                    clear hK K
                    generalize W2.alloc (.cells #[.bool false, .float .f64 0] 30) = W3 at HN3 B73 B83 hHeld ⊢
                    try simp only [List.getElem_toArray, List.getElem_cons_succ, List.getElem_cons_zero, Act.put, List.setIfInBounds_toArray, List.set_cons_zero, List.set_cons_succ]
                    refine wpAnyH_ready (rs := [19]) (by kernel_rfl) (by simp) ?_
                    refine AllReadyH.cons rfl (fun K hK => ?_) ?_
                    · go_simp
                      (go_at_call 24; (with_reducible refine (CD.out _ _ HF1.out _).mono ?_); rintro E W4 ⟨f2, z2, f3, z3, rfl, hf2, hf, hb⟩; have HF3 := Lib.hid (Fit.told HF1.out hf); clear hf2; have HN4 := Lib.hid (HN3.out.trans (hb.mono HN3.out.size)); have B74 := Lib.hid (B73.out.on hb); have B84 := Lib.hid (B83.out.on hb); clear hf hb)
                      refine hK.out _ _ ?_ (fun hHeld => ?_)
                      · exact HS.out _ (HY9.out.trans (HN4.out.mono hsz9))
                      clear hK K
                      try simp only [List.getElem_toArray, List.getElem_cons_succ, List.getElem_cons_zero, Act.put, List.setIfInBounds_toArray, List.set_cons_zero, List.set_cons_succ]
                      refine wpAnyH_take (i := 20) (v := ?_) rfl (by kernel_rfl) (by kernel_rfl) (by kernel_rfl) (fun _ _ _ h => h) (Or.inl ⟨by rfl, fun w hSw => ?_⟩) (by assumption) ?_
                      rotate_left
                      · (try dsimp only at hSw); go_simp; (try with_reducible rfl)
                      try simp only [List.getElem_toArray, List.getElem_cons_succ, List.getElem_cons_zero, Act.put, List.setIfInBounds_toArray, List.set_cons_zero, List.set_cons_succ]
                      refine wpAnyH_take (i := 21) (v := ?_) rfl (by kernel_rfl) (by kernel_rfl) (by kernel_rfl) (fun _ _ _ h => h) (Or.inl ⟨by rfl, fun w hSw => ?_⟩) (by assumption) ?_
                      rotate_left
                      · (try dsimp only at hSw); go_simp; (try with_reducible rfl)
                      try simp only [List.getElem_toArray, List.getElem_cons_succ, List.getElem_cons_zero, Act.put, List.setIfInBounds_toArray, List.set_cons_zero, List.set_cons_succ]
                      refine wpAnyH_take (i := 22) (v := ?_) rfl (by kernel_rfl) (by kernel_rfl) (by kernel_rfl) (fun _ _ _ h => h) (Or.inl ⟨by rfl, fun w hSw => ?_⟩) (by assumption) ?_
                      rotate_left
                      · (try dsimp only at hSw); go_simp; (try with_reducible rfl)
                      try simp only [List.getElem_toArray, List.getElem_cons_succ, List.getElem_cons_zero, Act.put, List.setIfInBounds_toArray, List.set_cons_zero, List.set_cons_succ]
                      refine wpAnyH_ready (rs := [25]) (by kernel_rfl) (by simp) ?_
                      refine AllReadyH.cons rfl (fun K hK => ?_) ?_
                      · obtain ⟨x0, x1, x2, x3⟩ := B74.out.facts
                        go_simp
                        have HN5 := Lib.hid ((HN4.out.setCell (p := ⟨W2.heap.size, 0, none⟩) hge7 (.bool f2)).setCell (p := ⟨W2.heap.size, 1, none⟩) hge7 (.float .f64 z2))
                        have B75 := Lib.hid (B74.out.put f2 z2)
                        have B85 := Lib.hid ((B84.out.far (c := W2.heap.size) (by omega) 0 (.bool f2)).far (c := W2.heap.size) (by omega) 1 (.float .f64 z2))
                        refine hK.out _ _ ?_ (fun hHeld => ?_)
                        · exact HS.out _ (HY9.out.trans (HN5.out.mono hsz9))
                        clear hK K
                        generalize ((W4.setCell ⟨W2.heap.size, 0, none⟩ (.bool f2)).setCell ⟨W2.heap.size, 1, none⟩ (.float .f64 z2)) = W5 at HN5 B75 B85 hHeld ⊢
                        try simp only [List.getElem_toArray, List.getElem_cons_succ, List.getElem_cons_zero, Act.put, List.setIfInBounds_toArray, List.set_cons_zero, List.set_cons_succ]
                        refine wpAnyH_ready (rs := [26]) (by kernel_rfl) (by simp) ?_
                        refine AllReadyH.cons rfl (fun K hK => ?_) ?_
                        · obtain ⟨x0, x1, x2, x3⟩ := B85.out.facts
                          go_simp
                          have HN6 := Lib.hid ((HN5.out.setCell (p := ⟨W0.heap.size, 0, none⟩) hge8 (.bool f3)).setCell (p := ⟨W0.heap.size, 1, none⟩) hge8 (.float .f64 z3))
                          have B86 := Lib.hid (B85.out.put f3 z3)
                          have B76 := Lib.hid ((B75.out.far (c := W0.heap.size) (by omega) 0 (.bool f3)).far (c := W0.heap.size) (by omega) 1 (.float .f64 z3))
                          refine hK.out _ _ ?_ (fun hHeld => ?_)
                          · exact HS.out _ (HY9.out.trans (HN6.out.mono hsz9))
                          clear hK K
                          generalize ((W5.setCell ⟨W0.heap.size, 0, none⟩ (.bool f3)).setCell ⟨W0.heap.size, 1, none⟩ (.float .f64 z3)) = W6 at HN6 B86 B76 hHeld ⊢
                          try simp only [List.getElem_toArray, List.getElem_cons_succ, List.getElem_cons_zero, Act.put, List.setIfInBounds_toArray, List.set_cons_zero, List.set_cons_succ]
                          refine wpAnyH_done (by kernel_rfl) ?_ _
                          go_wp2_with fail
                          go_meet
                          case rel => exact ⟨_, f3, z3, rfl, hge8, HN6, B86, HF3⟩
                        exact AllReadyH.nil
                      exact AllReadyH.nil
                    exact AllReadyH.nil
                  exact AllReadyH.nil
                refine AllReadyH.cons rfl (fun K hK => ?_) ?_
                · go_simp
                  have HN2 := Lib.hid (HN1.out.alloc HN1.out.size (.cells #[.bool false, .float .f64 0] 30))
                  have B72 := Lib.hid (Bx.new W1 false 0)
                  have hge7 : wd.heap.size ≤ W1.heap.size := HN1.out.size
                  have hne : W0.heap.size ≠ W1.heap.size := Nat.ne_of_lt B81.out.lt
                  have B82 := Lib.hid (B81.out.alloc (.cells #[.bool false, .float .f64 0] 30))
                  refine hK.out _ _ ?_ (fun hHeld => ?_)
                  · exact HS.out _ (HY9.out.trans (HN2.out.mono hsz9))
                  clear hK K
                  generalize W1.alloc (.cells #[.bool false, .float .f64 0] 30) = W2 at HN2 B72 B82 hHeld ⊢
                  try simp only [List.getElem_toArray, List.getElem_cons_succ, List.getElem_cons_zero, Act.put, List.setIfInBounds_toArray, List.set_cons_zero, List.set_cons_succ]
                  refine wpAnyH_ready (rs := [10]) (by kernel_rfl) (by simp) ?_
                  refine AllReadyH.cons rfl (fun K hK => ?_) ?_
                  · go_simp
                    (go_at_call 10; (with_reducible refine (CC.out _ HN2.out).mono ?_); rintro E W3 ⟨f1, z1, rfl, hf, hb⟩; have HF1 := Lib.hid hf; have HN3 := Lib.hid (HN2.out.trans (hb.mono HN2.out.size)); have B73 := Lib.hid (B72.out.on hb); have B83 := Lib.hid (B82.out.on hb); clear hf hb)
                    refine hK.out _ _ ?_ (fun hHeld => ?_)
                    · exact HS.out _ (HY9.out.trans (HN3.out.mono hsz9))
                    clear hK K
                    try simp only [List.getElem_toArray, List.getElem_cons_succ, List.getElem_cons_zero, Act.put, List.setIfInBounds_toArray, List.set_cons_zero, List.set_cons_succ]
                    refine wpAnyH_ready (rs := [19]) (by kernel_rfl) (by simp) ?_
                    refine AllReadyH.cons rfl (fun K hK => ?_) ?_
                    · go_simp
                      (go_at_call 24; (with_reducible refine (CD.out _ _ HF1.out _).mono ?_); rintro E W4 ⟨f2, z2, f3, z3, rfl, hf2, hf, hb⟩; have HF3 := Lib.hid (Fit.told HF1.out hf); clear hf2; have HN4 := Lib.hid (HN3.out.trans (hb.mono HN3.out.size)); have B74 := Lib.hid (B73.out.on hb); have B84 := Lib.hid (B83.out.on hb); clear hf hb)
                      refine hK.out _ _ ?_ (fun hHeld => ?_)
                      · exact HS.out _ (HY9.out.trans (HN4.out.mono hsz9))
                      clear hK K
                      try simp only [List.getElem_toArray, List.getElem_cons_succ, List.getElem_cons_zero, Act.put, List.setIfInBounds_toArray, List.set_cons_zero, List.set_cons_succ]
                      refine wpAnyH_take (i := 20) (v := ?_) rfl (by kernel_rfl) (by kernel_rfl) (by kernel_rfl) (fun _ _ _ h => h) (Or.inl ⟨by rfl, fun w hSw => ?_⟩) (by assumption) ?_
                      rotate_left
                      · (try dsimp only at hSw); go_simp; (try with_reducible rfl)
                      try simp only [List.getElem_toArray, List.getElem_cons_succ, List.getElem_cons_zero, Act.put, List.setIfInBounds_toArray, List.set_cons_zero, List.set_cons_succ]
                      refine wpAnyH_take (i := 21) (v := ?_) rfl (by kernel_rfl) (by kernel_rfl) (by kernel_rfl) (fun _ _ _ h => h) (Or.inl ⟨by rfl, fun w hSw => ?_⟩) (by assumption) ?_
                      rotate_left
                      · (try dsimp only at hSw); go_simp; (try with_reducible rfl)
                      try simp only [List.getElem_toArray, List.getElem_cons_succ, List.getElem_cons_zero, Act.put, List.setIfInBounds_toArray, List.set_cons_zero, List.set_cons_succ]
                      refine wpAnyH_take (i := 22) (v := ?_) rfl (by kernel_rfl) (by kernel_rfl) (by kernel_rfl) (fun _ _ _ h => h) (Or.inl ⟨by rfl, fun w hSw => ?_⟩) (by assumption) ?_
                      rotate_left
                      · (try dsimp only at hSw); go_simp; (try with_reducible rfl)
                      try simp only [List.getElem_toArray, List.getElem_cons_succ, List.getElem_cons_zero, Act.put, List.setIfInBounds_toArray, List.set_cons_zero, List.set_cons_succ]
                      refine wpAnyH_ready (rs := [25]) (by kernel_rfl) (by simp) ?_
                      refine AllReadyH.cons rfl (fun K hK => ?_) ?_
                      · obtain ⟨x0, x1, x2, x3⟩ := B74.out.facts
                        go_simp
                        have HN5 := Lib.hid ((HN4.out.setCell (p := ⟨W1.heap.size, 0, none⟩) hge7 (.bool f2)).setCell (p := ⟨W1.heap.size, 1, none⟩) hge7 (.float .f64 z2))
                        have B75 := Lib.hid (B74.out.put f2 z2)
                        have B85 := Lib.hid ((B84.out.far (c := W1.heap.size) (by omega) 0 (.bool f2)).far (c := W1.heap.size) (by omega) 1 (.float .f64 z2))
                        refine hK.out _ _ ?_ (fun hHeld => ?_)
                        · exact HS.out _ (HY9.out.trans (HN5.out.mono hsz9))
                        clear hK K
                        generalize ((W4.setCell ⟨W1.heap.size, 0, none⟩ (.bool f2)).setCell ⟨W1.heap.size, 1, none⟩ (.float .f64 z2)) = W5 at HN5 B75 B85 hHeld ⊢
                        try simp only [List.getElem_toArray, List.getElem_cons_succ, List.getElem_cons_zero, Act.put, List.setIfInBounds_toArray, List.set_cons_zero, List.set_cons_succ]
                        refine wpAnyH_ready (rs := [26]) (by kernel_rfl) (by simp) ?_
                        refine AllReadyH.cons rfl (fun K hK => ?_) ?_
                        · obtain ⟨x0, x1, x2, x3⟩ := B85.out.facts
                          go_simp
                          have HN6 := Lib.hid ((HN5.out.setCell (p := ⟨W0.heap.size, 0, none⟩) hge8 (.bool f3)).setCell (p := ⟨W0.heap.size, 1, none⟩) hge8 (.float .f64 z3))
                          have B86 := Lib.hid (B85.out.put f3 z3)
                          have B76 := Lib.hid ((B75.out.far (c := W0.heap.size) (by omega) 0 (.bool f3)).far (c := W0.heap.size) (by omega) 1 (.float .f64 z3))
                          refine hK.out _ _ ?_ (fun hHeld => ?_)
                          · exact HS.out _ (HY9.out.trans (HN6.out.mono hsz9))
                          clear hK K
                          generalize ((W5.setCell ⟨W0.heap.size, 0, none⟩ (.bool f3)).setCell ⟨W0.heap.size, 1, none⟩ (.float .f64 z3)) = W6 at HN6 B86 B76 hHeld ⊢
                          try simp only [List.getElem_toArray, List.getElem_cons_succ, List.getElem_cons_zero, Act.put, List.setIfInBounds_toArray, List.set_cons_zero, List.set_cons_succ]
                          refine wpAnyH_done (by kernel_rfl) ?_ _
                          go_wp2_with fail
                          go_meet
                          case rel => exact ⟨_, f3, z3, rfl, hge8, HN6, B86, HF3⟩
                        exact AllReadyH.nil
                      exact AllReadyH.nil
                    exact AllReadyH.nil
                  exact AllReadyH.nil
                exact AllReadyH.nil
              exact AllReadyH.nil
            case rest =>
              obtain ⟨g, f, z, rfl, hgw, HNX, HBX, HFX⟩ := hcut
              have HYX := Lib.hid (HY9.out.trans (HNX.out.mono hsz9))
              have hszx : w.heap.size ≤ wc.heap.size := HYX.out.size
              have HOX : Hid (wdR.Own 67 wc w.heap.size u3 ys) := Lib.hid (own_under HO9.out HNX.out HOL9.out)
              have HN0 := Lib.hid ((Below.refl wc.heap.size wc).drew)
              have HB0 := Lib.hid HBX.out.drewn
              have HSX : Hid (∀ w', Below w.heap.size w w' → Bx g f z w' → w'.cell? ⟨B, off + i * 3, none⟩ = some (.int .i64 a1) ∧ w'.cell? ⟨B, off + i * 3 + 1, none⟩ = some (.int .i64 a2) ∧ w'.cell? ⟨g, 0, none⟩ = some (.bool f) ∧ w'.cell? ⟨g, 1, none⟩ = some (.float .f64 z)) := Lib.hid fun W hb hbx => by
                obtain ⟨c0, c1, -⟩ := HP0.out W hb
                obtain ⟨b0, b1, -, -⟩ := hbx.facts
                exact ⟨c0, c1, b0, b1⟩
              have hlen : ys.length + 1 ≤ 1000000 := by
                have h1 := HZ.out.len
                have h2 := HLP.out
                have h3 : (resP (xs.take i) (a1, a2) cs k).length = k := by unfold resP; rw [List.length_map, List.length_range]
                rw [List.length_append, h3] at h1; omega
              have HLN := Lib.hid hlen
              clear hlen
              go_wp2_with fail
              refine wp_region_held_drew (S := (fun w' => w'.cell? ⟨B, off + i * 3, none⟩ = some (.int .i64 a1) ∧ w'.cell? ⟨B, off + i * 3 + 1, none⟩ = some (.int .i64 a2) ∧ w'.cell? ⟨g, 0, none⟩ = some (.bool f) ∧ w'.cell? ⟨g, 1, none⟩ = some (.float .f64 z))) (by kernel_rfl) (HSX.out _ (HYX.out.trans (HN0.out.mono hszx)) HB0.out) (fun hHeld => ?_)
              refine wpAnyH_take (i := 0) (v := ?_) rfl (by kernel_rfl) (by kernel_rfl) (by kernel_rfl) (fun _ _ _ h => h) (Or.inl ⟨by rfl, fun w hSw => ?_⟩) (by assumption) ?_
              rotate_left
              · (try dsimp only at hSw); go_simp; (try with_reducible rfl)
              try simp only [List.getElem_toArray, List.getElem_cons_succ, List.getElem_cons_zero, Act.put, List.setIfInBounds_toArray, List.set_cons_zero, List.set_cons_succ]
              refine wpAnyH_take (i := 1) (v := ?_) rfl (by kernel_rfl) (by kernel_rfl) (by kernel_rfl) (fun _ _ _ h => h) (Or.inl ⟨by rfl, fun w hSw => ?_⟩) (by assumption) ?_
              rotate_left
              · (try dsimp only at hSw); go_simp; (try with_reducible rfl)
              try simp only [List.getElem_toArray, List.getElem_cons_succ, List.getElem_cons_zero, Act.put, List.setIfInBounds_toArray, List.set_cons_zero, List.set_cons_succ]
              refine wpAnyH_take (i := 2) (v := ?_) rfl (by kernel_rfl) (by kernel_rfl) (by kernel_rfl) (fun _ _ _ h => h) (Or.inl ⟨by rfl, fun w hSw => ?_⟩) (by assumption) ?_
              rotate_left
              · (try dsimp only at hSw); go_simp; (try with_reducible rfl)
              try simp only [List.getElem_toArray, List.getElem_cons_succ, List.getElem_cons_zero, Act.put, List.setIfInBounds_toArray, List.set_cons_zero, List.set_cons_succ]
              refine wpAnyH_take (i := 3) (v := ?_) rfl (by kernel_rfl) (by kernel_rfl) (by kernel_rfl) (fun _ _ _ h => h) (Or.inl ⟨by rfl, fun w hSw => ?_⟩) (by assumption) ?_
              rotate_left
              · (try dsimp only at hSw); go_simp; (try with_reducible rfl)
              try simp only [List.getElem_toArray, List.getElem_cons_succ, List.getElem_cons_zero, Act.put, List.setIfInBounds_toArray, List.set_cons_zero, List.set_cons_succ]
              refine wpAnyH_take (i := 4) (v := ?_) rfl (by kernel_rfl) (by kernel_rfl) (by kernel_rfl) (fun _ _ _ h => h) (Or.inl ⟨by rfl, fun w hSw => ?_⟩) (by assumption) ?_
              rotate_left
              · (try dsimp only at hSw); go_simp; (try with_reducible rfl)
              try simp only [List.getElem_toArray, List.getElem_cons_succ, List.getElem_cons_zero, Act.put, List.setIfInBounds_toArray, List.set_cons_zero, List.set_cons_succ]
              refine wpAnyH_take (i := 5) (v := ?_) rfl (by kernel_rfl) (by kernel_rfl) (by kernel_rfl) (fun _ _ _ h => h) (Or.inl ⟨by rfl, fun w hSw => ?_⟩) (by assumption) ?_
              rotate_left
              · (try dsimp only at hSw); go_simp; (try with_reducible rfl)
              try simp only [List.getElem_toArray, List.getElem_cons_succ, List.getElem_cons_zero, Act.put, List.setIfInBounds_toArray, List.set_cons_zero, List.set_cons_succ]
              refine wpAnyH_take (i := 6) (v := ?_) rfl (by kernel_rfl) (by kernel_rfl) (by kernel_rfl) (fun _ _ _ h => h) (Or.inl ⟨by rfl, fun w hSw => ?_⟩) (by assumption) ?_
              rotate_left
              · (try dsimp only at hSw); go_simp; (try with_reducible rfl)
              try simp only [List.getElem_toArray, List.getElem_cons_succ, List.getElem_cons_zero, Act.put, List.setIfInBounds_toArray, List.set_cons_zero, List.set_cons_succ]
              refine wpAnyH_take (i := 7) (v := ?_) rfl (by kernel_rfl) (by kernel_rfl) (by kernel_rfl) (fun _ _ _ h => h) (Or.inl ⟨by rfl, fun w hSw => ?_⟩) (by assumption) ?_
              rotate_left
              · (try dsimp only at hSw); go_simp; (try with_reducible rfl)
              try simp only [List.getElem_toArray, List.getElem_cons_succ, List.getElem_cons_zero, Act.put, List.setIfInBounds_toArray, List.set_cons_zero, List.set_cons_succ]
              refine wpAnyH_take (i := 8) (v := ?_) rfl (by kernel_rfl) (by kernel_rfl) (by kernel_rfl) (fun _ _ _ h => h) (Or.inl ⟨by rfl, fun w hSw => ?_⟩) (by assumption) ?_
              rotate_left
              · (try dsimp only at hSw); go_simp; (try with_reducible rfl)
              try simp only [List.getElem_toArray, List.getElem_cons_succ, List.getElem_cons_zero, Act.put, List.setIfInBounds_toArray, List.set_cons_zero, List.set_cons_succ]
              refine wpAnyH_ready (rs := [9]) (by kernel_rfl) (by simp) ?_
              refine AllReadyH.cons rfl (fun K hK => ?_) ?_
              rotate_left
              · exact AllReadyH.nil
              go_simp
              have HN1 := Lib.hid (HN0.out.alloc HN0.out.size (.cells #[.int .i64 a1, .int .i64 a2, .int .i64 k, .bool f, .float .f64 z] 67)); have HB1 := Lib.hid (HB0.out.alloc (.cells #[.int .i64 a1, .int .i64 a2, .int .i64 k, .bool f, .float .f64 z] 67)); have HO1 := Lib.hid (Wd.Own.below HOX.out HN1.out); have HR1 := Lib.hid (Wd.lone (D := wdR) 67 wc.drew ((a1, a2), (k : Int), (f, z)) #[.int .i64 a1, .int .i64 a2, .int .i64 k, .bool f, .float .f64 z] rfl)
              refine hK.out _ _ ?_ (fun hHeld => ?_)
              · exact HSX.out _ (HYX.out.trans (HN1.out.mono hszx)) HB1.out
              clear hK K
              try simp only [List.getElem_toArray, List.getElem_cons_succ, List.getElem_cons_zero, Act.put, List.setIfInBounds_toArray, List.set_cons_zero, List.set_cons_succ]
              refine wpAnyH_ready (rs := [10]) (by kernel_rfl) (by simp) ?_
              refine AllReadyH.cons rfl (fun K hK => ?_) ?_
              rotate_left
              · exact AllReadyH.nil
              refine step_wide wtR (by rfl) (.tmp 64) (.tmp 73) (by rfl) w.heap.size _ _ (by rfl) HO1.out (HYX.out.trans (HN1.out.mono hszx)).size _ [((a1, a2), (k : Int), (f, z))] (by rfl) HR1.out HLN.out ?_; intro v5 W5 o5 o6 o7; have HY5 := Lib.hid ((HYX.out.trans (HN1.out.mono hszx)).trans o6.out); have HB5 := Lib.hid (HB1.out.same (o7.out.block g HB1.out.lt (by intro e; have := HOL9.out g e.symm; omega)))
              refine hK.out _ _ ?_ (fun hHeld => ?_)
              · exact HSX.out _ HY5.out HB5.out
              clear hK K
              try simp only [List.getElem_toArray, List.getElem_cons_succ, List.getElem_cons_zero, Act.put, List.setIfInBounds_toArray, List.set_cons_zero, List.set_cons_succ]
              refine wpAnyH_take (i := 11) (v := ?_) rfl (by kernel_rfl) (by kernel_rfl) (by kernel_rfl) (fun _ _ _ h => h) (Or.inl ⟨by rfl, fun w hSw => ?_⟩) (by assumption) ?_
              rotate_left
              · (try dsimp only at hSw); go_simp; (try with_reducible rfl)
              try simp only [List.getElem_toArray, List.getElem_cons_succ, List.getElem_cons_zero, Act.put, List.setIfInBounds_toArray, List.set_cons_zero, List.set_cons_succ]
              refine wpAnyH_done (by kernel_rfl) ?_ _
              go_wp2_with fail
              go_roundw
              case rel => exact ⟨k + 1, ys ++ [((a1, a2), (k : Int), (f, z))], by go_num, by omega, HY5, o5, Lib.hid (by rw [resP_succ, ← List.append_assoc]; exact HZ.out.snoc (by rw [HTD.out]; exact ⟨rfl, rfl, HFX.out⟩))⟩
              case measure => simp [intOf]; omega
        · obtain rfl : k = m := by omega
          have km : ¬ (k : Int) < k := by omega
          have HQ : Hid (resT xs (i + 1) = resT xs i ++ resP (xs.take i) (a1, a2) cs k) := Lib.hid (by rw [resT_succ, HX1.out, HM.out]; rfl)
          clear hd'
          go_wp2_with fail
          go_roundw
          case rel => exact ⟨i + 1, ys, by go_num, by omega, HY, HO, Lib.hid (by rw [HQ.out]; exact HZ.out)⟩
          case measure => simp [intOf]; omega
    · obtain rfl : i = n := by omega
      have kn : ¬ (i : Int) < i := by omega
      clear hd
      go_wp2_with fail
      go_ret
      exact ⟨_, ys, rfl, HF.out.row, by rw [← HT.out]; exact HG.out, HX.out⟩
end Go.Proofs.Ytdnabghhjlhjoaa.Vau
