/- The statement's function TracesTells of layer 19 (traces): it returns true, whatever way graphs are kept (under Graphs and Traces) and where the play returns true. Conditions: the records and both lists of lists lie in memory as their cells say; numbers' words of 64 bits; texts of a length that Go reads. -/
import Derived.Test.YtlkndpofegemdaaGreatTraD
import Derived.Test.YtlkndpofegemdaaGreatCpsW
namespace Go.Proofs.YtlkndpofegemdaaGreat.Tra
open Go.RowKit Cmd Bat Ids Rec Wid Gra Rea Cps
set_option linter.unusedVariables false
set_option linter.unusedSimpArgs false

def GivesSwap (rs : List Rcd) (a : List (List Idn)) (i : Int) (w : World) : Ending → World → Prop := fun e w' => ∃ o ok, e = .returned (.tuple #[o, .bool ok]) ∧ Below w.heap.size w w' ∧ ((0 ≤ i ∧ i + 1 < a.length ∧ confG rs (nthL a i.toNat) (nthL a (i.toNat + 1)) = false) → ok = true ∧ layLL.Row w' o (swapG a i.toNat)) ∧ (¬ (0 ≤ i ∧ i + 1 < a.length ∧ confG rs (nthL a i.toNat) (nthL a (i.toNat + 1)) = false) → ok = false ∧ layLL.Row w' o [])
/-- Lists that are short enough to be numbered. -/
def Shrt (a : List (List Idn)) : Prop := ∀ c ∈ a, c.length ≤ 1125899906842624
/-- What traces has to give, whatever way graphs are kept; Z: what Swap may be asked. -/
structure Traces (G : Nat → Nat → List Rcd → World → Prop) (Z : List (List Idn) → Prop) : Prop where
  conflict : ∀ {N g : Nat} {rs : List Rcd} {W : World}, G N g rs W → ∀ (v u : Value) (a b : List Idn), RowAt W v a → RowAt W u b → (∀ x ∈ a, wfId x) → (∀ x ∈ b, wfId x) → Calls Tryz.prog 13 #[gptr g, v, u] W (RetBelow (.bool (confG rs a b)) W)
  same : ∀ {N g : Nat} {rs : List Rcd} {W : World}, G N g rs W → ∀ (v u : Value) (a b : List (List Idn)), layLL.Row W v a → layLL.Row W u b → a.length ≤ 1000 → b.length ≤ 1000 → (∀ c ∈ a, ∀ x ∈ c, wfId x) → (∀ c ∈ b, ∀ x ∈ c, wfId x) → Shrt a → Shrt b → Calls Tryz.prog 9 #[gptr g, v, u] W (RetBelow (.bool (sameG rs a b)) W)
  steps : ∀ {N g : Nat} {rs : List Rcd} {W : World}, G N g rs W → ∀ (v u : Value) (a b : List (List Idn)), layLL.Row W v a → layLL.Row W u b → a.length ≤ 1000 → b.length ≤ 1000 → (∀ c ∈ a, ∀ x ∈ c, wfId x) → (∀ c ∈ b, ∀ x ∈ c, wfId x) → Shrt a → Shrt b → Calls Tryz.prog 11 #[gptr g, v, u] W (RetBelow (.int .i64 (stepsG a b)) W)
  swap : ∀ {N g : Nat} {rs : List Rcd} {W : World}, G N g rs W → ∀ (v : Value) (a : List (List Idn)) (i : Int), layLL.Row W v a → a.length ≤ 1000 → Z a → (∀ c ∈ a, ∀ x ∈ c, wfId x) → -9223372036854775808 ≤ i → i ≤ 9223372036854775807 → Calls Tryz.prog 15 #[gptr g, v, .int .i64 i] W (GivesSwap rs a i W)

set_option maxRecDepth 100000 in
theorem ttell_few (CP : ∀ w, Calls Tryz.prog 7 #[] w (RetBelow (.bool true) w)) (v u : Value) (px : Option Addr) (mx cx : Nat) (rs : List Rcd) (w : World) (h : layG.Row w v rs) (hl : fewG rs 14 = false) : Calls Tryz.prog 3 #[v, .slice px mx cx, u] w (RetBelow (.bool true) w) := by
  have HP := Lib.hid CP
  have CF : Hid (Calls Tryz.prog 5 #[v, .int .i64 14] w (RetBelow (.bool false) w)) := Lib.hid (by have := few_any v rs 14 (by decide) w h; rw [hl] at this; exact this)
  clear h hl CP
  go_enter Tryz.func3, Tryz.ntmps3
  go_wp2_with (first
    | (go_at_call 5; ((with_reducible refine CF.out.mono ?_); rintro E w1 ⟨rfl, hb⟩; have B1 := Lib.hid hb; clear hb))
    | (go_at_call 7; ((with_reducible refine (HP.out _).mono ?_); rintro E w2 ⟨rfl, hb⟩; have B2 := Lib.hid (B1.out.trans (hb.mono B1.out.size)); clear hb)))
  go_ret
  exact ⟨rfl, B2.out⟩
set_option maxRecDepth 100000 in
theorem ttell_long (CP : ∀ w, Calls Tryz.prog 7 #[] w (RetBelow (.bool true) w)) (v u : Value) (px : Option Addr) (mx cx : Nat) (rs : List Rcd) (w : World) (h : layG.Row w v rs) (hl : fewG rs 14 = true) (hm : 14 < mx) : Calls Tryz.prog 3 #[v, .slice px mx cx, u] w (RetBelow (.bool true) w) := by
  have HP := Lib.hid CP
  have CF : Hid (Calls Tryz.prog 5 #[v, .int .i64 14] w (RetBelow (.bool true) w)) := Lib.hid (by have := few_any v rs 14 (by decide) w h; rw [hl] at this; exact this)
  have q1 : decide ((14 : Int) < mx) = true := decide_eq_true (by omega)
  clear h hl CP
  go_enter Tryz.func3, Tryz.ntmps3
  go_wp2_with (first
    | (go_at_call 5; ((with_reducible refine CF.out.mono ?_); rintro E w1 ⟨rfl, hb⟩; have B1 := Lib.hid hb; clear hb))
    | (go_at_call 7; ((with_reducible refine (HP.out _).mono ?_); rintro E w2 ⟨rfl, hb⟩; have B2 := Lib.hid (B1.out.trans (hb.mono B1.out.size)); clear hb)))
  go_ret
  exact ⟨rfl, B2.out⟩
set_option maxRecDepth 100000 in
theorem ttell_long' (CP : ∀ w, Calls Tryz.prog 7 #[] w (RetBelow (.bool true) w)) (v : Value) (px : Option Addr) (mx cx : Nat) (py : Option Addr) (my cy : Nat) (rs : List Rcd) (w : World) (h : layG.Row w v rs) (hl : fewG rs 14 = true) (hm : ¬ 14 < mx) (hn : 14 < my) : Calls Tryz.prog 3 #[v, .slice px mx cx, .slice py my cy] w (RetBelow (.bool true) w) := by
  have HP := Lib.hid CP
  have CF : Hid (Calls Tryz.prog 5 #[v, .int .i64 14] w (RetBelow (.bool true) w)) := Lib.hid (by have := few_any v rs 14 (by decide) w h; rw [hl] at this; exact this)
  have q1 : decide ((14 : Int) < mx) = false := decide_eq_false (by omega)
  have q2 : decide ((14 : Int) < my) = true := decide_eq_true (by omega)
  clear h hl CP
  go_enter Tryz.func3, Tryz.ntmps3
  go_wp2_with (first
    | (go_at_call 5; ((with_reducible refine CF.out.mono ?_); rintro E w1 ⟨rfl, hb⟩; have B1 := Lib.hid hb; clear hb))
    | (go_at_call 7; ((with_reducible refine (HP.out _).mono ?_); rintro E w2 ⟨rfl, hb⟩; have B2 := Lib.hid (B1.out.trans (hb.mono B1.out.size)); clear hb)))
  go_ret
  exact ⟨rfl, B2.out⟩
set_option maxRecDepth 100000 in
theorem ttell_bad (CP : ∀ w, Calls Tryz.prog 7 #[] w (RetBelow (.bool true) w)) (v : Value) (px : Option Addr) (mx cx : Nat) (py : Option Addr) (my cy : Nat) (rs : List Rcd) (w : World) (h : layG.Row w v rs) (hw : ∀ x ∈ rs, wfG x) (hl : fewG rs 14 = true) (hm : ¬ 14 < mx) (hn : ¬ 14 < my) (he : gErr rs ≠ 0) : Calls Tryz.prog 3 #[v, .slice px mx cx, .slice py my cy] w (RetBelow (.bool true) w) := by
  have HP := Lib.hid CP
  have CF : Hid (Calls Tryz.prog 5 #[v, .int .i64 14] w (RetBelow (.bool true) w)) := Lib.hid (by have := few_any v rs 14 (by decide) w h; rw [hl] at this; exact this)
  have CC := Lib.hid (fun W (hb : Below w.heap.size w W) => refgerr_any v rs W (h.on hb) hw)
  have q1 : decide ((14 : Int) < mx) = false := decide_eq_false (by omega)
  have q3 : decide ((14 : Int) < my) = false := decide_eq_false (by omega)
  generalize gErr rs = e at CC he
  have q2 : (e != (0 : Int)) = true := by rw [bne, beq_eq_false_iff_ne.2 he]; rfl
  clear h hl CP hw
  go_enter Tryz.func3, Tryz.ntmps3
  go_wp2_with (first
    | (go_at_call 5; ((with_reducible refine CF.out.mono ?_); rintro E w1 ⟨rfl, hb⟩; have B1 := Lib.hid hb; have C1 := Lib.hid (CC.out w1 hb); clear hb))
    | (go_at_call 6; ((with_reducible refine C1.out.mono ?_); rintro E w2 ⟨rfl, hb⟩; have B2 := Lib.hid (B1.out.trans (hb.mono B1.out.size)); clear hb))
    | (go_at_call 7; ((with_reducible refine (HP.out _).mono ?_); rintro E w3 ⟨rfl, hb⟩; have B3 := Lib.hid (B2.out.trans (hb.mono B2.out.size)); clear hb)))
  go_ret
  exact ⟨rfl, B3.out⟩
set_option maxRecDepth 100000 in
set_option maxHeartbeats 16000000 in
theorem ttell_ok {G : Nat → Nat → List Rcd → World → Prop} {Z : List (List Idn) → Prop} (HG : Graphs G) (TG : Traces G Z) (CP : ∀ w, Calls Tryz.prog 7 #[] w (RetBelow (.bool true) w)) (v : Value) (px : Option Addr) (mx cx : Nat) (py : Option Addr) (my cy : Nat) (rs : List Rcd) (w : World) (h : layG.Row w v rs) (xs ys : List (List Idn)) (hw : ∀ x ∈ rs, wfG x) (hx : layLL.Row w (.slice px mx cx) xs) (hxw : ∀ c ∈ xs, ∀ z ∈ c, wfId z) (hy : layLL.Row w (.slice py my cy) ys) (hyw : ∀ c ∈ ys, ∀ z ∈ c, wfId z) (hxs : Shrt xs) (hys : Shrt ys) (hl : fewG rs 14 = true) (hm : ¬ 14 < mx) (hn : ¬ 14 < my) (he : gErr rs = 0) : Calls Tryz.prog 3 #[v, .slice px mx cx, .slice py my cy] w (RetBelow (.bool true) w) := by
  have HP := Lib.hid CP
  have CF : Hid (Calls Tryz.prog 5 #[v, .int .i64 14] w (RetBelow (.bool true) w)) := Lib.hid (by have := few_any v rs 14 (by decide) w h; rw [hl] at this; exact this)
  have CC := Lib.hid (fun W (hb : Below w.heap.size w W) => refgerr_any v rs W (h.on hb) hw)
  rw [he] at CC
  have CN := Lib.hid (fun W (hb : Below w.heap.size w W) => cnew_ok HG (h.on hb) (clot_few hw hl (by omega)) he)
  have HK := Lib.hid HG
  have HR := Lib.hid TG
  obtain ⟨p', c', e', hx1, hxd⟩ := hx.parts
  have emx : mx = xs.length := by injection e'
  have epx : px = p' := by injection e'
  subst epx
  obtain ⟨p'', c'', e'', hy1, hyd⟩ := hy.parts
  have emy : my = ys.length := by injection e''
  have epy : py = p'' := by injection e''
  subst epy
  have HXL : Hid (mx = xs.length) := Lib.hid emx
  have HYL : Hid (my = ys.length) := Lib.hid emy
  have HX14 : mx ≤ 14 := by omega
  have HY14 : my ≤ 14 := by omega
  have LX : Hid (xs.length ≤ 1000) := Lib.hid (by omega)
  have LY : Hid (ys.length ≤ 1000) := Lib.hid (by omega)
  have HXR := Lib.hid hx
  have HYR := Lib.hid hy
  have HXW := Lib.hid hxw
  have HYW := Lib.hid hyw
  have HXS := Lib.hid hxs
  have HYS := Lib.hid hys
  have RS := Lib.hid (fun W (hb : Below w.heap.size w W) => refsame_any v (.slice px mx cx) (.slice py my cy) rs xs ys W (h.on hb) (hx.on hb) (hy.on hb) LX.out LY.out hw)
  have RT := Lib.hid (fun W (hb : Below w.heap.size w W) => refsteps_any (.slice px mx cx) (.slice py my cy) xs ys W (hx.on hb) (hy.on hb) LX.out LY.out)
  have RC := Lib.hid (fun W (hb : Below w.heap.size w W) u x a b (ha : RowAt W u a) (hb' : RowAt W x b) => refconflict_any v u x rs a b W (h.on hb) ha hb' hw)
  have SP : Hid (mx = 0 ∨ ∃ B off, px = some ⟨B, off, none⟩ ∧ Hid (layLL.In w B off xs)) := Lib.hid (by rw [emx]; exact hxd)
  have SQ : Hid (my = 0 ∨ ∃ B off, py = some ⟨B, off, none⟩ ∧ Hid (layLL.In w B off ys)) := Lib.hid (by rw [emy]; exact hyd)
  have q1 : decide ((14 : Int) < mx) = false := decide_eq_false (by omega)
  have q3 : decide ((14 : Int) < my) = false := decide_eq_false (by omega)
  have HSS : Hid (sameG rs xs xs = true) := Lib.hid (same_self rs xs)
  clear h hw hl he CP e' hx1 hxd emx hx hxw e'' hy1 hyd emy hy hyw hxs hys
  go_enter Tryz.func3, Tryz.ntmps3
  go_wp2_with (first
    | (go_at_call 5; ((with_reducible refine CF.out.mono ?_); rintro E w1 ⟨rfl, hb⟩; have B1 := Lib.hid hb; have C1 := Lib.hid (CC.out w1 hb); clear hb))
    | (go_at_call 6; ((with_reducible refine C1.out.mono ?_); rintro E w2 ⟨rfl, hb⟩; have B2 := Lib.hid (B1.out.trans (hb.mono B1.out.size)); have N2 := Lib.hid (CN.out w2 B2.out); clear hb))
    | (go_at_call 8; ((with_reducible refine N2.out.mono ?_); rintro E w3 ⟨g, rfl, hg, hb⟩; have B3 := Lib.hid (B2.out.trans (hb.mono B2.out.size)); have G3 := Lib.hid hg; have K3 := Lib.hid (HR.out.same hg (.slice px mx cx) (.slice py my cy) xs ys (HXR.out.on B3.out) (HYR.out.on B3.out) LX.out LY.out HXW.out HYW.out HXS.out HYS.out); clear hb hg))
    | (go_at_call 9; ((with_reducible refine K3.out.mono ?_); rintro E w4 ⟨rfl, hb⟩; have G4 := Lib.hid (HK.out.on G3.out hb); have B4 := Lib.hid (B3.out.trans (hb.mono B3.out.size)); have F4 := Lib.hid (RS.out w4 B4.out); clear hb K3))
    | (go_at_call 10; ((with_reducible refine F4.out.mono ?_); rintro E w5 ⟨rfl, hb⟩; have hb' := hb.mono (HK.out.le G4.out); have G5 := Lib.hid (HK.out.on G4.out hb'); have B5 := Lib.hid (B4.out.trans (hb.mono B4.out.size)); have K5 := Lib.hid (HR.out.steps G5.out (.slice px mx cx) (.slice py my cy) xs ys (HXR.out.on B5.out) (HYR.out.on B5.out) LX.out LY.out HXW.out HYW.out HXS.out HYS.out); clear hb hb'))
    | (go_at_call 11; ((with_reducible refine K5.out.mono ?_); rintro E w6 ⟨rfl, hb⟩; have hb' := hb.mono (HK.out.le G5.out); have G6 := Lib.hid (HK.out.on G5.out hb'); have B6 := Lib.hid (B5.out.trans (hb.mono B5.out.size)); have F6 := Lib.hid (RT.out w6 B6.out); clear hb hb' K5))
    | (go_at_call 12; ((with_reducible refine F6.out.mono ?_); rintro E w8 ⟨rfl, hb⟩; have hb' := hb.mono (HK.out.le G6.out); have G8 := Lib.hid (HK.out.on G6.out hb'); have B8 := Lib.hid (B6.out.trans (hb.mono B6.out.size)); clear hb hb')))
  go_loopw [9] (fun i W => ∃ j : Nat, j ≤ mx ∧ i = .int .i64 (j : Int) ∧ Hid (Below w8.heap.size w8 W)) (fun i _ => mx - (intOf i).toNat)
  case atStart => exact ⟨0, Nat.zero_le _, rfl, Lib.hid (Below.refl _ _)⟩
  case round =>
    obtain ⟨j, hj, rfl, hbb⟩ := hrel
    have j0 : (0 : Int) ≤ j := by omega
    have HWR := Lib.hid (B8.out.trans (hbb.out.mono B8.out.size))
    by_cases hjm : j < mx ∧ j < my
    · have jm : (j : Int) < mx := by omega
      have jy : (j : Int) < my := by omega
      have hjl : j < xs.length := by rw [← HXL.out]; exact hjm.1
      have hjl1 : j < ys.length := by rw [← HYL.out]; exact hjm.2
      obtain ⟨B, off, rfl, HC⟩ := SP.out.resolve_left (by omega)
      obtain ⟨B', off', rfl, HC'⟩ := SQ.out.resolve_left (by omega)
      obtain ⟨p0, c0, e0, r0⟩ := llAt (HC.out.on HWR.out) hjl
      obtain ⟨p1, c1, e1, r1⟩ := llAt (HC'.out.on HWR.out) hjl1
      have W0 := HXW.out _ (nthL_in hjl)
      have W1 := HYW.out _ (nthL_in hjl1)
      obtain ⟨n0, hn0⟩ : ∃ n, n = (nthL xs j).length := ⟨_, rfl⟩
      obtain ⟨n1, hn1⟩ : ∃ n, n = (nthL ys j).length := ⟨_, rfl⟩
      have hlt := HC.out.lt
      have hlt' := HC'.out.lt
      have CA1 := Lib.hid (fun W (hw : Below wr.heap.size wr W) => HR.out.conflict (HK.out.on G8.out ((hbb.out.trans (hw.mono hbb.out.size)).mono (HK.out.le G8.out))) _ _ _ _ (r0.on hw) (r1.on hw) W0 W1)
      have CA2 := Lib.hid (fun W (hw : Below wr.heap.size wr W) => RC.out W (HWR.out.trans (hw.mono HWR.out.size)) _ _ _ _ (r0.on hw) (r1.on hw))
      rw [← hn0] at e0
      rw [← hn1] at e1
      rw [← hn0, ← hn1] at CA1 CA2
      have HX : Hid (∀ w', Below wr.heap.size wr w' → w'.cell? ⟨B, off + j, none⟩ = some (.slice p0 n0 c0) ∧ w'.cell? ⟨B', off' + j, none⟩ = some (.slice p1 n1 c1)) := Lib.hid (fun W hw => ⟨(hw.cell (p := ⟨B, off + j, none⟩) (Nat.lt_of_lt_of_le hlt HWR.out.size)).trans e0, (hw.cell (p := ⟨B', off' + j, none⟩) (Nat.lt_of_lt_of_le hlt' HWR.out.size)).trans e1⟩)
      have E0 := Lib.hid (Below.refl wr.heap.size wr)
      have hj9 : (j : Int) ≤ 9223372036854775807 := by omega
      have hwr2 : IntKind.i64.wrap (j : Int) = (j : Int) := IntWalk.i64_in _ (by omega)
      generalize confG rs (nthL xs j) (nthL ys j) = m1 at CA1 CA2
      clear hn0 hn1 e0 e1 r0 r1 W0 W1 hjl hjl1 hlt hlt'
      go_wp2_with fail
      go_region_held3 (fun w' => w'.cell? ⟨B, off + j, none⟩ = some (.slice p0 n0 c0) ∧ w'.cell? ⟨B', off' + j, none⟩ = some (.slice p1 n1 c1))
        (first
          | exact HX.out _ E2.out
          | exact HX.out _ E1.out
          | exact HX.out _ E0.out
          | exact HX.out _ E0.out.drew)
        (first
          | (go_at_call 13; (with_reducible refine (CA1.out _ E0.out.drew).mono ?_); rintro e z1 ⟨rfl, hb1⟩; have E1 := Lib.hid (E0.out.drew.trans (hb1.mono E0.out.drew.size)); clear hb1)
          | (go_at_call 14; (with_reducible refine (CA2.out _ E1.out).mono ?_); rintro e z2 ⟨rfl, hb2⟩; have E2 := Lib.hid (E1.out.trans (hb2.mono E1.out.size)); clear hb2))
      go_wp2
      go_roundw
      case rel => exact ⟨j + 1, by omega, by go_num, Lib.hid (hbb.out.trans (E2.out.mono hbb.out.size))⟩
      case measure => simp [intOf]; omega
    · have CS : Hid (Calls Tryz.prog 9 #[gptr g, .slice px mx cx, .slice px mx cx] wr (RetBelow (.bool true) wr)) := Lib.hid (by
        have := HR.out.same (HK.out.on G8.out (hbb.out.mono (HK.out.le G8.out))) (.slice px mx cx) (.slice px mx cx) xs xs (HXR.out.on HWR.out) (HXR.out.on HWR.out) LX.out LX.out HXW.out HXW.out HXS.out HXS.out
        rwa [HSS.out] at this)
      by_cases jm : (j : Int) < mx
      · have jy : ¬ (j : Int) < my := by omega
        go_wp2_with (first
          | (go_at_call 9; ((with_reducible refine CS.out.mono ?_); rintro E w10 ⟨rfl, hb9⟩; have B10 := Lib.hid (HWR.out.trans (hb9.mono HWR.out.size)); clear hb9))
          | (go_at_call 7; ((with_reducible refine (HP.out _).mono ?_); rintro E w9 ⟨rfl, hb9⟩; have B9 := Lib.hid (B10.out.trans (hb9.mono B10.out.size)); clear hb9)))
        go_ret
        exact ⟨rfl, B9.out⟩
      · go_wp2_with (first
          | (go_at_call 9; ((with_reducible refine CS.out.mono ?_); rintro E w10 ⟨rfl, hb9⟩; have B10 := Lib.hid (HWR.out.trans (hb9.mono HWR.out.size)); clear hb9))
          | (go_at_call 7; ((with_reducible refine (HP.out _).mono ?_); rintro E w9 ⟨rfl, hb9⟩; have B9 := Lib.hid (B10.out.trans (hb9.mono B10.out.size)); clear hb9)))
        go_ret
        exact ⟨rfl, B9.out⟩
theorem ttells_any {G : Nat → Nat → List Rcd → World → Prop} {Z : List (List Idn) → Prop} (HG : Graphs G) (TG : Traces G Z) (CP : ∀ w, Calls Tryz.prog 7 #[] w (RetBelow (.bool true) w)) (v : Value) (px : Option Addr) (mx cx : Nat) (py : Option Addr) (my cy : Nat) (rs : List Rcd) (w : World) (h : layG.Row w v rs) (xs ys : List (List Idn)) (hw : ∀ x ∈ rs, wfG x) (hx : layLL.Row w (.slice px mx cx) xs) (hxw : ∀ c ∈ xs, ∀ z ∈ c, wfId z) (hy : layLL.Row w (.slice py my cy) ys) (hyw : ∀ c ∈ ys, ∀ z ∈ c, wfId z) (hxs : Shrt xs) (hys : Shrt ys) : Calls Tryz.prog 3 #[v, .slice px mx cx, .slice py my cy] w (RetBelow (.bool true) w) := by
  cases hl : fewG rs 14 with
  | false => exact ttell_few CP v _ px mx cx rs w h hl
  | true =>
    by_cases hm : 14 < mx
    · exact ttell_long CP v _ px mx cx rs w h hl hm
    · by_cases hn : 14 < my
      · exact ttell_long' CP v px mx cx py my cy rs w h hl hm hn
      · by_cases he : gErr rs = 0
        · exact ttell_ok HG TG CP v px mx cx py my cy rs w h xs ys hw hx hxw hy hyw hxs hys hl hm hn he
        · exact ttell_bad CP v px mx cx py my cy rs w h hw hl hm hn he
end Go.Proofs.YtlkndpofegemdaaGreat.Tra
