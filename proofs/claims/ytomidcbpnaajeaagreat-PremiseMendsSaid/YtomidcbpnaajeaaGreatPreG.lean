/- What premise has to give (layer 20), whatever way graphs are kept; the statement's function PremiseMends: it returns true under that, where the play returns true. Conditions: the records lie in memory as their cells say; texts of a length that Go reads. -/
import Derived.Test.YtomidcbpnaajeaaGreatPreF
import Derived.Test.YtomidcbpnaajeaaGreatGraG
import Derived.Test.YtomidcbpnaajeaaGreatWlg
namespace Go.Proofs.YtomidcbpnaajeaaGreat.Pre
open Go.RowKit Cmd Bat Ids Rec Wid Gra Cps Vau
set_option linter.unusedVariables false
set_option linter.unusedSimpArgs false

/-- Have two ids that are there an edge? -/
def edgeG (rs : List Rcd) (x y : Idn) : Bool := decide (x ∈ idsG rs) && decide (y ∈ idsG rs) && edgeR (rcG rs x) (rcG rs y)
/-- The items of those ids that are there. -/
def itemsG (rs : List Rcd) (xs : List Idn) : List Itm := (xs.filter fun x => decide (x ∈ idsG rs)).map fun x => (x, (rcG rs x).2.2.2)
/-- What premise has to give. -/
structure Premise (G : Nat → Nat → List Rcd → World → Prop) : Prop where
  holds : ∀ {N g : Nat} {rs : List Rcd} {W : World}, G N g rs W → Calls Tryz.prog 9 #[gptr g] W (GivesHolds rs W)
  edge : ∀ {N g : Nat} {rs : List Rcd} {W : World}, G N g rs W → ∀ a b c d : Int, wfId (a, b) → wfId (c, d) → Calls Tryz.prog 12 #[gptr g, .agg #[.int .i64 a, .int .i64 b], .agg #[.int .i64 c, .int .i64 d]] W (RetBelow (.bool (edgeG rs (a, b) (c, d))) W)
  writers : ∀ {N g : Nat} {rs : List Rcd} {W : World}, G N g rs W → ∀ (v : Value) (xs : List Idn) (s : List UInt8), RowAt W v xs → xs.length ≤ 1000 → (∀ x ∈ xs, wfId x) → Calls Tryz.prog 15 #[gptr g, v, .string (str s)] W (layW.Gives (logOf (itemsG rs xs) s) W)
  mend : ∀ (v : Value) (rs : List Rcd) (W : World), layG.Row W v rs → Lot rs → Calls Tryz.prog 17 #[v] W (GivesRecs (mendG rs) W)

theorem id_bounds {x : Idn} (h : idErr x = 0) : wfId x := by
  unfold idErr at h
  split at h
  · split at h
    · unfold wfId wfI; omega
    · cases h
  · cases h
theorem mend_wf {rs : List Rcd} (hw : ∀ x ∈ rs, wfG x) : ∀ x ∈ mendG rs, wfG x := fun x hx => by
  have ho := (mend_mnd rs).ok x hx
  refine ⟨id_bounds ho.id, fun d hd => id_bounds (ho.deps d hd).1, fun c hc => ?_⟩
  rcases mend_batch _ _ x hx with h | ⟨r, hr, -, e⟩
  · cases h
  · rw [e] at hc; exact (hw r (fine_sub rs r hr)).batch c hc
theorem mend_lot {rs : List Rcd} (h : Lot rs) : Lot (mendG rs) := by
  obtain ⟨h1, h2, h3⟩ := h
  refine ⟨mend_wf h1, Nat.le_trans (mend_len rs) h2, fun x hx => ?_⟩
  have ho := (mend_mnd rs).ok x hx
  refine ⟨by have := ho.few; omega, ?_⟩
  rcases mend_batch _ _ x hx with h | ⟨r, hr, -, e⟩
  · cases h
  · rw [e]; exact (h3 r (fine_sub rs r hr)).2
theorem pnew_ok {G : Nat → Nat → List Rcd → World → Prop} (HG : Graphs G) {v : Value} {rs : List Rcd} {w : World} (h : layG.Row w v rs) (hlot : Lot rs) (he : gErr rs = 0) : Calls Tryz.prog 8 #[v] w (fun E w' => ∃ g, E = .returned (.tuple #[gptr g, .int .i64 0]) ∧ G w'.heap.size g rs w' ∧ Below w.heap.size w w') :=
  (HG.new v rs w h hlot).mono fun E w' ⟨h1, h2⟩ => by
    rcases h2 with ⟨-, g, h3, h4⟩ | ⟨h3, -⟩
    · exact ⟨g, h3, h4, h1⟩
    · exact absurd he h3
theorem plot_few {rs : List Rcd} {m : Nat} (hw : ∀ x ∈ rs, wfG x) (hl : fewG rs m = true) (hm : m ≤ 1000) : Lot rs := ⟨hw, by have := (few_out hl).1; omega, fun r hr => by have := (few_out hl).2 r hr; exact ⟨by omega, by omega⟩⟩
/-- Is one of the records full? -/
def fullG (rs : List Rcd) : Bool := rs.any fun x => decide (16 ≤ x.2.2.1.length)
theorem full_snoc (rs : List Rcd) (x : Rcd) : fullG (rs ++ [x]) = (fullG rs || decide (16 ≤ x.2.2.1.length)) := by unfold fullG; rw [List.any_append]; simp
theorem full_no {rs : List Rcd} (h : fullG rs = false) : ∀ x ∈ rs, x.2.2.1.length < 16 := fun x hx => by
  unfold fullG at h
  have := List.any_eq_false.1 h x hx
  simpa using this

/-! ### PremiseMends -/
set_option maxRecDepth 100000 in
theorem pmend_few (CP : ∀ w, Calls Tryz.prog 7 #[] w (RetBelow (.bool true) w)) (v : Value) (rs : List Rcd) (w : World) (h : layG.Row w v rs) (hl : fewG rs 14 = false) : Calls Tryz.prog 4 #[v] w (RetBelow (.bool true) w) := by
  have HP := Lib.hid CP
  have CF : Hid (Calls Tryz.prog 5 #[v, .int .i64 14] w (RetBelow (.bool false) w)) := Lib.hid (by have := few_any v rs 14 (by decide) w h; rw [hl] at this; exact this)
  clear h hl CP
  go_enter Tryz.func4, Tryz.ntmps4
  go_wp2_with (first
    | (go_at_call 5; ((with_reducible refine CF.out.mono ?_); rintro E w1 ⟨rfl, hb⟩; have B1 := Lib.hid hb; clear hb))
    | (go_at_call 7; ((with_reducible refine (HP.out _).mono ?_); rintro E w2 ⟨rfl, hb⟩; have B2 := Lib.hid (B1.out.trans (hb.mono B1.out.size)); clear hb)))
  go_ret
  exact ⟨rfl, B2.out⟩
set_option maxRecDepth 100000 in
set_option maxHeartbeats 16000000 in
theorem pmend_ok {G : Nat → Nat → List Rcd → World → Prop} (HG : Graphs G) (PG : Premise G) (CP : ∀ w, Calls Tryz.prog 7 #[] w (RetBelow (.bool true) w)) (v : Value) (rs : List Rcd) (w : World) (h : layG.Row w v rs) (hw : ∀ x ∈ rs, wfG x) (hl : fewG rs 14 = true) : Calls Tryz.prog 4 #[v] w (RetBelow (.bool true) w) := by
  have HP := Lib.hid CP
  have HPG := Lib.hid PG
  have HGG := Lib.hid HG
  have CF : Hid (Calls Tryz.prog 5 #[v, .int .i64 14] w (RetBelow (.bool true) w)) := Lib.hid (by have := few_any v rs 14 (by decide) w h; rw [hl] at this; exact this)
  have hlot := plot_few hw hl (by decide)
  have CM := Lib.hid (fun W (hb : Below w.heap.size w W) => PG.mend v rs W (h.on hb) hlot)
  have CR := Lib.hid (fun W (hb : Below w.heap.size w W) => refmend_any v rs W (h.on hb) hlot.few hw)
  have HErr := Lib.hid (mend_err rs)
  have HLot := Lib.hid (mend_lot hlot)
  have HHld : Hid (∀ x y ok, Hlds (mendG rs) x y ok → fullG (mendG rs) = false → ok = true) := Lib.hid fun x y ok h hf => holds_mend (full_no hf) h
  generalize mendG rs = M at CM CR HErr HLot HHld
  obtain ⟨n, hn⟩ : ∃ n, n = M.length := ⟨_, rfl⟩
  have HN := Lib.hid hn
  have hn1 : n ≤ 1000 := by have := HLot.out.few; omega
  clear h hw hl CP hlot hn HG PG
  go_enter Tryz.func4, Tryz.ntmps4
  go_wp2_with (first
    | (go_at_call 5; ((with_reducible refine CF.out.mono ?_); rintro E w1 ⟨rfl, hb⟩; have B1 := Lib.hid hb; clear hb))
    | (go_at_call 17; ((with_reducible refine (CM.out _ B1.out).mono ?_); rintro E w2 ⟨vm, rfl, hr, hb⟩; have B2 := Lib.hid (B1.out.trans (hb.mono B1.out.size)); have RM := Lib.hid hr; obtain ⟨pm, cm, hvm, -, hdm⟩ := hr.parts; rw [← HN.out] at hvm hdm; subst hvm; have DM := Lib.hid hdm; clear hb hr hdm))
    | (go_at_call 18; ((with_reducible refine (CR.out _ B2.out).mono ?_); rintro E w3 ⟨vr, rfl, hr, hb⟩; have B3 := Lib.hid (B2.out.trans (hb.mono B2.out.size)); have HB23 := Lib.hid hb; have RM3 := Lib.hid (RM.out.on hb); have RR := Lib.hid hr; obtain ⟨pr, cr, hvr, -, hdr⟩ := hr.parts; rw [← HN.out] at hvr hdr; subst hvr; have DR := Lib.hid hdr; clear hb hr hdr)))
  go_loopw [5, 6] (fun f i wr => ∃ k : Nat, k ≤ n ∧ i = .int .i64 k ∧ f = .bool (fullG (M.take k)) ∧ Hid (Below w3.heap.size w3 wr)) (fun _ i _ => n - (intOf i).toNat)
  case atStart => exact ⟨0, Nat.zero_le _, rfl, rfl, Lib.hid (Below.refl _ _)⟩
  case round =>
    obtain ⟨k, hk, rfl, rfl, hbb⟩ := hrel
    have k0 : (0 : Int) ≤ k := by omega
    by_cases hkn : k < n
    · have kn : (k : Int) < n := by omega
      have hkx : k < M.length := by rw [← HN.out]; exact hkn
      obtain ⟨Bm, om, rfl, HCm⟩ := DM.out.resolve_left (by omega)
      obtain ⟨Br, of, rfl, HCr⟩ := DR.out.resolve_left (by omega)
      obtain ⟨⟨⟨a, b⟩, q, ds, cs⟩, hx⟩ : ∃ x, layG.at M k = x := ⟨_, rfl⟩
      obtain ⟨p1, k1, p1', k1', A1, -, -⟩ := rcdAt (HCm.out.on (HB23.out.trans (hbb.out.mono HB23.out.size))) hkx hx
      obtain ⟨p2, k2, p2', k2', A2, -, -⟩ := rcdAt (HCr.out.on hbb.out) hkx hx
      have hwf := HLot.out.wf _ (layG.at_mem hkx)
      rw [hx] at hwf
      have HF : Hid (fullG (M.take (k + 1)) = (fullG (M.take k) || decide (16 ≤ ds.length))) := Lib.hid (by rw [layG.take hkx, full_snoc, hx])
      have CS := Lib.hid (fun W (hb : Below wr.heap.size wr W) => refsame_r a b q (.slice p1 ds.length k1) (.slice p1' cs.length k1') a b q (.slice p2 ds.length k2) (.slice p2' cs.length k2') ds ds cs cs W (A1.on hb).rd (A1.on hb).rc (A2.on hb).rd (A2.on hb).rc hwf.batch hwf.batch)
      rw [rsame_self] at CS
      obtain ⟨l1, hl1⟩ : ∃ l, l = ds.length := ⟨_, rfl⟩
      obtain ⟨l2, hl2⟩ : ∃ l, l = cs.length := ⟨_, rfl⟩
      rw [← hl1] at A1 A2 CS HF
      rw [← hl2] at A1 A2 CS
      have HS : Hid (∀ w', Below wr.heap.size wr w' → w'.cell? ⟨Bm, om + k * 5, none⟩ = some (.int .i64 a) ∧ w'.cell? ⟨Bm, om + k * 5 + 1, none⟩ = some (.int .i64 b) ∧ w'.cell? ⟨Bm, om + k * 5 + 2, none⟩ = some (.int .i64 q) ∧ w'.cell? ⟨Bm, om + k * 5 + 3, none⟩ = some (.slice p1 l1 k1) ∧ w'.cell? ⟨Bm, om + k * 5 + 4, none⟩ = some (.slice p1' l2 k1') ∧ w'.cell? ⟨Br, of + k * 5, none⟩ = some (.int .i64 a) ∧ w'.cell? ⟨Br, of + k * 5 + 1, none⟩ = some (.int .i64 b) ∧ w'.cell? ⟨Br, of + k * 5 + 2, none⟩ = some (.int .i64 q) ∧ w'.cell? ⟨Br, of + k * 5 + 3, none⟩ = some (.slice p2 l1 k2) ∧ w'.cell? ⟨Br, of + k * 5 + 4, none⟩ = some (.slice p2' l2 k2')) := Lib.hid (fun w' hw => by
        have r1 := A1.on hw
        have r2 := A2.on hw
        exact ⟨r1.c0, r1.c1, r1.c2, r1.c3, r1.c4, r2.c0, r2.c1, r2.c2, r2.c3, r2.c4⟩)
      have E0 := Lib.hid (Below.refl wr.heap.size wr)
      clear A1 A2 hl1 hl2 hx hkx hwf
      obtain ⟨fk, hfk⟩ : ∃ f, f = fullG (M.take k) := ⟨_, rfl⟩
      rw [← hfk] at HF ⊢
      clear hfk
      cases fk
      · by_cases h16 : 16 ≤ l1
        · have q16 : decide ((16 : Int) ≤ l1) = true := decide_eq_true (by omega)
          have i16 : (16 : Int) ≤ l1 := by omega
          go_wp2_with fail
          go_region_held3 (fun w' => w'.cell? ⟨Bm, om + k * 5, none⟩ = some (.int .i64 a) ∧ w'.cell? ⟨Bm, om + k * 5 + 1, none⟩ = some (.int .i64 b) ∧ w'.cell? ⟨Bm, om + k * 5 + 2, none⟩ = some (.int .i64 q) ∧ w'.cell? ⟨Bm, om + k * 5 + 3, none⟩ = some (.slice p1 l1 k1) ∧ w'.cell? ⟨Bm, om + k * 5 + 4, none⟩ = some (.slice p1' l2 k1') ∧ w'.cell? ⟨Br, of + k * 5, none⟩ = some (.int .i64 a) ∧ w'.cell? ⟨Br, of + k * 5 + 1, none⟩ = some (.int .i64 b) ∧ w'.cell? ⟨Br, of + k * 5 + 2, none⟩ = some (.int .i64 q) ∧ w'.cell? ⟨Br, of + k * 5 + 3, none⟩ = some (.slice p2 l1 k2) ∧ w'.cell? ⟨Br, of + k * 5 + 4, none⟩ = some (.slice p2' l2 k2'))
            (first
              | exact HS.out _ E1.out
              | exact HS.out _ E0.out
              | exact HS.out _ E0.out.drew)
            (first
              | (go_at_call 19; (with_reducible refine (CS.out _ E0.out.drew).mono ?_); rintro e z1 ⟨rfl, hb1⟩; have E1 := Lib.hid (E0.out.drew.trans (hb1.mono E0.out.drew.size)); clear hb1))
          obtain ⟨-, -, -, d3, -⟩ := HS.out _ E1.out
          go_wp2
          go_roundw
          case rel => exact ⟨k + 1, by omega, by go_num, by rw [HF.out]; rw [decide_eq_true h16]; rfl, Lib.hid (hbb.out.trans (E1.out.mono hbb.out.size))⟩
          case measure => simp [intOf]; omega
        · have q16 : decide ((16 : Int) ≤ l1) = false := decide_eq_false (by omega)
          have i16 : ¬ (16 : Int) ≤ l1 := by omega
          go_wp2_with fail
          go_region_held3 (fun w' => w'.cell? ⟨Bm, om + k * 5, none⟩ = some (.int .i64 a) ∧ w'.cell? ⟨Bm, om + k * 5 + 1, none⟩ = some (.int .i64 b) ∧ w'.cell? ⟨Bm, om + k * 5 + 2, none⟩ = some (.int .i64 q) ∧ w'.cell? ⟨Bm, om + k * 5 + 3, none⟩ = some (.slice p1 l1 k1) ∧ w'.cell? ⟨Bm, om + k * 5 + 4, none⟩ = some (.slice p1' l2 k1') ∧ w'.cell? ⟨Br, of + k * 5, none⟩ = some (.int .i64 a) ∧ w'.cell? ⟨Br, of + k * 5 + 1, none⟩ = some (.int .i64 b) ∧ w'.cell? ⟨Br, of + k * 5 + 2, none⟩ = some (.int .i64 q) ∧ w'.cell? ⟨Br, of + k * 5 + 3, none⟩ = some (.slice p2 l1 k2) ∧ w'.cell? ⟨Br, of + k * 5 + 4, none⟩ = some (.slice p2' l2 k2'))
            (first
              | exact HS.out _ E1.out
              | exact HS.out _ E0.out
              | exact HS.out _ E0.out.drew)
            (first
              | (go_at_call 19; (with_reducible refine (CS.out _ E0.out.drew).mono ?_); rintro e z1 ⟨rfl, hb1⟩; have E1 := Lib.hid (E0.out.drew.trans (hb1.mono E0.out.drew.size)); clear hb1))
          obtain ⟨-, -, -, d3, -⟩ := HS.out _ E1.out
          go_wp2
          go_roundw
          case rel => exact ⟨k + 1, by omega, by go_num, by rw [HF.out]; rw [decide_eq_false h16]; rfl, Lib.hid (hbb.out.trans (E1.out.mono hbb.out.size))⟩
          case measure => simp [intOf]; omega
      · go_wp2_with fail
        go_region_held3 (fun w' => w'.cell? ⟨Bm, om + k * 5, none⟩ = some (.int .i64 a) ∧ w'.cell? ⟨Bm, om + k * 5 + 1, none⟩ = some (.int .i64 b) ∧ w'.cell? ⟨Bm, om + k * 5 + 2, none⟩ = some (.int .i64 q) ∧ w'.cell? ⟨Bm, om + k * 5 + 3, none⟩ = some (.slice p1 l1 k1) ∧ w'.cell? ⟨Bm, om + k * 5 + 4, none⟩ = some (.slice p1' l2 k1') ∧ w'.cell? ⟨Br, of + k * 5, none⟩ = some (.int .i64 a) ∧ w'.cell? ⟨Br, of + k * 5 + 1, none⟩ = some (.int .i64 b) ∧ w'.cell? ⟨Br, of + k * 5 + 2, none⟩ = some (.int .i64 q) ∧ w'.cell? ⟨Br, of + k * 5 + 3, none⟩ = some (.slice p2 l1 k2) ∧ w'.cell? ⟨Br, of + k * 5 + 4, none⟩ = some (.slice p2' l2 k2'))
          (first
            | exact HS.out _ E1.out
            | exact HS.out _ E0.out
            | exact HS.out _ E0.out.drew)
          (first
            | (go_at_call 19; (with_reducible refine (CS.out _ E0.out.drew).mono ?_); rintro e z1 ⟨rfl, hb1⟩; have E1 := Lib.hid (E0.out.drew.trans (hb1.mono E0.out.drew.size)); clear hb1))
        obtain ⟨-, -, -, d3, -⟩ := HS.out _ E1.out
        go_wp2
        go_roundw
        case rel => exact ⟨k + 1, by omega, by go_num, by rw [HF.out]; rfl, Lib.hid (hbb.out.trans (E1.out.mono hbb.out.size))⟩
        case measure => simp [intOf]; omega
    · obtain rfl : k = n := by omega
      have kn : ¬ (k : Int) < k := by omega
      obtain ⟨fm, hfm⟩ : ∃ f, f = fullG (M.take k) := ⟨_, rfl⟩
      rw [← hfm]
      rw [HN.out, List.take_length] at hfm
      have HFM := Lib.hid hfm
      have CNew := Lib.hid (pnew_ok HGG.out (RM3.out.on hbb.out) HLot.out HErr.out)
      clear hfm CM CR CF DM DR
      go_upto_region 15 with (first
        | (go_at_call 8; ((with_reducible refine CNew.out.mono ?_); rintro E w4 ⟨g, rfl, hg, hb⟩; have B4 := Lib.hid (B3.out.trans ((hbb.out.trans (hb.mono hbb.out.size)).mono B3.out.size)); have CH := Lib.hid (HPG.out.holds hg); clear hb hg))
        | (go_at_call 9; ((with_reducible refine CH.out.mono ?_); rintro E w5 ⟨a, b, a', b', ok, rfl, hh, hb⟩; have B5 := Lib.hid (B4.out.trans (hb.mono B4.out.size)); have HOK := Lib.hid (HHld.out _ _ _ hh); clear hb hh)))
      have h1 := Cmd.below_one w5 (.cells #[.int .i64 a, .int .i64 b] 32)
      have h2 := Cmd.below_one (w5.alloc (.cells #[.int .i64 a, .int .i64 b] 32)) (.cells #[.int .i64 a', .int .i64 b'] 32)
      have HX := Lib.hid (B5.out.trans ((h1.trans (h2.mono h1.size)).mono B5.out.size))
      clear h1 h2
      cases ok <;> cases fm
      · exact absurd (HOK.out HFM.out.symm) (by decide)
      all_goals
        go_wp2_with (go_at_call 7; ((with_reducible refine (HP.out _).mono ?_); rintro E w9 ⟨rfl, hb9⟩; have B9 := Lib.hid (HX.out.trans (hb9.mono HX.out.size)); clear hb9))
        go_ret
        exact ⟨rfl, B9.out⟩
theorem pmends_any {G : Nat → Nat → List Rcd → World → Prop} (HG : Graphs G) (PG : Premise G) (CP : ∀ w, Calls Tryz.prog 7 #[] w (RetBelow (.bool true) w)) (v : Value) (rs : List Rcd) (w : World) (h : layG.Row w v rs) (hw : ∀ x ∈ rs, wfG x) : Calls Tryz.prog 4 #[v] w (RetBelow (.bool true) w) := by
  cases hl : fewG rs 14 with
  | false => exact pmend_few CP v rs w h hl
  | true => exact pmend_ok HG PG CP v rs w h hw hl
end Go.Proofs.YtomidcbpnaajeaaGreat.Pre
