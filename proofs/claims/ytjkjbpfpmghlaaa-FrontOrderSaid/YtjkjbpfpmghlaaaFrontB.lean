/- What the program's fronts give (layer 5, front): New, Has, Floor, Len, of a front and of nil. Conditions: the front lies in memory as its cells and its set say; ids fit into their kind. -/
import Derived.Test.YtjkjbpfpmghlaaaFrontA
namespace Go.Proofs.Ytjkjbpfpmghlaaa
open Go.RowKit Go.Maps
set_option linter.unusedVariables false

/-! ### New -/
def frontPtr (g : Nat) : Value := .pointer (some ⟨g, 0, none⟩)
/-- A new front of these ids. -/
def GivesFront (ms : List Idn) (w : World) (e : Ending) (w' : World) : Prop := ∃ g s m, e = .returned (frontPtr g) ∧ w.heap.size ≤ g ∧ w.heap.size ≤ m ∧ FrontP w' g s m ms ∧ Below w.heap.size w w'
/-- Nine cells laid anew are a front, where the set stands. -/
theorem front_new {w : World} {s m : Nat} {zs ms : List Idn} {fs : Nat → Int} (h : SetP w s m zs) (hm : Marks ms fs zs) (hg : Gap ms fs) :
    FrontP (w.alloc (.cells #[.int .i64 (fs 0), .int .i64 (fs 1), .int .i64 (fs 2), .int .i64 (fs 3), .int .i64 (fs 4), .int .i64 (fs 5), .int .i64 (fs 6), .int .i64 (fs 7), .pointer (some ⟨s, 0, none⟩)] 42)) w.heap.size s m ms := by
  refine ⟨fs, zs, ⟨fun r hr => ?_, fun r hr => ?_, ?_, h.on (below_one _ _)⟩, hm, hg⟩
  · rw [World.cell?_alloc_mark]
    match r, hr with
    | 0, _ => rfl
    | 1, _ => rfl
    | 2, _ => rfl
    | 3, _ => rfl
    | 4, _ => rfl
    | 5, _ => rfl
    | 6, _ => rfl
    | 7, _ => rfl
  · unfold World.frozen?
    simp only [heap_alloc_new]
    simp
  · rw [World.cell?_alloc_mark]; rfl
theorem fnew_any (w : World) : Calls Try.prog 6 #[] w (GivesFront [] w) := by
  have HN := Lib.hid (new_any (.slice none 0 0) [] w ⟨none, 0, rfl, Nat.le_refl _, by omega, fun _ => rfl, fun h => absurd rfl h⟩ (fun y hy => by cases hy) (by decide))
  go_enter Try.func6, Try.ntmps6
  go_wp2_with (go_at_call 18; ((with_reducible refine HN.out.mono ?_); rintro e w1 ⟨s, m, rfl, hs, hm, h, hb⟩; unfold setPtr; have HS := Lib.hid (And.intro hs (And.intro hm (And.intro h hb))); clear hs hm h hb))
  go_ret
  obtain ⟨hs, hm, h, hb⟩ := HS.out
  exact ⟨_, s, m, rfl, hb.size, hm, front_new (fs := fun _ => 0) h Marks.start gap_start, hb.trans ((below_one _ _).mono hb.size)⟩

/-! ### Has -/
theorem fhas_nil (a b : Int) (w : World) : Calls Try.prog 13 #[.pointer none, .agg #[.int .i64 a, .int .i64 b]] w fun e w' => e = .returned (.bool false) ∧ Below w.heap.size w w' := by
  go_enter Try.func13, Try.ntmps13
  go_wp2
  go_ret
  exact ⟨rfl, below_one _ _⟩
theorem check_below (a b q : Int) (hq : idErr (a, b) = q) (w : World) : Calls Try.prog 20 #[.agg #[.int .i64 a, .int .i64 b]] w fun e w' => e = .returned (.int .i64 q) ∧ Below w.heap.size w w' :=
  (check_any a b w).mono fun e w' ⟨he, hw⟩ => ⟨by rw [he, hq], by rw [hw]; exact below_one _ _⟩
theorem err_right (x : Idn) : idErr x = 0 ↔ idRight x = true := (right_err x).symm
set_option maxHeartbeats 2000000 in
theorem fhas_p (g s m : Nat) (ms : List Idn) (a b : Int) (w : World) (h : FrontP w g s m ms) (hx : wfId (a, b)) : Calls Try.prog 13 #[.pointer (some ⟨g, 0, none⟩), .agg #[.int .i64 a, .int .i64 b]] w fun e w' => e = .returned (.bool (decide ((a, b) ∈ ms))) ∧ Below w.heap.size w w' := by
  obtain ⟨fs, zs, hf, hm, -⟩ := h
  have c1 := (box_cells w a b).1
  have c2 := (box_cells w a b).2
  have H0 := Lib.hid (below_one w (.cells #[.int .i64 a, .int .i64 b] 24))
  obtain ⟨q, hq⟩ : ∃ q, idErr (a, b) = q := ⟨_, rfl⟩
  have HC := Lib.hid (check_below a b q hq (w.alloc (.cells #[.int .i64 a, .int .i64 b] 24)))
  by_cases hz : q = 0
  · subst hz
    have hr := (right_iff _).1 ((err_right _).1 hq)
    obtain ⟨r, rfl⟩ : ∃ r : Nat, a = (r : Int) := ⟨a.toNat, by have := hr.1; omega⟩
    have hr8 : r < 8 := by have := hr.2.1; omega
    have r0 : (0 : Int) ≤ r := by omega
    have r8 : (r : Int) < 8 := by omega
    have HB := Lib.hid (Boxed.start w (r : Int) b)
    have HF := Lib.hid hf
    have HL := Lib.hid (hm.hasLow hr8 hr.2.2.1)
    have HQ := Lib.hid hq
    obtain ⟨v, hv⟩ : ∃ v, fs r = v := ⟨_, rfl⟩
    rw [hv] at HL
    have HV := Lib.hid hv
    have HK : Hid (∀ w1, Below (w.alloc (.cells #[.int .i64 (r : Int), .int .i64 b] 24)).heap.size (w.alloc (.cells #[.int .i64 (r : Int), .int .i64 b] 24)) w1 → FrontI w1 g s m fs zs) := Lib.hid fun w1 hb => (HF.out.on (below_one w (.cells #[.int .i64 (r : Int), .int .i64 b] 24))).on hb
    have HS : Hid (∀ W, SetP W s m zs → Calls Try.prog 25 #[.pointer (some ⟨s, 0, none⟩), .agg #[.int .i64 (r : Int), .int .i64 b]] W fun e w' => e = .returned (.bool (decide (((r : Int), b) ∈ zs))) ∧ Below W.heap.size W w') := Lib.hid fun W hW => has_p s m zs r b W hW hx
    clear hf hm hq hr hx
    by_cases hle : b ≤ v
    · have HE : Hid (true = decide (((r : Int), b) ∈ ms)) := Lib.hid (decide_eq_true (HL.out.2 (.inl hle))).symm
      have hd : decide (b ≤ v) = true := decide_eq_true hle
      go_enter Try.func13, Try.ntmps13
      go_wp2_with (go_at_call 20; ((with_reducible refine HC.out.mono ?_); rintro e w1 ⟨rfl, hb⟩; have d0 := (HB.out.on hb).fst; have d1 := (HB.out.on hb).snd; have d2 := (HK.out _ hb).flr r hr8; have d3 := (HK.out _ hb).ptr; rw [HV.out] at d2; have HB1 := Lib.hid hb; clear hb))
      go_quiet (fail)
      go_wp2
      go_ret
      exact ⟨ret_bool HE.out, below_drN (H0.out.trans (HB1.out.mono H0.out.size)) _⟩
    · have HE : Hid (decide (((r : Int), b) ∈ zs) = decide (((r : Int), b) ∈ ms)) := Lib.hid (by rw [Bool.eq_iff_iff, decide_eq_true_eq, decide_eq_true_eq, HL.out]; simp [hle])
      have hd : decide (b ≤ v) = false := decide_eq_false hle
      clear HC
      have HC := Lib.hid (check_below r b 0 HQ.out (w.alloc (.cells #[.int .i64 r, .int .i64 b] 24)))
      go_enter Try.func13, Try.ntmps13
      go_wp2_with (go_at_call 20; ((with_reducible refine HC.out.mono ?_); rintro e w1 ⟨rfl, hb⟩; have d0 := (HB.out.on hb).fst; have d1 := (HB.out.on hb).snd; have d2 := (HK.out _ hb).flr r hr8; have d3 := (HK.out _ hb).ptr; rw [HV.out] at d2; have HW : Hid (SetP w1.drew s m zs) := Lib.hid ((HK.out _ hb).set.on (Below.refl _ _).drew); have KS : Hid (∀ w2, Below w1.drew.heap.size w1.drew w2 → w2.cell? ⟨w.heap.size, 0, none⟩ = some (.int .i64 (r : Int)) ∧ w2.cell? ⟨w.heap.size, 1, none⟩ = some (.int .i64 b) ∧ w2.cell? ⟨g, r, none⟩ = some (.int .i64 v) ∧ w2.cell? ⟨g, 8, none⟩ = some (.pointer (some ⟨s, 0, none⟩))) := Lib.hid fun w2 h2 => ⟨((HB.out.on hb).on ((Below.refl _ _).drew.trans h2)).fst, ((HB.out.on hb).on ((Below.refl _ _).drew.trans h2)).snd, by rw [← HV.out]; exact ((HK.out _ hb).on ((Below.refl _ _).drew.trans h2)).flr r hr8, ((HK.out _ hb).on ((Below.refl _ _).drew.trans h2)).ptr⟩; have HB1 := Lib.hid hb; clear hb))
      go_region_held3 (fun w' => w'.cell? ⟨w.heap.size, 0, none⟩ = some (.int .i64 (r : Int)) ∧ w'.cell? ⟨w.heap.size, 1, none⟩ = some (.int .i64 b) ∧ w'.cell? ⟨g, r, none⟩ = some (.int .i64 v) ∧ w'.cell? ⟨g, 8, none⟩ = some (.pointer (some ⟨s, 0, none⟩)))
        (first | go_keep | exact KS2.out)
        (first
          | (go_at_call 25; (with_reducible refine (HS.out _ HW.out).mono ?_); rintro e w2 ⟨rfl, hb⟩; have KS2 := Lib.hid (KS.out _ hb); have HB2 := Lib.hid hb; clear hb))
      go_wp2
      go_ret
      exact ⟨ret_bool HE.out, H0.out.trans (((HB1.out.mono H0.out.size).drew).trans (HB2.out.mono (Nat.le_trans H0.out.size HB1.out.size)))⟩
  · have hr : idRight (a, b) = false := by
      cases h : idRight (a, b) with
      | true => rw [(err_right _).2 h] at hq; exact absurd hq.symm hz
      | false => rfl
    have HE : Hid (false = decide ((a, b) ∈ ms)) := Lib.hid (decide_eq_false fun h => by rw [hm.right _ h] at hr; cases hr).symm
    have hq0 : (q == 0) = false := beq_eq_false_iff_ne.2 hz
    clear hm hf hx hq hr
    go_enter Try.func13, Try.ntmps13
    go_wp2_with (go_at_call 20; ((with_reducible refine HC.out.mono ?_); rintro e w1 ⟨rfl, hb⟩; have HB1 := Lib.hid hb; clear hb))
    go_ret
    exact ⟨ret_bool HE.out, H0.out.trans (HB1.out.mono H0.out.size)⟩

/-! ### Floor -/
theorem ffloor_nil (r : Int) (w : World) : Calls Try.prog 15 #[.pointer none, .int .i64 r] w fun e w' => e = .returned (.int .i64 0) ∧ Below w.heap.size w w' := by
  go_enter Try.func15, Try.ntmps15
  go_wp2
  go_ret
  exact ⟨rfl, Below.refl _ _⟩
noncomputable def flrOf (ms : List Idn) (r : Int) : Int := if 0 ≤ r ∧ r < 8 then (flr ms r : Int) else 0
theorem ffloor_p (g s m : Nat) (ms : List Idn) (r : Int) (w : World) (h : FrontP w g s m ms) : Calls Try.prog 15 #[.pointer (some ⟨g, 0, none⟩), .int .i64 r] w fun e w' => e = .returned (.int .i64 (flrOf ms r)) ∧ Below w.heap.size w w' := by
  obtain ⟨fs, zs, hf, hm, hg⟩ := h
  by_cases hr : 0 ≤ r ∧ r < 8
  · have he : flrOf ms r = fs r.toNat := by
      unfold flrOf
      rw [if_pos hr, hm.flr hg (r := r.toNat) (by omega), Int.toNat_of_nonneg hr.1]
    rw [he]
    obtain ⟨k, rfl⟩ : ∃ k : Nat, r = (k : Int) := ⟨r.toNat, by omega⟩
    rw [Int.toNat_natCast]
    have HC := Lib.hid (check_below k 1 0 ((err_right _).2 ((right_iff _).2 ⟨hr.1, hr.2, Int.le_refl 1, of_decide_eq_true rfl⟩)) w)
    have k8 : k < 8 := by omega
    have r0 := hr.1
    have r8 := hr.2
    have HF := Lib.hid hf
    clear hr he hf hm hg
    go_enter Try.func15, Try.ntmps15
    go_wp2_with (go_at_call 20; ((with_reducible refine HC.out.mono ?_); rintro e w1 ⟨rfl, hb⟩; have d2 := (HF.out.on hb).flr k k8; have HB1 := Lib.hid hb; clear hb))
    go_ret
    exact ⟨rfl, HB1.out⟩
  · have he : flrOf ms r = 0 := by unfold flrOf; rw [if_neg hr]
    rw [he]
    have HC := Lib.hid (check_below r 1 7 (by unfold idErr; rw [if_neg hr]) w)
    clear hr he hf hm hg
    go_enter Try.func15, Try.ntmps15
    go_wp2_with (go_at_call 20; ((with_reducible refine HC.out.mono ?_); rintro e w1 ⟨rfl, hb⟩; have HB1 := Lib.hid hb; clear hb))
    go_ret
    exact ⟨rfl, HB1.out⟩

/-! ### Len -/
theorem flen_nil (w : World) : Calls Try.prog 12 #[.pointer none] w fun e w' => e = .returned (.int .i64 0) ∧ Below w.heap.size w w' := by
  go_enter Try.func12, Try.ntmps12
  go_wp2
  go_ret
  exact ⟨rfl, Below.refl _ _⟩
end Go.Proofs.Ytjkjbpfpmghlaaa
