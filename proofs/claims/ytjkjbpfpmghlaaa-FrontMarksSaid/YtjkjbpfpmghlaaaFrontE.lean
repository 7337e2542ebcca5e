/- What the program's Above and Twin of a front give (layer 5, front). Conditions: the front lies in memory as its cells and its set say. -/
import Derived.Test.YtjkjbpfpmghlaaaFrontD
namespace Go.Proofs.Ytjkjbpfpmghlaaa
open Go.RowKit Go.Maps
set_option linter.unusedVariables false

/-- What a set's List gives. -/
def Lists : Prop := ∀ (v : Value) (zs : List Idn) (w : World), SetAt w v zs → zs.length ≤ 100000 → Calls Try.prog 19 #[v] w (GivesRow zs w)
/-! ### Above -/
theorem fabove_p (hL : Lists) (g s m : Nat) (ms : List Idn) (w : World) (h : FrontP w g s m ms) (hl : ms.length ≤ 100000) : Calls Try.prog 17 #[.pointer (some ⟨g, 0, none⟩)] w (GivesRow (abv ms) w) := by
  obtain ⟨fs, zs, hf, hm, hg⟩ := h
  have HL := Lib.hid (hL (setPtr s) zs w (.inr ⟨s, m, rfl, hf.set⟩) (Nat.le_trans hm.lenZ hl))
  unfold setPtr at HL
  have c8 := hf.ptr
  rw [hm.abv hg] at HL
  clear hf hm hg hl hL
  go_enter Try.func17, Try.ntmps17
  go_wp2_with (go_at_call 19; ((with_reducible refine HL.out.mono ?_); rintro e w1 ⟨v, rfl, hr, hb⟩; have HR := Lib.hid (And.intro hr hb); clear hr hb))
  go_ret
  exact ⟨_, rfl, HR.out⟩

/-! ### Twin -/
theorem ftwin_nil (w : World) : Calls Try.prog 7 #[.pointer none] w fun e w' => e = .returned (.pointer none) ∧ Below w.heap.size w w' := by
  go_enter Try.func7, Try.ntmps7
  go_wp2
  go_ret
  exact ⟨rfl, Below.refl _ _⟩
theorem right_wf {x : Idn} (h : idRight x = true) : wfId x := by
  have := (right_iff x).1 h
  exact ⟨⟨by omega, by omega⟩, ⟨by omega, by omega⟩⟩
theorem srt_of_rise {zs : List Idn} (h : Rise zs) : srt zs = zs := rise_eq (srt_rise zs) h (srt_mem zs)
/-- Nine cells that are held. -/
def Nine (g s : Nat) (f0 f1 f2 f3 f4 f5 f6 f7 : Int) (w : World) : Prop :=
  w.cell? ⟨g, 8, none⟩ = some (.pointer (some ⟨s, 0, none⟩)) ∧ w.cell? ⟨g, 0, none⟩ = some (.int .i64 f0) ∧ w.cell? ⟨g, 1, none⟩ = some (.int .i64 f1) ∧ w.cell? ⟨g, 2, none⟩ = some (.int .i64 f2) ∧ w.cell? ⟨g, 3, none⟩ = some (.int .i64 f3) ∧ w.cell? ⟨g, 4, none⟩ = some (.int .i64 f4) ∧ w.cell? ⟨g, 5, none⟩ = some (.int .i64 f5) ∧ w.cell? ⟨g, 6, none⟩ = some (.int .i64 f6) ∧ w.cell? ⟨g, 7, none⟩ = some (.int .i64 f7)
theorem FrontI.nine {w : World} {g s m : Nat} {fs : Nat → Int} {zs : List Idn} (h : FrontI w g s m fs zs) : Nine g s (fs 0) (fs 1) (fs 2) (fs 3) (fs 4) (fs 5) (fs 6) (fs 7) w :=
  ⟨h.ptr, h.flr 0 (by decide), h.flr 1 (by decide), h.flr 2 (by decide), h.flr 3 (by decide), h.flr 4 (by decide), h.flr 5 (by decide), h.flr 6 (by decide), h.flr 7 (by decide)⟩
set_option maxHeartbeats 4000000 in
set_option maxRecDepth 100000 in
theorem ftwin_p (hL : Lists) (g s m : Nat) (ms : List Idn) (w : World) (h : FrontP w g s m ms) (hl : ms.length ≤ 100000) : Calls Try.prog 7 #[.pointer (some ⟨g, 0, none⟩)] w (GivesFront ms w) := by
  obtain ⟨fs, zs, hf, hm, hg⟩ := h
  have hlz := Nat.le_trans hm.lenZ hl
  have hwz : ∀ y ∈ zs, wfId y := fun y hy => right_wf (hm.right y ((hm.memZ y).1 hy).1)
  have HD : Hid (FrontI w.drew g s m fs zs) := Lib.hid (hf.on (Below.refl _ _).drew)
  have HL : Hid (Calls Try.prog 19 #[.pointer (some ⟨s, 0, none⟩)] w.drew (GivesRow zs w.drew)) := Lib.hid (hL (setPtr s) zs w.drew (.inr ⟨s, m, rfl, HD.out.set⟩) hlz)
  have HN : Hid (∀ u W, RowAt W u zs → Calls Try.prog 18 #[u] W (GivesSet zs W)) := Lib.hid fun u W hu => by
    have := new_any u zs W hu hwz hlz
    rw [srt_of_rise hm.riseZ] at this; exact this
  have HM := Lib.hid hm
  have HG := Lib.hid hg
  obtain ⟨f0, e0⟩ : ∃ x, fs 0 = x := ⟨_, rfl⟩
  obtain ⟨f1, e1⟩ : ∃ x, fs 1 = x := ⟨_, rfl⟩
  obtain ⟨f2, e2⟩ : ∃ x, fs 2 = x := ⟨_, rfl⟩
  obtain ⟨f3, e3⟩ : ∃ x, fs 3 = x := ⟨_, rfl⟩
  obtain ⟨f4, e4⟩ : ∃ x, fs 4 = x := ⟨_, rfl⟩
  obtain ⟨f5, e5⟩ : ∃ x, fs 5 = x := ⟨_, rfl⟩
  obtain ⟨f6, e6⟩ : ∃ x, fs 6 = x := ⟨_, rfl⟩
  obtain ⟨f7, e7⟩ : ∃ x, fs 7 = x := ⟨_, rfl⟩
  have H9 : Hid (∀ W, FrontI W g s m fs zs → Nine g s f0 f1 f2 f3 f4 f5 f6 f7 W) := Lib.hid fun W h => by
    have := h.nine
    rw [e0, e1, e2, e3, e4, e5, e6, e7] at this; exact this
  have HE : Hid (∀ W t m', SetP W t m' zs → FrontP (W.alloc (.cells #[.int .i64 f0, .int .i64 f1, .int .i64 f2, .int .i64 f3, .int .i64 f4, .int .i64 f5, .int .i64 f6, .int .i64 f7, .pointer (some ⟨t, 0, none⟩)] 42)) W.heap.size t m' ms) := Lib.hid fun W t m' h => by
    have := front_new (fs := fs) h HM.out HG.out
    rw [e0, e1, e2, e3, e4, e5, e6, e7] at this; exact this
  obtain ⟨c8, c0, c1, c2, c3, c4, c5, c6, c7⟩ := H9.out w hf
  clear e0 e1 e2 e3 e4 e5 e6 e7 hf hm hg hl hlz hwz hL
  go_enter Try.func7, Try.ntmps7
  go_wp2
  go_region_held3 (fun w' => w'.cell? ⟨g, 8, none⟩ = some (.pointer (some ⟨s, 0, none⟩)) ∧ w'.cell? ⟨g, 0, none⟩ = some (.int .i64 f0) ∧ w'.cell? ⟨g, 1, none⟩ = some (.int .i64 f1) ∧ w'.cell? ⟨g, 2, none⟩ = some (.int .i64 f2) ∧ w'.cell? ⟨g, 3, none⟩ = some (.int .i64 f3) ∧ w'.cell? ⟨g, 4, none⟩ = some (.int .i64 f4) ∧ w'.cell? ⟨g, 5, none⟩ = some (.int .i64 f5) ∧ w'.cell? ⟨g, 6, none⟩ = some (.int .i64 f6) ∧ w'.cell? ⟨g, 7, none⟩ = some (.int .i64 f7))
    (first | exact K2.out | exact K1.out | go_keep)
    (first
      | (go_at_call 19; (with_reducible refine HL.out.mono ?_); rintro e w1 ⟨v, rfl, hr, hb⟩; have HF1 := Lib.hid (HD.out.on hb); have K1 := Lib.hid (H9.out _ (HD.out.on hb)); have R1 := Lib.hid hr; have B1 : Hid (Below w.heap.size w w1) := Lib.hid ((Below.refl _ _).drew.trans hb); clear hr hb)
      | (go_at_call 18; (with_reducible refine (HN.out _ _ R1.out).mono ?_); rintro e w2 ⟨t, m', rfl, ht, hm', hs, hb⟩; unfold setPtr; have K2 := Lib.hid (H9.out _ (HF1.out.on hb)); have HT := Lib.hid (And.intro hm' (And.intro hs hb)); clear hm' hs hb ht))
  go_wp2
  go_ret
  obtain ⟨hm1, hs1, hb1⟩ := HT.out
  have hb2 : Below w.heap.size w w2 := B1.out.trans (hb1.mono B1.out.size)
  exact ⟨_, t, m', rfl, hb2.size, Nat.le_trans B1.out.size hm1, HE.out _ _ _ hs1, hb2.trans ((below_one _ _).mono hb2.size)⟩
end Go.Proofs.Ytjkjbpfpmghlaaa
