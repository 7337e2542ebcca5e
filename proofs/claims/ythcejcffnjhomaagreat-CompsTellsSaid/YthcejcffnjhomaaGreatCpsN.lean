/- What the developers' Sorted gives, and with it all calls of layer 17 (comps). Conditions: those in each statement. -/
import Derived.Test.YthcejcffnjhomaaGreatTreL
namespace Go.Proofs.YthcejcffnjhomaaGreat.Cps
open Go.RowKit Cmd Bat Ids Rec Wid Gra Rea Mpg Go.Sort
set_option linter.unusedVariables false
set_option linter.unusedSimpArgs false

set_option maxRecDepth 100000 in
set_option maxHeartbeats 4000000 in
theorem sorted_run (gp : Option Addr) (rs : List Rcd) (v : Value) (l : List Idn) (w : World) (A : Asks gp rs w) (T : Tells gp rs w) (hr : RowAt w v l) (hl : l.length ≤ 100000) (hw : ∀ x ∈ l, wfId x) :
    Calls Tryz.prog 14 #[.pointer gp, v] w (GivesRow (sortR rs l) w) := by
  have hb0 := Cmd.below_one w (.cells #[.pointer gp] 27)
  have c0 : (w.alloc (.cells #[.pointer gp] 27)).cell? ⟨w.heap.size, 0, none⟩ = some (.pointer gp) := cell_row (i := 0) (heap_alloc_new w _) rfl
  obtain ⟨W0, hW0⟩ : ∃ W0, W0 = w.alloc (.cells #[.pointer gp] 27) := ⟨_, rfl⟩
  rw [← hW0] at hb0 c0
  have HSr := Lib.hid (sortedM_any v l W0 (hr.on hb0) hl)
  have HSw : Hid (∀ x ∈ srt l, wfId x) := Lib.hid fun x hx => hw x ((srt_mem _ _).1 hx)
  have HSl : Hid ((srt l).length ≤ 100000) := Lib.hid (Nat.le_trans (srt_length _) hl)
  have HSc : Hid (∀ X, Below W0.heap.size W0 X → ∀ Y, Below W0.heap.size X Y → ∀ a b : Int, wfId (a, b) → Calls Tryz.prog 37 #[.agg #[.int .i64 a, .int .i64 b], .pointer (some ⟨w.heap.size, 0, none⟩)] Y (RetBelow (.bool (!decide ((a, b) ∈ idsG rs))) Y)) := Lib.hid fun X hX Y hY a b hab => by
    have hb := hX.trans hY
    exact sc_any gp rs w Y A (hb0.trans (hb.mono hb0.size)) w.heap.size ((hb.cell (p := ⟨w.heap.size, 0, none⟩) (World.block_lt_of_cell? _ _ c0)).trans c0) a b hab
  have HDl : Hid (∀ (u : Value) (X : World), RowW X W0.heap.size u (srt l) → Below W0.heap.size W0 X → Calls Tryz.prog 35 #[u, scV w.heap.size] X (GivesW W0.heap.size ((srt l).filter fun x => decide (x ∈ idsG rs)) X)) := Lib.hid fun u X hu hX =>
    del_any u (srt l) w.heap.size (fun x => decide (x ∈ idsG rs)) W0.heap.size X hu hX.size HSl.out HSw.out (fun Y a b hY hab => HSc.out X hX Y hY a b hab)
  have hin : ∀ x ∈ (srt l).filter fun x => decide (x ∈ idsG rs), x ∈ idsG rs := fun x hx => of_decide_eq_true (List.mem_filter.1 hx).2
  have hwf : ∀ x ∈ (srt l).filter fun x => decide (x ∈ idsG rs), wfId x := fun x hx => HSw.out x (List.mem_filter.1 hx).1
  have hnd : ((srt l).filter fun x => decide (x ∈ idsG rs)).Nodup := (Ids.rise_nodup (srt_rise l)).sublist List.filter_sublist
  have hlen : ((srt l).filter fun x => decide (x ∈ idsG rs)).length ≤ 100000 := Nat.le_trans (List.length_filter_le _ _) HSl.out
  have HE : Hid (sortR rs ((srt l).filter fun x => decide (x ∈ idsG rs)) = sortR rs l) := Lib.hid (riseR_eq (sortR_rise _ _) (sortR_rise _ _) fun x => by
    rw [sortR_mem, sortR_mem, List.mem_filter, srt_mem, decide_eq_true_iff]
    exact ⟨fun ⟨⟨h1, _⟩, h2⟩ => ⟨h1, h2⟩, fun ⟨h1, h2⟩ => ⟨⟨h1, h2⟩, h2⟩⟩)
  generalize ((srt l).filter fun x => decide (x ∈ idsG rs)) = th at HDl hin hwf hnd hlen HE
  have HOr : Hid (∀ (u : Value) (X : World), RowAt X u th → Below w.heap.size w X → Calls Tryz.prog 31 #[.pointer gp, u] X (GivesOrd rs th X)) := Lib.hid fun u X hu hX => order_any gp rs u th X (T.on hX) hu hlen hwf hin
  have HSo : Hid (∀ (u : Value) (X : World) (bo mr : Nat), RowW X W0.heap.size u th → OrdAt X bo mr rs th → (th ≠ [] → ∀ g, u.ownBlock = some g → g ≠ bo ∧ g ≠ mr) → Calls Tryz.prog 32 #[u, ordV bo] X fun E w' => E = .returned (.tuple #[]) ∧ RowAt w' u (sortR rs l) ∧ (W0.heap.size ≤ X.heap.size → Below W0.heap.size X w')) := Lib.hid fun u X bo mr hu hO hg =>
    (sortW_any rs th bo mr W0.heap.size u th X hu hwf hO hg (fun x hx => hx) hin hnd hlen).mono fun E w' ⟨h1, h2, _, h4⟩ => ⟨h1, by rw [← HE.out]; exact h2, h4⟩
  have HB0 := Lib.hid hb0
  have HW0 := Lib.hid hW0
  have HC0 := Lib.hid c0
  clear hb0 c0 hW0 A T hr hl hw hin hwf hnd hlen
  go_enter Tryz.func14, Tryz.ntmps14
  go_wp2_with (first
    | (rw [← HW0.out]; go_at_call 36; (with_reducible refine HSr.out.mono ?_); rintro E w1 ⟨v1, rfl, hr1, hb1⟩; have HD1 := Lib.hid (HDl.out v1 w1 hr1 hb1); have HB1 := Lib.hid hb1; clear hr1 hb1)
    | (go_at_call 35; (with_reducible refine HD1.out.mono ?_); rintro E w2 ⟨v2, rfl, hr2, hb2⟩
       have hb02 := HB1.out.trans hb2
       have d2 := (hb02.cell (p := ⟨w.heap.size, 0, none⟩) (World.block_lt_of_cell? _ _ HC0.out)).trans HC0.out
       have HO2 := Lib.hid (HOr.out v2 w2 hr2.1 (HB0.out.trans (hb02.mono HB0.out.size)))
       have HB2 := Lib.hid hb02
       have HR2 := Lib.hid hr2
       clear hb02 hr2 hb2)
    | (go_at_call 31; (with_reducible refine HO2.out.mono ?_); rintro E w3 ⟨bo, mr, rfl, hO, hbo, hmr, hb3⟩
       have hblk : th ≠ [] → ∀ g, v2.ownBlock = some g → g ≠ bo ∧ g ≠ mr := fun hz g e => (HR2.out.2 hz).elim fun g' h => h.elim fun cap h => ⟨fun e2 => absurd (Nat.lt_of_lt_of_le h.2.2.2.2.lt hbo) (Nat.not_lt.2 (Nat.le_of_eq ((e2.symm.trans (Option.some.inj (e.symm.trans (congrArg Value.ownBlock h.1)))).trans rfl))), fun e2 => absurd (Nat.lt_of_lt_of_le h.2.2.2.2.lt hmr) (Nat.not_lt.2 (Nat.le_of_eq ((e2.symm.trans (Option.some.inj (e.symm.trans (congrArg Value.ownBlock h.1)))).trans rfl)))⟩
       have HS3 := Lib.hid (HSo.out v2 w3 bo mr (roww_on HR2.out hb3) hO hblk)
       have HB3 := Lib.hid hb3
       clear hO hbo hmr hb3 hblk)
    | (go_at_call 32; (with_reducible refine HS3.out.mono ?_); rintro E w4 ⟨rfl, hr4, hb4⟩; have HR4 := Lib.hid hr4; have HB4 := Lib.hid hb4; clear hr4 hb4)
    | fail)
  go_ret
  have hz2 := HB2.out.size
  have hb3 : Below W0.heap.size W0 w3 := HB2.out.trans (HB3.out.mono hz2)
  have hb4 : Below W0.heap.size W0 w4 := hb3.trans (HB4.out hb3.size)
  exact ⟨_, rfl, HR4.out, HB0.out.trans (hb4.mono HB0.out.size)⟩
theorem of_none : ofG [] = [] := by
  have h : allR [] = [] := rfl
  unfold ofG
  rw [h]; rfl
theorem comps : Comps GrP where
  of_ := fun h => of_run _ _ _ (Asks.graph graphs h) (Tells.graph graphs h)
  mut_ := fun h a b c d h1 h2 => mutual_run _ _ a b c d _ (Asks.graph graphs h) h1 h2
  sorted := fun h v l hr hl hw => sorted_run _ _ v l _ (Asks.graph graphs h) (Tells.graph graphs h) hr (by omega) hw
  at_ := fun W v l a b h hl _ _ => at_run W v l a b h hl
  nof := fun W => by
    have := of_run none [] W (Asks.nil graphs W) (Tells.nil W)
    rwa [of_none] at this
end Go.Proofs.YthcejcffnjhomaaGreat.Cps
