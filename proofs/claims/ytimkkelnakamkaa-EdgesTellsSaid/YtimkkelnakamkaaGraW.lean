/- The small play of layer 15's statement: it returns true, whatever way graphs are kept (under Graphs). No condition. -/
import Derived.Test.YtimkkelnakamkaaGraG
import Derived.Test.YtimkkelnakamkaaRecF
namespace Go.Proofs.Ytimkkelnakamkaa.Gra
open Go.RowKit Cmd Bat Ids Rec Wid
set_option linter.unusedVariables false
set_option linter.unusedSimpArgs false

def wrs : List Rcd := [((1, 1), 1, [(0, 1)], [])]
theorem wrs_err : gErr wrs = 0 := by decide
theorem wrs_miss : gMiss wrs = [(0, 1)] := by decide
theorem wrs_deps : (depsG wrs).length = 1 := by decide
theorem wrs_has : decide (((1, 1) : Idn) ∈ idsG wrs) = true := by decide
theorem wrs_hasno : decide (((0, 1) : Idn) ∈ idsG wrs) = false := by decide
theorem wrs_lot : Lot wrs := by
  refine ⟨fun x hx => ?_, by decide, fun x hx => ?_⟩
  · unfold wrs at hx
    rw [List.mem_singleton] at hx
    subst hx
    refine ⟨⟨by decide, by decide⟩, fun d hd => ?_, fun c hc => by cases hc⟩
    have hd : d ∈ [((0, 1) : Idn)] := hd
    rw [List.mem_singleton] at hd
    subst hd; exact ⟨by decide, by decide⟩
  · unfold wrs at hx
    rw [List.mem_singleton] at hx
    subst hx
    exact ⟨by decide, by decide⟩
theorem one_id {W : World} {g : Nat} {x y : Int} (h : W.heap[g]? = some (.cells #[.int .i64 x, .int .i64 y] 24 (0, 0))) : RowAt W (.slice (some ⟨g, 0, none⟩) 1 1) [(x, y)] := by
  refine ⟨_, 1, rfl, Nat.le_refl _, by omega, (fun e => by cases e), fun _ => ⟨g, 0, rfl, (Array.getElem?_eq_some_iff.1 h).1, fun j hj => ?_⟩⟩
  obtain rfl : j = 0 := by simpa using hj
  exact ⟨cell_row h rfl, cell_row h rfl⟩
theorem one_rec {W : World} {g : Nat} {a b q : Int} {v u : Value} {ds : List Idn} {cs : List Cmdn} (h : W.heap[g]? = some (.cells #[.int .i64 a, .int .i64 b, .int .i64 q, v, u] 35 (0, 0))) (hd : RowAt W v ds) (hc : layC.Row W u cs) : layG.Row W (.slice (some ⟨g, 0, none⟩) 1 1) [((a, b), q, ds, cs)] := by
  refine ⟨_, 1, rfl, Nat.le_refl _, by omega, fun _ => ⟨g, 0, rfl, (Array.getElem?_eq_some_iff.1 h).1, fun j hj => ?_⟩⟩
  obtain rfl : j = 0 := by simpa using hj
  exact ⟨cell_row h rfl, cell_row h rfl, cell_row h rfl, ⟨v, cell_row h rfl, hd⟩, u, cell_row h rfl, hc⟩
theorem no_cmds (W : World) : layC.Row W (.slice none 0 0) [] := ⟨none, 0, rfl, Nat.le_refl _, by omega, fun h => absurd rfl h⟩
set_option maxHeartbeats 16000000 in
set_option maxRecDepth 100000 in
theorem gplay_any {G : Nat → Nat → List Rcd → World → Prop} (HG : Graphs G) (w : World) : Calls Try.prog 5 #[] w (RetBelow (.bool true) w) := by
  have HK := Lib.hid HG
  have b1 := Cmd.below_one w (.cells #[.int .i64 0, .int .i64 1] 24)
  have n1 := heap_alloc_new w (.cells #[.int .i64 0, .int .i64 1] 24)
  have s1 : (w.alloc (.cells #[.int .i64 0, .int .i64 1] 24)).heap.size = w.heap.size + 1 := by simp
  have b2 := Cmd.below_one (w.alloc (.cells #[.int .i64 0, .int .i64 1] 24)) (.cells #[.int .i64 1, .int .i64 1, .int .i64 1, .slice (some ⟨w.heap.size, 0, none⟩) 1 1, .slice none 0 0] 35)
  have n2 := heap_alloc_new (w.alloc (.cells #[.int .i64 0, .int .i64 1] 24)) (.cells #[.int .i64 1, .int .i64 1, .int .i64 1, .slice (some ⟨w.heap.size, 0, none⟩) 1 1, .slice none 0 0] 35)
  have r1 := one_rec n2 ((one_id n1).on b2) (no_cmds _)
  rw [s1] at r1
  have B2 := Lib.hid (b1.trans (b2.mono b1.size))
  have CN : Hid (Calls Try.prog 6 #[.slice (some ⟨w.heap.size + 1, 0, none⟩) 1 1] ((w.alloc (.cells #[.int .i64 0, .int .i64 1] 24)).alloc (.cells #[.int .i64 1, .int .i64 1, .int .i64 1, .slice (some ⟨w.heap.size, 0, none⟩) 1 1, .slice none 0 0] 35)) (GivesG G wrs _)) := Lib.hid (HG.new _ wrs _ r1 wrs_lot)
  clear b1 n1 s1 b2 n2 r1
  go_enter Try.func5, Try.ntmps5
  go_wp2_with (first
    | (go_at_call 6; ((with_reducible refine CN.out.mono ?_); rintro E w3 ⟨hb, (⟨-, g, rfl, hg⟩ | ⟨hne, -⟩)⟩; rotate_left; exact absurd wrs_err hne; have G3 := Lib.hid hg; have B3 := Lib.hid (B2.out.trans (hb.mono B2.out.size)); have CL3 := Lib.hid (HK.out.len hg); clear hb hg))
    | (go_at_call 9; ((with_reducible refine CL3.out.mono ?_); rintro E w4 ⟨rfl, hb⟩; have G4 := Lib.hid (HK.out.on G3.out hb); have B4 := Lib.hid (B3.out.trans (hb.mono B3.out.size)); have CE4 := Lib.hid (HK.out.edges G4.out); rw [wrs_deps] at CE4; clear hb CL3))
    | (go_at_call 14; ((with_reducible refine CE4.out.mono ?_); rintro E w5 ⟨rfl, hb⟩; have G5 := Lib.hid (HK.out.on G4.out (hb.mono (HK.out.le G4.out))); have B5 := Lib.hid (B4.out.trans (hb.mono B4.out.size)); have CM5 := Lib.hid (HK.out.miss G5.out); rw [wrs_miss] at CM5; clear hb CE4))
    | (go_at_call 12; ((with_reducible refine CM5.out.mono ?_); rintro E w6 ⟨v6, rfl, hr, hb⟩; have b7 := Cmd.below_one w6 (.cells #[.int .i64 0, .int .i64 1] 24); have G7 := Lib.hid (HK.out.on G5.out ((hb.trans (b7.mono hb.size)).mono (HK.out.le G5.out))); have B7 := Lib.hid (B5.out.trans ((hb.trans (b7.mono hb.size)).mono B5.out.size)); have CS7 := Lib.hid (Ids.same_any v6 _ _ _ _ (hr.on b7) (one_id (heap_alloc_new w6 (.cells #[.int .i64 0, .int .i64 1] 24)))); clear hb hr b7 CM5))
    | (go_at_call 17; ((with_reducible refine CS7.out.mono ?_); rintro E w8 ⟨rfl, hb⟩; have G8 := Lib.hid (HK.out.on G7.out (hb.mono (HK.out.le G7.out))); have B8 := Lib.hid (B7.out.trans (hb.mono B7.out.size)); have CH8 := Lib.hid (HK.out.has G8.out 1 1 ⟨by decide, by decide⟩); rw [wrs_has] at CH8; clear hb CS7))
    | (go_at_call 11; ((with_reducible refine CH8.out.mono ?_); rintro E w9 ⟨rfl, hb⟩; have G9 := Lib.hid (HK.out.on G8.out (hb.mono (HK.out.le G8.out))); have B9 := Lib.hid (B8.out.trans (hb.mono B8.out.size)); have CH9 := Lib.hid (HK.out.has G9.out 0 1 ⟨by decide, by decide⟩); rw [wrs_hasno] at CH9; clear hb CH8))
    | (go_at_call 11; ((with_reducible refine CH9.out.mono ?_); rintro E w10 ⟨rfl, hb⟩; have B10 := Lib.hid (B9.out.trans (hb.mono B9.out.size)); clear hb CH9)))
  go_ret
  exact ⟨rfl, B10.out⟩
end Go.Proofs.Ytimkkelnakamkaa.Gra
