/- The statements' small play of layer 7 (batch): it returns true. No condition. -/
import Derived.Test.YthmhkkhjcnihmaaBatE
import Derived.Test.YthmhkkhjcnihmaaBatH
namespace Go.Proofs.Ythmhkkhjcnihmaa.Bat
open Go.RowKit Cmd
set_option linter.unusedVariables false

def two : List Cmdn := [(1, [97], 0), (2, [98], 4607182418800017408)]
theorem two_wf : ∀ x ∈ two, wfC x := by
  intro x hx
  simp [two] at hx
  rcases hx with rfl | rfl <;> exact ⟨by decide, by decide⟩
theorem two_row (w : World) : layC.Row (w.alloc (.cells #[.int .i64 1, .string { data := #[97] }, .float .f64 0, .int .i64 2, .string { data := #[98] }, .float .f64 4607182418800017408] 38)) (.slice (some ⟨w.heap.size, 0, none⟩) 2 2) two := by
  refine ⟨some ⟨w.heap.size, 0, none⟩, 2, rfl, by decide, by decide, fun _ => ⟨w.heap.size, 0, rfl, by simp, fun j hj => ?_⟩⟩
  have hj2 : j = 0 ∨ j = 1 := by have : two.length = 2 := rfl; omega
  rcases hj2 with rfl | rfl
  · exact ⟨by rw [World.cell?_alloc_mark]; rfl, by rw [World.cell?_alloc_mark]; rfl, by rw [World.cell?_alloc_mark]; rfl⟩
  · exact ⟨by rw [World.cell?_alloc_mark]; rfl, by rw [World.cell?_alloc_mark]; rfl, by rw [World.cell?_alloc_mark]; rfl⟩
theorem lit_rowS (w : World) : layS.Row (w.alloc (.cells #[.string { data := #[97] }, .string { data := #[98] }] 9)) (.slice (some ⟨w.heap.size, 0, none⟩) 2 2) [[97], [98]] := by
  refine ⟨some ⟨w.heap.size, 0, none⟩, 2, rfl, by decide, by decide, fun _ => ⟨w.heap.size, 0, rfl, by simp, fun j hj => ?_⟩⟩
  have hj2 : j = 0 ∨ j = 1 := by have : [[(97 : UInt8)], [98]].length = 2 := rfl; omega
  rcases hj2 with rfl | rfl
  · show World.cell? _ _ = _
    rw [World.cell?_alloc_mark]; rfl
  · show World.cell? _ _ = _
    rw [World.cell?_alloc_mark]; rfl
theorem lit_rowI (w : World) : layI.Row (w.alloc (.cells #[.int .i64 1] 3)) (.slice (some ⟨w.heap.size, 0, none⟩) 1 1) [1] := by
  refine ⟨some ⟨w.heap.size, 0, none⟩, 1, rfl, by decide, by decide, fun _ => ⟨w.heap.size, 0, rfl, by simp, fun j hj => ?_⟩⟩
  have hj2 : j = 0 := by have : [(1 : Int)].length = 1 := rfl; omega
  subst hj2
  show World.cell? _ _ = _
  rw [World.cell?_alloc_mark]; rfl
theorem two_err : bErr two = 0 := by decide
theorem two_keys : kset (keys two) = [[97], [98]] := by decide
theorem two_places : places two [98] = [1] := by decide
theorem two_conf : bConf two two = true := by decide
theorem two_same : bSame two two = true := by decide
theorem two_touch : decide ([97] ∈ keys two) = true := by decide

/-- What the play has: its list, seen from the elder world. -/
structure Play (w : World) (W : World) : Prop where
  below : Below w.heap.size w W
  row : layC.Row W (.slice (some ⟨w.heap.size, 0, none⟩) 2 2) two
theorem Play.on {w W W' : World} (h : Play w W) (hb : Below W.heap.size W W') : Play w W' := ⟨h.below.trans (hb.mono h.below.size), h.row.on hb⟩

set_option maxHeartbeats 4000000 in
set_option maxRecDepth 100000 in
theorem works_any (w : World) : Calls Try.prog 5 #[] w (RetBelow (.bool true) w) := by
  have P1 : Hid (Play w (w.alloc (.cells #[.int .i64 1, .string { data := #[97] }, .float .f64 0, .int .i64 2, .string { data := #[98] }, .float .f64 4607182418800017408] 38))) := Lib.hid ⟨below_one _ _, two_row w⟩
  have C1 : Hid (∀ W, Play w W → Calls Try.prog 6 #[.slice (some ⟨w.heap.size, 0, none⟩) 2 2] W (RetBelow (.int .i64 0) W)) := Lib.hid fun W h => by have := bcheck_any _ two W h.row two_wf; rw [two_err] at this; exact this
  have C2 : Hid (∀ W, Play w W → Calls Try.prog 9 #[.slice (some ⟨w.heap.size, 0, none⟩) 2 2] W (layS.Gives [[97], [98]] W)) := Lib.hid fun W h => by have := bkeys_any _ two W h.row (by decide) two_wf; rw [two_keys] at this; exact this
  have C3 : Hid (∀ W u v, layS.Row W u [[97], [98]] → layS.Row W v [[97], [98]] → Calls Try.prog 8 #[u, v] W (RetBelow (.bool true) W)) := Lib.hid fun W u v h k => sametexts_any u v _ _ W h k
  have C4 : Hid (∀ W, Play w W → Calls Try.prog 12 #[.slice (some ⟨w.heap.size, 0, none⟩) 2 2, .string { data := #[98] }] W (layI.Gives [1] W)) := Lib.hid fun W h => by have := bwrites_any _ two [98] W h.row (by decide) two_wf; rw [two_places] at this; exact this
  have C5 : Hid (∀ W u v, layI.Row W u [1] → layI.Row W v [1] → Calls Try.prog 11 #[u, v] W (RetBelow (.bool true) W)) := Lib.hid fun W u v h k => sameints_any u v _ _ W h k
  have C6 : Hid (∀ W, Play w W → Calls Try.prog 18 #[.slice (some ⟨w.heap.size, 0, none⟩) 2 2, .slice (some ⟨w.heap.size, 0, none⟩) 2 2] W (RetBelow (.bool true) W)) := Lib.hid fun W h => by have := bconf_any _ _ two two W h.row h.row two_wf two_wf; rw [two_conf] at this; exact this
  have C7 : Hid (∀ W, Play w W → Calls Try.prog 19 #[.slice (some ⟨w.heap.size, 0, none⟩) 2 2, .slice (some ⟨w.heap.size, 0, none⟩) 2 2] W (RetBelow (.bool true) W)) := Lib.hid fun W h => by have := bsame_any _ _ two two W h.row h.row; rw [two_same] at this; exact this
  have C8 : Hid (∀ W, Play w W → Calls Try.prog 14 #[.slice (some ⟨w.heap.size, 0, none⟩) 2 2, .string { data := #[97] }] W (RetBelow (.bool true) W)) := Lib.hid fun W h => by have := touches_any _ two [97] W h.row; rw [two_touch] at this; exact this
  go_enter Try.func5, Try.ntmps5
  go_wp2_with (first
    | (go_at_call 6; (with_reducible refine (C1.out _ P1.out).mono ?_); rintro e w1 ⟨rfl, hb⟩; have P2 := Lib.hid (P1.out.on hb); clear hb)
    | (go_at_call 9; (with_reducible refine (C2.out _ P2.out).mono ?_); rintro e w2 ⟨u, rfl, hu, hb⟩; have P3 := Lib.hid (P2.out.on hb); have P4 : Hid (Play w (w2.alloc (.cells #[.string { data := #[97] }, .string { data := #[98] }] 9))) := Lib.hid (P3.out.on (below_one _ _)); have R1 : Hid (layS.Row (w2.alloc (.cells #[.string { data := #[97] }, .string { data := #[98] }] 9)) u [[97], [98]]) := Lib.hid (hu.on (below_one _ _)); have R2 := Lib.hid (lit_rowS w2); clear hb hu)
    | (go_at_call 8; (with_reducible refine (C3.out _ _ _ R1.out R2.out).mono ?_); rintro e w3 ⟨rfl, hb⟩; have P5 := Lib.hid (P4.out.on hb); clear hb)
    | (go_at_call 12; (with_reducible refine (C4.out _ P5.out).mono ?_); rintro e w4 ⟨u2, rfl, hu, hb⟩; have P6 := Lib.hid (P5.out.on hb); have P7 : Hid (Play w (w4.alloc (.cells #[.int .i64 1] 3))) := Lib.hid (P6.out.on (below_one _ _)); have R3 : Hid (layI.Row (w4.alloc (.cells #[.int .i64 1] 3)) u2 [1]) := Lib.hid (hu.on (below_one _ _)); have R4 := Lib.hid (lit_rowI w4); clear hb hu)
    | (go_at_call 11; (with_reducible refine (C5.out _ _ _ R3.out R4.out).mono ?_); rintro e w5 ⟨rfl, hb⟩; have P8 := Lib.hid (P7.out.on hb); clear hb)
    | (go_at_call 18; (with_reducible refine (C6.out _ P8.out).mono ?_); rintro e w6 ⟨rfl, hb⟩; have P9 := Lib.hid (P8.out.on hb); clear hb)
    | (go_at_call 19; (with_reducible refine (C7.out _ P9.out).mono ?_); rintro e w7 ⟨rfl, hb⟩; have P10 := Lib.hid (P9.out.on hb); clear hb)
    | (go_at_call 14; (with_reducible refine (C8.out _ P10.out).mono ?_); rintro e w8 ⟨rfl, hb⟩; have P11 := Lib.hid (P10.out.on hb); clear hb))
  go_ret
  exact ⟨rfl, P11.out.below⟩
end Go.Proofs.Ythmhkkhjcnihmaa.Bat
