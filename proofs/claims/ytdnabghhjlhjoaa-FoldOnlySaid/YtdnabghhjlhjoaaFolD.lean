/- What the statements' works of layer 14 (fold) gives: true. No condition. -/
import Derived.Test.YtdnabghhjlhjoaaFolS
import Derived.Test.YtdnabghhjlhjoaaFolH
namespace Go.Proofs.Ytdnabghhjlhjoaa.Fol
open Go.RowKit F64 Cmd Bat Cel Wid Vau
set_option linter.unusedVariables false
set_option linter.unusedSimpArgs false

def fplayC : List Cmdn := [(2, [97], 4607182418800017408), (4, [97], 4607182418800017408)]
def fplay : List Itm := [((1, 1), fplayC)]
abbrev cellsP : Obj := .cells #[.int .i64 2, .string ⟨#[97]⟩, .float .f64 4607182418800017408, .int .i64 4, .string ⟨#[97]⟩, .float .f64 4607182418800017408] 48
theorem fplay_row {W : World} {b : Nat} (h : W.heap[b]? = some (.cells #[.int .i64 2, .string ⟨#[97]⟩, .float .f64 4607182418800017408, .int .i64 4, .string ⟨#[97]⟩, .float .f64 4607182418800017408] 48 (0, 0))) : layC.Row W (.slice (some ⟨b, 0, none⟩) 2 2) fplayC := by
  refine ⟨_, 2, rfl, Nat.le_refl _, by omega, fun _ => ⟨b, 0, rfl, (Array.getElem?_eq_some_iff.1 h).1, fun j hj => ?_⟩⟩
  have hj' : j < 2 := hj
  have hc : ∀ i (hi : i < 6), W.cell? ⟨b, i, none⟩ = (#[.int .i64 2, .string ⟨#[97]⟩, .float .f64 4607182418800017408, .int .i64 4, .string ⟨#[97]⟩, .float .f64 4607182418800017408] : Array Value)[i]? := fun i hi => by simp [World.cell?, h]
  match j, hj' with
  | 0, _ => exact ⟨hc 0 (by omega), hc 1 (by omega), hc 2 (by omega)⟩
  | 1, _ => exact ⟨hc 3 (by omega), hc 4 (by omega), hc 5 (by omega)⟩
theorem canon_is {z m : Nat} (h : canon z = canon m) (hm : isNan m = false) : z = m := by
  rcases canon_num h with h | ⟨-, h⟩
  · exact h
  · rw [hm] at h; cases h
theorem fplay_ok : okOf fplay = fplay := by decide
theorem fplay_cell : cellOf fplay [97] = (true, 4611686018427387904) := by decide
theorem fplay_log : logOf fplay [97] = [((1, 1), 0), ((1, 1), 1)] := by decide
theorem fplay_only : onlyOf fplay [97] [((1, 1), 0)] = (true, 4607182418800017408) := by decide
theorem fplay_res : (resOf fplay).length = 2 := by decide
theorem fplay_wf : ∀ x ∈ fplay, wfT x := by
  intro x hx
  unfold fplay at hx
  rw [List.mem_singleton] at hx
  subst hx
  intro c hc
  unfold fplayC at hc
  rw [List.mem_cons, List.mem_singleton] at hc
  rcases hc with rfl | rfl
  · exact ⟨by decide, by decide⟩
  · exact ⟨by decide, by decide⟩
theorem fplay_wfa : ∀ x ∈ fplay, wfA x := by
  intro x hx
  unfold fplay at hx
  rw [List.mem_singleton] at hx
  subst hx
  exact ⟨by decide, by decide⟩
theorem fplay_wfw : ∀ x ∈ [(((1, 1), 0) : Wr)], wfW x := by
  intro x hx
  rw [List.mem_singleton] at hx
  subst hx
  exact ⟨by decide, by decide, by decide⟩
theorem first_yes : firstOf [((1, 1), 0)] [((1, 1), 0), ((1, 1), 1)] = true := by decide
theorem first_no : firstOf [((1, 1), 0), ((1, 1), 1)] [((1, 1), 0)] = false := by decide
theorem row_one {w : World} {p : Option Addr} {cap : Nat} {a b : Wr} (h : layW.Row w (.slice p 2 cap) [a, b]) : layW.Row w (.slice (cutw p cap) 1 cap) [a] := row_first h 1 (show 1 ≤ 2 by omega)
set_option maxHeartbeats 16000000 in
set_option maxRecDepth 100000 in
theorem fplay_any (w : World) : Calls Try.prog 6 #[] w (RetBelow (.bool true) w) := by
  have hb1 := Cmd.below_one w (.cells #[.int .i64 2, .string ⟨#[97]⟩, .float .f64 4607182418800017408, .int .i64 4, .string ⟨#[97]⟩, .float .f64 4607182418800017408] 48)
  have hR1 := fplay_row (heap_alloc_new w cellsP)
  generalize hw1 : w.alloc (.cells #[.int .i64 2, .string ⟨#[97]⟩, .float .f64 4607182418800017408, .int .i64 4, .string ⟨#[97]⟩, .float .f64 4607182418800017408] 48) = w1 at hb1 hR1
  have hs1 : w1.heap.size = w.heap.size + 1 := by rw [← hw1]; simp
  have hb2 := Cmd.below_one w1 (.cells #[.int .i64 1, .int .i64 1, .slice (some ⟨w.heap.size, 0, none⟩) 2 2] 51)
  have hR2 : layT.Row (w1.alloc (.cells #[.int .i64 1, .int .i64 1, .slice (some ⟨w.heap.size, 0, none⟩) 2 2] 51)) (.slice (some ⟨w1.heap.size, 0, none⟩) 1 1) fplay := Match.back (lone_at (D := wdQ) (x := ((1, 1), (some ⟨w.heap.size, 0, none⟩, 2, 2))) (heap_alloc_new w1 _) rfl) ((Match.one (show layC.Row w1 (sl (some ⟨w.heap.size, 0, none⟩, 2, 2)) fplayC from hR1)).on hb2)
  generalize hw2 : w1.alloc (.cells #[.int .i64 1, .int .i64 1, .slice (some ⟨w.heap.size, 0, none⟩) 2 2] 51) = w2 at hb2 hR2
  have HR := Lib.hid hR2
  have B2 := Lib.hid (hb1.trans (hb2.mono hb1.size))
  have hS2 : ∀ W, Below w2.heap.size w2 W → layT.Row W (.slice (some ⟨w.heap.size + 1, 0, none⟩) 1 1) fplay := fun W hb => by rw [← hs1]; exact hR2.on hb
  have CW : Hid (Calls Try.prog 12 #[.slice (some ⟨w.heap.size + 1, 0, none⟩) 1 1, .string ⟨#[97]⟩] w2 (layW.Gives [((1, 1), 0), ((1, 1), 1)] w2)) := Lib.hid (by
    have := fwriters_any _ fplay [97] w2 (hS2 w2 (Below.refl _ _)) fplay_wf (by decide) (by decide)
    rw [fplay_ok, fplay_log] at this; exact this)
  have CC : Hid (∀ W, Below w2.heap.size w2 W → Calls Try.prog 9 #[.slice (some ⟨w.heap.size + 1, 0, none⟩) 1 1, .string ⟨#[97]⟩] W (GivesFold (true, 4611686018427387904) W)) := Lib.hid fun W hb => by
    have := fcell_any _ fplay [97] W (hS2 W hb) fplay_wf (by decide) (by decide)
    rw [fplay_ok, fplay_cell] at this; exact this
  have CO : Hid (∀ W, Below w2.heap.size w2 W → ∀ u, layW.Row W u [((1, 1), 0)] → Calls Try.prog 17 #[.slice (some ⟨w.heap.size + 1, 0, none⟩) 1 1, .string ⟨#[97]⟩, u] W (GivesFold (true, 4607182418800017408) W)) := Lib.hid fun W hb u hu => by
    have := fonly_any _ u fplay [97] [((1, 1), 0)] W (hS2 W hb) hu fplay_wf fplay_wfa fplay_wfw (by decide) (by decide) (by decide)
    rw [fplay_ok, fplay_only] at this; exact this
  have CR : Hid (∀ W, Below w2.heap.size w2 W → Calls Try.prog 15 #[.slice (some ⟨w.heap.size + 1, 0, none⟩) 1 1] W (GivesRes (resOf fplay) W)) := Lib.hid fun W hb => by
    have := fresults_any _ fplay W (hS2 W hb) fplay_wf (by decide)
    rw [fplay_ok] at this; exact this
  clear hb1 hb2 hR1 hR2 hS2 HR
  go_enter Try.func6, Try.ntmps6
  go_upto_region 3 with (first
    | (go_at_call 12; ((with_reducible refine CW.out.mono ?_); rintro E w3 ⟨v3, rfl, hr, hb⟩; obtain ⟨p3, cap3, rfl, gc, -, -⟩ := id hr; have HR3 := Lib.hid hr; have B3 := Lib.hid hb; clear hr hb)))
  have hcap : 2 ≤ cap3 := gc
  have h1c : (1 : Int) ≤ cap3 := by omega
  have hsl : ∀ w, (Instr.slice 34 (.slice p3 2 cap3) none (some (.int .i64 1)) none).run Try.prog w = .ok (.slice (cutw p3 cap3) 1 cap3) w := fun w => cut_wide wtW p3 2 cap3 1 (by omega) w
  have HP1 : Hid (∀ W, Below w3.heap.size w3 W → Calls Try.prog 19 #[.slice (cutw p3 cap3) 1 cap3, .slice p3 2 cap3] W (RetBelow (.bool true) W)) := Lib.hid fun W hb => by
    have := fprefix_any _ _ _ _ W (row_one (HR3.out.on hb)) (HR3.out.on hb)
    rw [first_yes] at this; exact this
  have HP2 : Hid (∀ W, Below w3.heap.size w3 W → Calls Try.prog 19 #[.slice p3 2 cap3, .slice (cutw p3 cap3) 1 cap3] W (RetBelow (.bool false) W)) := Lib.hid fun W hb => by
    have := fprefix_any _ _ _ _ W (HR3.out.on hb) (row_one (HR3.out.on hb))
    rw [first_no] at this; exact this
  have CC3 := Lib.hid (CC.out w3 B3.out)
  generalize hcw : cutw p3 cap3 = cw at hsl HP1 HP2
  have HR1 : Hid (∀ W, Below w3.heap.size w3 W → layW.Row W (.slice cw 1 cap3) [((1, 1), 0)]) := Lib.hid fun W hb => by rw [← hcw]; exact row_one (HR3.out.on hb)
  clear hcw gc
  go_wp2_with (first
    | (go_at_call 9; ((with_reducible refine CC3.out.mono ?_); rintro E w4 ⟨f, z, rfl, hf, hb⟩; obtain rfl := canon_is hf.val (by decide); have B4 := Lib.hid hb; have CO4 := Lib.hid (CO.out w4 (B3.out.trans (B4.out.mono B3.out.size)) _ (HR1.out w4 B4.out)); clear hf hb))
    | (go_at_call 17; ((with_reducible refine CO4.out.mono ?_); rintro E w5 ⟨f, z, rfl, hf, hb⟩; obtain rfl := canon_is hf.val (by decide); have B5 := Lib.hid (B4.out.trans (hb.mono B4.out.size)); have CP5 := Lib.hid (HP1.out w5 B5.out); clear hf hb CO4))
    | (go_at_call 19; ((with_reducible refine CP5.out.mono ?_); rintro E w6 ⟨rfl, hb⟩; have B6 := Lib.hid (B5.out.trans (hb.mono B5.out.size)); have CP6 := Lib.hid (HP2.out w6 B6.out); clear hb CP5))
    | (go_at_call 19; ((with_reducible refine CP6.out.mono ?_); rintro E w7 ⟨rfl, hb⟩; have B7 := Lib.hid (B6.out.trans (hb.mono B6.out.size)); have CR7 := Lib.hid (CR.out w7 (B3.out.trans (B7.out.mono B3.out.size))); clear hb CP6))
    | (go_at_call 15; ((with_reducible refine CR7.out.mono ?_); rintro E w8 ⟨v8, ys, rfl, hr, hf, hb⟩; obtain ⟨p8, cap8, rfl, -⟩ := hr; have hy : ys.length = 2 := hf.len.trans fplay_res; rw [hy]; have B8 := Lib.hid (B3.out.trans ((B7.out.trans (hb.mono B7.out.size)).mono B3.out.size)); clear hf hb hy)))
  go_ret
  exact ⟨rfl, B2.out.trans (B8.out.mono B2.out.size)⟩
end Go.Proofs.Ytdnabghhjlhjoaa.Fol
