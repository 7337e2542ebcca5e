/- What the statements' own 'floor' and 'works' give (layer 5, front): a replica's floor of a list of ids that may be; true. Conditions: the list lies in memory as its cells say. -/
import Derived.Test.YtjkjbpfpmghlaaaFrontC
namespace Go.Proofs.Ytjkjbpfpmghlaaa
open Go.RowKit Go.Maps
set_option linter.unusedVariables false

/-! ### floor -/
theorem floor_any (v : Value) (ms : List Idn) (r : Nat) (hr : r < 8) (w : World) (h : RowAt w v ms) (hw : ∀ x ∈ ms, idRight x = true) : Calls Try.prog 14 #[v, .int .i64 (r : Int)] w fun e w' => e = .returned (.int .i64 (flr ms (r : Int))) ∧ Below w.heap.size w w' := by
  have HR := Lib.hid h
  have HW := Lib.hid hw
  obtain ⟨z, hz⟩ : ∃ z : Int, (flr ms (r : Int) : Int) = z := ⟨_, rfl⟩
  have HZ := Lib.hid hz
  rw [hz]
  clear h hw hz
  go_enter Try.func14, Try.ntmps14
  go_wp2
  go_loopw [5] (fun i wr => ∃ k : Nat, k ≤ 1048576 ∧ i = .int .i64 k ∧ Hid (Below w.heap.size w wr) ∧ Hid (∀ j : Int, 1 ≤ j → j ≤ k → ((r : Int), j) ∈ ms)) (fun i _ => 1048577 - (intOf i).toNat)
  case atStart => exact ⟨0, by omega, rfl, Lib.hid (Below.refl _ _), Lib.hid fun j h1 h2 => by omega⟩
  case round =>
    obtain ⟨k, hk, rfl, hbw, hlow⟩ := hrel
    have k0 : (0 : Int) ≤ k := by omega
    have kn : (k : Int) ≤ 1048576 := by omega
    have hw1 : IntKind.i64.wrap ((k : Int) + 1) = (k : Int) + 1 := IntWalk.i64_in _ (by omega)
    have HC := Lib.hid (refhas_any v ms r ((k : Int) + 1) wr (HR.out.on hbw.out))
    by_cases hm : ((r : Int), (k : Int) + 1) ∈ ms
    · rw [decide_eq_true hm] at HC
      have hk1 : k + 1 ≤ 1048576 := by have := ((right_iff _).1 (HW.out _ hm)).2.2.2; omega
      have HM := Lib.hid hm
      clear hm
      go_wp2_with (go_at_call 10; ((with_reducible refine HC.out.mono ?_); rintro e w1 ⟨rfl, hb⟩; have HB := Lib.hid hb; clear hb))
      go_roundw
      case rel => exact ⟨k + 1, hk1, by go_num, Lib.hid (hbw.out.trans (HB.out.mono hbw.out.size)), Lib.hid fun j h1 h2 => by
        by_cases e : j ≤ k
        · exact hlow.out j h1 e
        · rw [show j = (k : Int) + 1 by omega]; exact HM.out⟩
      case measure => simp [intOf]; omega
    · rw [decide_eq_false hm] at HC
      have HM : Hid (flr ms (r : Int) = k) := Lib.hid (flr_eq ⟨hlow.out, hm⟩)
      clear hm
      go_wp2_with (go_at_call 10; ((with_reducible refine HC.out.mono ?_); rintro e w1 ⟨rfl, hb⟩; have HB := Lib.hid hb; clear hb))
      go_ret
      exact ⟨ret_int (by rw [← HZ.out, HM.out]), hbw.out.trans (HB.out.mono hbw.out.size)⟩

/-! ### works -/
def fr1 : List Idn := [(1, 2)]
def fr2 : List Idn := [(1, 1), (1, 2)]
theorem fr1_flr : flrOf fr1 1 = 0 := by
  unfold flrOf
  rw [if_pos ⟨by decide, by decide⟩, flr_eq (n := 0) ⟨fun j h1 h2 => by omega, by decide⟩]; rfl
theorem fr2_flr : flrOf fr2 1 = 2 := by
  unfold flrOf
  rw [if_pos ⟨by decide, by decide⟩, flr_eq (n := 2) ⟨fun j h1 h2 => ?_, by decide⟩]
  · rfl
  · have : j = 1 ∨ j = 2 := by omega
    rcases this with rfl | rfl <;> decide
/-- A front of these ids, in new memory. -/
structure FrontN (g s m : Nat) (ms : List Idn) (w0 : World) (W : World) : Prop where
  p : FrontP W g s m ms
  g : w0.heap.size ≤ g
  m : w0.heap.size ≤ m
  below : Below w0.heap.size w0 W
theorem FrontN.save {g s m : Nat} {ms ys : List Idn} {w W W' : World} (h1 : FrontN g s m ms w W) (h2 : FrontP W' g s m ys) (h3 : Save g m W W') : FrontN g s m ys w W' := ⟨h2, h1.g, h1.m, h1.below.trans (h3.below h1.g h1.m h1.below.size)⟩
theorem FrontN.on {g s m : Nat} {ms : List Idn} {w W W' : World} (h1 : FrontN g s m ms w W) (h2 : Below W.heap.size W W') : FrontN g s m ms w W' := ⟨h1.p.on h2, h1.g, h1.m, h1.below.trans (h2.mono h1.below.size)⟩
/-- Behind a call that has written another front. -/
theorem FrontN.save2 {g s m g' s' m' : Nat} {ms ys : List Idn} {w W W' : World} (k : FrontN g s m ms w W) (h : Save g' m' W W') (l : FrontP W g' s' m' ys) (h1 : g ≠ g') (h2 : m ≠ m') (h3 : w.heap.size ≤ g') (h4 : w.heap.size ≤ m') : FrontN g s m ms w W' := ⟨k.p.save h l h1 h2, k.g, k.m, k.below.trans (h.below h3 h4 k.below.size)⟩
def GivesMark (g s m : Nat) (ms : List Idn) (t : Bool) (W : World) (e : Ending) (w' : World) : Prop := e = .returned (.bool t) ∧ FrontP w' g s m ms ∧ Save g m W w'
set_option maxHeartbeats 2000000 in
set_option maxRecDepth 100000 in
theorem fworks_any (w : World) : Calls Try.prog 5 #[] w (RetTrue w) := by
  have HN := Lib.hid (fnew_any w)
  have M1 : Hid (∀ W g s m, FrontP W g s m [] → Calls Try.prog 8 #[.pointer (some ⟨g, 0, none⟩), .agg #[.int .i64 1, .int .i64 2]] W (GivesMark g s m fr1 true W)) := Lib.hid fun W g s m h => fmark_p g s m [] 1 2 W h (wf_small (by decide)) (by decide)
  have M2 : Hid (∀ W g s m, FrontP W g s m fr1 → Calls Try.prog 8 #[.pointer (some ⟨g, 0, none⟩), .agg #[.int .i64 1, .int .i64 1]] W (GivesMark g s m fr2 true W)) := Lib.hid fun W g s m h => fmark_p g s m fr1 1 1 W h (wf_small (by decide)) (by decide)
  have M3 : Hid (∀ W g s m, FrontP W g s m fr2 → Calls Try.prog 8 #[.pointer (some ⟨g, 0, none⟩), .agg #[.int .i64 1, .int .i64 1]] W (GivesMark g s m fr2 false W)) := Lib.hid fun W g s m h => fmark_p g s m fr2 1 1 W h (wf_small (by decide)) (by decide)
  have F1 : Hid (∀ W g s m, FrontP W g s m fr1 → Calls Try.prog 15 #[.pointer (some ⟨g, 0, none⟩), .int .i64 1] W fun e w' => e = .returned (.int .i64 0) ∧ Below W.heap.size W w') := Lib.hid fun W g s m h => by have := ffloor_p g s m fr1 1 W h; rw [fr1_flr] at this; exact this
  have F2 : Hid (∀ W g s m, FrontP W g s m fr2 → Calls Try.prog 15 #[.pointer (some ⟨g, 0, none⟩), .int .i64 1] W fun e w' => e = .returned (.int .i64 2) ∧ Below W.heap.size W w') := Lib.hid fun W g s m h => by have := ffloor_p g s m fr2 1 W h; rw [fr2_flr] at this; exact this
  have L2 : Hid (∀ W g s m, FrontP W g s m fr2 → Calls Try.prog 12 #[.pointer (some ⟨g, 0, none⟩)] W fun e w' => e = .returned (.int .i64 2) ∧ Below W.heap.size W w') := Lib.hid fun W g s m h => flen_p g s m fr2 W h (by decide)
  go_enter Try.func5, Try.ntmps5
  go_wp2_with (first
    | (go_at_call 6; ((with_reducible refine HN.out.mono ?_); rintro e w1 ⟨g, s, m, rfl, hg, hm, hs, hb⟩; unfold frontPtr; have S1 : Hid (FrontN g s m [] w w1) := Lib.hid ⟨hs, hg, hm, hb⟩; clear hs hb hg hm HN))
    | (go_at_call 8; ((with_reducible refine (M1.out _ _ _ _ S1.out.p).mono ?_); rintro e w2 ⟨rfl, h, hs⟩; have S2 := Lib.hid (S1.out.save h hs); clear h hs S1 M1))
    | (go_at_call 15; ((with_reducible refine (F1.out _ _ _ _ S2.out.p).mono ?_); rintro e w3 ⟨rfl, hb⟩; have S3 := Lib.hid (S2.out.on hb); clear hb S2 F1))
    | (go_at_call 8; ((with_reducible refine (M2.out _ _ _ _ S3.out.p).mono ?_); rintro e w4 ⟨rfl, h, hs⟩; have S4 := Lib.hid (S3.out.save h hs); clear h hs S3 M2))
    | (go_at_call 15; ((with_reducible refine (F2.out _ _ _ _ S4.out.p).mono ?_); rintro e w5 ⟨rfl, hb⟩; have S5 := Lib.hid (S4.out.on hb); clear hb S4 F2))
    | (go_at_call 12; ((with_reducible refine (L2.out _ _ _ _ S5.out.p).mono ?_); rintro e w6 ⟨rfl, hb⟩; have S6 := Lib.hid (S5.out.on hb); clear hb S5 L2))
    | (go_at_call 8; ((with_reducible refine (M3.out _ _ _ _ S6.out.p).mono ?_); rintro e w7 ⟨rfl, h, hs⟩; have S7 := Lib.hid (S6.out.save h hs); clear h hs S6 M3)))
  go_ret
  exact ⟨rfl, S7.out.below⟩
end Go.Proofs.Ytjkjbpfpmghlaaa
