/- The statements' functions of layer 6 (cmd): each returns true, for any command, for any two, and for any text. Conditions: a number's word of 64 bits, keys that Go can hold; the library's tables and the kinds' words as they are laid (EnvC). -/
import Derived.Test.YtlacjlcndejeaaaDoorCmdF
namespace Go.Proofs.YtlacjlcndejeaaaDoor.Cmd
open Go.RowKit F64 Go.Lib
set_option linter.unusedVariables false

theorem put_text : cText 2 [97] 4609434218613702656 = [112, 117, 116, 32, 97, 32, 51, 112, 45, 49] := by
  unfold cText tail
  rw [if_pos (.inl rfl), text_15]; rfl
theorem same_15 {v : Nat} (h : same 4609434218613702656 v = true) : v = 4609434218613702656 := by
  unfold same at h
  rw [decide_eq_true_eq] at h
  have hc : canon 4609434218613702656 = 4609434218613702656 := by decide
  rw [hc] at h
  unfold canon at h
  split at h
  · cases h
  · exact h.symm
theorem read_put {k : Int} {s : List UInt8} {v : Nat} {er : Int} (h : ReadC [112, 117, 116, 32, 97, 32, 51, 112, 45, 49] k s v er) : k = 2 ∧ s = [97] ∧ v = 4609434218613702656 ∧ er = 0 := by
  have hr : cRight 2 [97] 4609434218613702656 = true := by decide
  rcases h.is with ⟨h1, h2, h3⟩ | ⟨_, _, _, _, h2⟩
  · obtain ⟨a, b, c⟩ := ctext_inj (by decide) h.lt hr h2 (put_text.trans h3.symm)
    exact ⟨a.symm, b.symm, same_15 c, h1⟩
  · exact absurd put_text (h2 _ _ _ (by decide) hr)

def GivesTrueC (w : World) (e : Ending) (w' : World) : Prop := e = .returned (.bool true) ∧ LeftC w w'

set_option maxHeartbeats 2000000 in
theorem works_c (w : World) (hE : EnvC w) : Calls Tryd.prog 11 #[] w (GivesTrueC w) := by
  have HR : Hid (Calls Tryd.prog 12 #[.string ⟨#[112, 117, 116, 32, 97, 32, 51, 112, 45, 49]⟩] w fun e w' => e = .returned (.tuple #[.agg #[.int .i64 2, .string ⟨#[97]⟩, .float .f64 4609434218613702656], .int .i64 0]) ∧ LeftC w w') := Lib.hid ((read_c [112, 117, 116, 32, 97, 32, 51, 112, 45, 49] w hE (by decide)).mono fun e w' ⟨k, s, v, er, he, hr, hl⟩ => by
    obtain ⟨rfl, rfl, rfl, rfl⟩ := read_put hr
    exact ⟨he, hl⟩)
  have HW : Hid (∀ W, Calls Tryd.prog 9 #[.agg #[.int .i64 2, .string ⟨#[97]⟩, .float .f64 4609434218613702656]] W (RetBelow (.bool true) W)) := Lib.hid fun W => by
    have := writes_any 2 [97] 4609434218613702656 W (by decide)
    rw [show cWrites 2 [97] 4609434218613702656 = true by decide] at this
    exact this
  have HT : Hid (∀ W, EnvC W → Calls Tryd.prog 6 #[.agg #[.int .i64 2, .string ⟨#[97]⟩, .float .f64 4609434218613702656]] W fun e w' => e = .returned (.string ⟨#[112, 117, 116, 32, 97, 32, 51, 112, 45, 49]⟩) ∧ LeftC W w') := Lib.hid fun W h => (text_right 2 [97] 4609434218613702656 W h (by decide) (by decide)).mono fun e w' ⟨he, hl⟩ => ⟨by rw [he, put_text]; rfl, hl⟩
  have f1 : feq 4609434218613702656 4609434218613702656 = true := by decide
  have HB : Hid (∀ W, EnvC W → LeftC W (W.alloc (.cells #[.int .i64 2, .string ⟨#[97]⟩, .float .f64 4609434218613702656] 24))) := Lib.hid fun W h => .of h (below_one W _)
  have HX : Hid (∀ W V, Below (W.alloc (.cells #[.int .i64 2, .string ⟨#[97]⟩, .float .f64 4609434218613702656] 24)).heap.size (W.alloc (.cells #[.int .i64 2, .string ⟨#[97]⟩, .float .f64 4609434218613702656] 24)) V → Boxed W W.heap.size 2 [97] 4609434218613702656 V) := Lib.hid fun W V h => (Boxed.start W 2 [97] 4609434218613702656).on h
  clear hE
  go_enter Tryd.func11, Tryd.ntmps11
  go_wp2_with (first
    | (go_at_call 12; (with_reducible refine HR.out.mono ?_); rintro e w1 ⟨rfl, hL⟩; have H1 := Lib.hid (hL.trans (HB.out w1 hL.env)); clear hL)
    | (go_at_call 9; (with_reducible refine (HW.out _).mono ?_); rintro e w2 ⟨rfl, hb⟩; have H2 := Lib.hid (H1.out.trans (.of H1.out.env hb)); have q := HX.out w1 w2 hb; clear hb; have q0 := q.c0; have q1 : w2.cell? ⟨w1.heap.size, 1, none⟩ = some (.string ⟨#[97]⟩) := q.c1; have q2 := q.c2; clear q)
    | (go_at_call 6; (with_reducible refine (HT.out _ H2.out.env).mono ?_); rintro e w3 ⟨rfl, hL⟩; have H3 := Lib.hid (H2.out.trans hL); clear hL))
  go_ret
  exact ⟨rfl, H3.out⟩
end Go.Proofs.YtlacjlcndejeaaaDoor.Cmd
