/- The statements' functions of layer 3 (ident) on one or two ids, and on a text: each returns true. Condition: the library's tables and errors as they are laid (Env). -/
import Derived.Test.YtnjaoohgmfphgaaDoorIdV
namespace Go.Proofs.YtnjaoohgmfphgaaDoor
open Go.RowKit Go.Lib
set_option linter.unusedVariables false

def GivesTrue (w : World) (e : Ending) (w' : World) : Prop := e = .returned (.bool true) ∧ Left w w'
theorem read_217 {x : Idn} {er : Int} (h : ReadIs [50, 46, 49, 55] x er) : x = (2, 17) ∧ er = 0 := by
  have hr : idRight (2, 17) = true := by decide
  rcases h with ⟨h1, h2, h3⟩ | ⟨_, _, h2⟩
  · exact ⟨text_inj h2 hr (h3.trans text_217.symm), h1⟩
  · exact absurd text_217 (h2 _ hr)
set_option maxHeartbeats 2000000 in
set_option maxRecDepth 100000 in
theorem works_any (w : World) (hE : Env w) : Calls Tryd.prog 10 #[] w (GivesTrue w) := by
  have HR : Hid (Calls Tryd.prog 11 #[.string ⟨#[50, 46, 49, 55]⟩] w fun e w' => e = .returned (.tuple #[.agg #[.int .i64 2, .int .i64 17], .int .i64 0]) ∧ Left w w') := Lib.hid ((read_any [50, 46, 49, 55] w hE).mono fun e w' ⟨x, er, he, hr, hl⟩ => by
    obtain ⟨rfl, rfl⟩ := read_217 hr
    exact ⟨he, hl⟩)
  have HT : Hid (∀ W, Env W → Calls Tryd.prog 9 #[.agg #[.int .i64 2, .int .i64 17]] W fun e w' => e = .returned (.string ⟨#[50, 46, 49, 55]⟩) ∧ Left W w') := Lib.hid fun W h => (idtext_any 2 17 W h (by decide)).mono fun e w' ⟨he, hl⟩ => ⟨by rw [he, text_217]; rfl, hl⟩
  have HC : Hid (∀ W, Calls Tryd.prog 8 #[.agg #[.int .i64 2, .int .i64 17], .agg #[.int .i64 3, .int .i64 1]] W fun e w' => e = .returned (.int .i64 (-1)) ∧ Below W.heap.size W w') := Lib.hid fun W => (compare_any 2 17 3 1 W).mono fun e w' ⟨he, hw⟩ => ⟨he, by rw [hw]; exact below_two _ _ _ _ _⟩
  have HB : Hid (∀ W, Env W → Left W (W.alloc (.cells #[.int .i64 2, .int .i64 17] 23))) := Lib.hid fun W h => .of h (below_one W _)
  have HX : Hid (∀ W V, Left (W.alloc (.cells #[.int .i64 2, .int .i64 17] 23)) V → Boxed W 2 17 V) := Lib.hid fun W V h => (Boxed.start W 2 17).on h.below
  clear hE
  go_enter Tryd.func10, Tryd.ntmps10
  go_wp2_with (first
    | (go_at_call 11; (with_reducible refine HR.out.mono ?_); rintro e w1 ⟨rfl, hL1⟩; have HL1 := Lib.hid hL1; clear hL1; have HL1b := Lib.hid (HB.out w1 HL1.out.env))
    | (go_at_call 9; (with_reducible refine (HT.out _ HL1b.out.env).mono ?_); rintro e w2 ⟨rfl, hL2⟩; have HL2 := Lib.hid hL2; have q := HX.out w1 w2 hL2; clear hL2; have q0 := q.fst; have q1 := q.snd; clear q)
    | (go_at_call 8; (with_reducible refine (HC.out _).mono ?_); rintro e w3 ⟨rfl, hb3⟩; have HL3 := Lib.hid (Left.of HL2.out.env hb3); clear hb3))
  go_ret
  exact ⟨rfl, ((HL1.out.trans HL1b.out).trans HL2.out).trans HL3.out⟩

set_option maxHeartbeats 4000000 in
set_option maxRecDepth 100000 in
theorem reads_any (l : List UInt8) (w : World) (hE : Env w) : Calls Tryd.prog 4 #[.string (str l)] w (GivesTrue w) := by
  have HE := Lib.hid hE
  have HWK := Lib.hid works_any
  obtain ⟨L, hL⟩ : ∃ L : Int, L = (l.length : Nat) := ⟨_, rfl⟩
  have hsz : (((str l).size : Nat) : Int) = L := by rw [str_size, hL]
  by_cases hl : 100 < L
  · clear hL hE
    go_enter Tryd.func4, Tryd.ntmps4
    go_wp2_with (go_at_call 10; (with_reducible refine (HWK.out _ HE.out).mono ?_); rintro e w4 ⟨rfl, hL4⟩; have HL4 := Lib.hid hL4; clear hL4)
    go_ret
    exact ⟨rfl, HL4.out⟩
  · have hl2 : L ≤ 100 := by omega
    have HRF : Hid (∀ W, Calls Tryd.prog 13 #[.string (str l)] W (GivesRef l W)) := Lib.hid fun W => refread_any l W (by omega)
    by_cases hx : ∃ x, idRight x = true ∧ idText x = l
    · obtain ⟨⟨a, b⟩, hx1, hx2⟩ := hx
      have HR : Hid (Calls Tryd.prog 11 #[.string (str l)] w fun e w' => e = .returned (.tuple #[.agg #[.int .i64 a, .int .i64 b], .int .i64 0]) ∧ Left w w') := Lib.hid ((read_any l w hE).mono fun e w' ⟨x, er, he, hr, hl⟩ => by
        rcases hr with ⟨h1, h2, h3⟩ | ⟨_, _, h2⟩
        · have := text_inj h2 hx1 (h3.trans hx2.symm)
          subst this; subst h1; exact ⟨he, hl⟩
        · exact absurd hx2 (h2 _ hx1))
      have HRR : Hid (∀ W, Env W → Calls Tryd.prog 13 #[.string (str l)] W fun e w' => e = .returned (.tuple #[.agg #[.int .i64 a, .int .i64 b], .bool true]) ∧ Left W w') := Lib.hid fun W h => (HRF.out W).mono fun e w' ⟨x, ok, he, hr, hb⟩ => by
        rcases hr with ⟨h1, h2, h3⟩ | ⟨_, _, h2⟩
        · have := text_inj h2 hx1 (h3.trans hx2.symm)
          subst this; subst h1; exact ⟨he, .of h hb⟩
        · exact absurd hx2 (h2 _ hx1)
      have HB : Hid (∀ W, Env W → Left W (W.alloc (.cells #[.int .i64 a, .int .i64 b] 23))) := Lib.hid fun W h => .of h (below_one W _)
      have HX : Hid (∀ W V, Left (W.alloc (.cells #[.int .i64 a, .int .i64 b] 23)) V → Boxed W a b V) := Lib.hid fun W V h => (Boxed.start W a b).on h.below
      have hq : ∀ w, (binOp .eql 23 (.agg #[.int .i64 a, .int .i64 b]) (.agg #[.int .i64 a, .int .i64 b])).run Tryd.prog w = .ok (.bool true) w := fun w => by rw [eql_id]; simp
      clear hL hE hx1 hx2
      go_enter Tryd.func4, Tryd.ntmps4
      go_wp2_with (first
        | (go_at_call 11; (with_reducible refine HR.out.mono ?_); rintro e w1 ⟨rfl, hL1⟩; have HL1 := Lib.hid hL1; clear hL1; have HL1b := Lib.hid (HB.out w1 HL1.out.env))
        | (go_at_call 13; (with_reducible refine (HRR.out _ HL1b.out.env).mono ?_); rintro e w2 ⟨rfl, hL2⟩; have HL2 := Lib.hid hL2; have q := HX.out w1 w2 hL2; clear hL2; have q0 := q.fst; have q1 := q.snd; have q2 := q.lt; clear q; have HL2b := Lib.hid (HB.out w2 HL2.out.env))
        | (go_at_call 10; (with_reducible refine (HWK.out _ HL2b.out.env).mono ?_); rintro e w4 ⟨rfl, hL4⟩; have HL4 := Lib.hid hL4; clear hL4))
      go_ret
      exact ⟨rfl, (((HL1.out.trans HL1b.out).trans HL2.out).trans HL2b.out).trans HL4.out⟩
    · have HR : Hid (Calls Tryd.prog 11 #[.string (str l)] w fun e w' => e = .returned (.tuple #[.agg #[.int .i64 0, .int .i64 0], .int .i64 3]) ∧ Left w w') := Lib.hid ((read_any l w hE).mono fun e w' ⟨x, er, he, hr, hl⟩ => by
        rcases hr with ⟨h1, h2, h3⟩ | ⟨h1, h3, h2⟩
        · exact absurd ⟨x, h2, h3⟩ hx
        · subst h1; subst h3; exact ⟨he, hl⟩)
      have HRR : Hid (∀ W, Env W → Calls Tryd.prog 13 #[.string (str l)] W fun e w' => e = .returned (.tuple #[.agg #[.int .i64 0, .int .i64 0], .bool false]) ∧ Left W w') := Lib.hid fun W h => (HRF.out W).mono fun e w' ⟨x, ok, he, hr, hb⟩ => by
        rcases hr with ⟨h1, h2, h3⟩ | ⟨h1, h3, h2⟩
        · exact absurd ⟨x, h2, h3⟩ hx
        · subst h1; subst h3; exact ⟨he, .of h hb⟩
      have HB : Hid (∀ W, Env W → Left W (W.alloc (.cells #[.int .i64 0, .int .i64 0] 23))) := Lib.hid fun W h => .of h (below_one W _)
      have HX : Hid (∀ W V, Left (W.alloc (.cells #[.int .i64 0, .int .i64 0] 23)) V → Boxed W 0 0 V) := Lib.hid fun W V h => (Boxed.start W 0 0).on h.below
      clear hL hE hx
      go_enter Tryd.func4, Tryd.ntmps4
      go_wp2_with (first
        | (go_at_call 11; (with_reducible refine HR.out.mono ?_); rintro e w1 ⟨rfl, hL1⟩; have HL1 := Lib.hid hL1; clear hL1; have HL1b := Lib.hid (HB.out w1 HL1.out.env))
        | (go_at_call 13; (with_reducible refine (HRR.out _ HL1b.out.env).mono ?_); rintro e w2 ⟨rfl, hL2⟩; have HL2 := Lib.hid hL2; have q := HX.out w1 w2 hL2; clear hL2; have q0 := q.fst; have q1 := q.snd; have q2 := q.lt; clear q; have HL2b := Lib.hid (HB.out w2 HL2.out.env))
        | (go_at_call 10; (with_reducible refine (HWK.out _ HL2b.out.env).mono ?_); rintro e w4 ⟨rfl, hL4⟩; have HL4 := Lib.hid hL4; clear hL4))
      go_ret
      exact ⟨rfl, (((HL1.out.trans HL1b.out).trans HL2.out).trans HL2b.out).trans HL4.out⟩
end Go.Proofs.YtnjaoohgmfphgaaDoor
