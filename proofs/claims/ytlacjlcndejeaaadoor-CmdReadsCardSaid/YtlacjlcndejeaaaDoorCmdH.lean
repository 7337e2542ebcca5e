/- The statement's function of layer 6 (cmd) on any text: it returns true. Condition: the library's tables and the kinds' words as they are laid (EnvC). -/
import Derived.Test.YtlacjlcndejeaaaDoorCmdG
namespace Go.Proofs.YtlacjlcndejeaaaDoor.Cmd
open Go.RowKit F64 Go.Lib
set_option linter.unusedVariables false

set_option maxHeartbeats 4000000 in
theorem reads_c (l : List UInt8) (w : World) (hE : EnvC w) : Calls Tryd.prog 5 #[.string (str l)] w (GivesTrueC w) := by
  have HE := Lib.hid hE
  have HWK := Lib.hid works_c
  obtain ⟨L, hL⟩ : ∃ L : Int, L = (l.length : Nat) := ⟨_, rfl⟩
  have hsz : (((str l).size : Nat) : Int) = L := by rw [str_size, hL]
  by_cases hl : 100 < L
  · clear hL hE
    go_enter Tryd.func5, Tryd.ntmps5
    go_wp2_with (go_at_call 11; (with_reducible refine (HWK.out _ HE.out).mono ?_); rintro e w4 ⟨rfl, hL4⟩; have HL4 := Lib.hid hL4; clear hL4)
    go_ret
    exact ⟨rfl, HL4.out⟩
  · have hl2 : L ≤ 100 := by omega
    have HRF : Hid (∀ W, Calls Tryd.prog 17 #[.string (str l)] W (GivesRefC l W)) := Lib.hid fun W => refread_any l W (by omega)
    have HRD : Hid (Calls Tryd.prog 12 #[.string (str l)] w (GivesReadC l w)) := Lib.hid (read_c l w hE (by omega))
    have HB : Hid (∀ W k s v, EnvC W → EnvC (W.alloc (.cells #[.int .i64 k, .string (str s), .float .f64 v] 24))) := Lib.hid fun W k s v h => h.on (below_one W _)
    have HX : Hid (∀ W V k s v, Below (W.alloc (.cells #[.int .i64 k, .string (str s), .float .f64 v] 24)).heap.size (W.alloc (.cells #[.int .i64 k, .string (str s), .float .f64 v] 24)) V → Boxed W W.heap.size k s v V) := Lib.hid fun W V k s v h => (Boxed.start W k s v).on h
    by_cases hx : ∃ k s v, v < 18446744073709551616 ∧ cRight k s v = true ∧ cText k s v = l
    · have HSM : Hid (∀ k s v k' s' v', v < 18446744073709551616 → v' < 18446744073709551616 → cRight k s v = true → cText k s v = l → cRight k' s' v' = true → cText k' s' v' = l → cSame k s v k' s' v' = true) := Lib.hid fun k s v k' s' v' hv hv' hr ht hr' ht' => by
        obtain ⟨rfl, rfl, h⟩ := ctext_inj hv hv' hr hr' (ht.trans ht'.symm)
        unfold cSame
        rw [h]; simp
      have HR : Hid (Calls Tryd.prog 12 #[.string (str l)] w fun e w' => ∃ k s v, e = .returned (.tuple #[.agg #[.int .i64 k, .string (str s), .float .f64 v], .int .i64 0]) ∧ (v < 18446744073709551616 ∧ cRight k s v = true ∧ cText k s v = l) ∧ LeftC w w') := Lib.hid (HRD.out.mono fun e w' ⟨k, s, v, er, he, hr, hb⟩ => by
        rcases hr.is with ⟨h1, h2, h3⟩ | ⟨_, _, _, _, h2⟩
        · subst h1; exact ⟨k, s, v, he, ⟨hr.lt, h2, h3⟩, hb⟩
        · obtain ⟨k', s', v', a, b, c⟩ := hx
          exact absurd c (h2 _ _ _ a b))
      have HRR : Hid (∀ W, Calls Tryd.prog 17 #[.string (str l)] W fun e w' => ∃ k s v, e = .returned (.tuple #[.agg #[.int .i64 k, .string (str s), .float .f64 v], .bool true]) ∧ (v < 18446744073709551616 ∧ cRight k s v = true ∧ cText k s v = l) ∧ Below W.heap.size W w') := Lib.hid fun W => (HRF.out W).mono fun e w' ⟨k, s, v, ok, he, hr, hb⟩ => by
        rcases hr.is with ⟨h1, h2, h3⟩ | ⟨_, _, _, _, h2⟩
        · subst h1; exact ⟨k, s, v, he, ⟨hr.lt, h2, h3⟩, hb⟩
        · obtain ⟨k', s', v', a, b, c⟩ := hx
          exact absurd c (h2 _ _ _ a b)
      have HTT : Hid (∀ k s v W, v < 18446744073709551616 → cRight k s v = true → cText k s v = l → EnvC W → Calls Tryd.prog 6 #[.agg #[.int .i64 k, .string (str s), .float .f64 v]] W (GivesC l W)) := Lib.hid fun k s v W hv hr ht h => by
        have := text_right k s v W h hv hr
        rw [ht] at this; exact this
      have HSS : Hid (∀ k s v k' s' v' W, v < 18446744073709551616 → v' < 18446744073709551616 → cSame k s v k' s' v' = true → Calls Tryd.prog 14 #[.agg #[.int .i64 k, .string (str s), .float .f64 v], .agg #[.int .i64 k', .string (str s'), .float .f64 v']] W (RetBelow (.bool true) W)) := Lib.hid fun k s v k' s' v' W hv hv' h => by
        have := refsame_c k s v k' s' v' W hv hv'
        rw [h] at this; exact this
      have hs : ((str l).toList == (str l).toList) = true := beq_self_eq_true _
      clear hx hl hL hE
      go_enter Tryd.func5, Tryd.ntmps5
      go_wp2_with (first
        | (go_at_call 12; (with_reducible refine HR.out.mono ?_); rintro e w1 ⟨k, s, v, rfl, hz, hL⟩; have HZ := Lib.hid hz; have H1 := Lib.hid hL; have H1b := Lib.hid (HB.out w1 k s v hL.env); clear hL hz)
        | (go_at_call 17; (with_reducible refine (HRR.out _).mono ?_); rintro e w2 ⟨k', s', v', rfl, hz, hb⟩; have HZ' := Lib.hid hz; have H2 := Lib.hid (HX.out w1 w2 k s v hb); have H2e := Lib.hid (H1b.out.on hb); have HSE := Lib.hid (HSM.out k s v k' s' v' HZ.out.1 HZ'.out.1 HZ.out.2.1 HZ.out.2.2 HZ'.out.2.1 HZ'.out.2.2); clear hb hz; have q := H2.out.c0; have q' := H2.out.c1; have q'' := H2.out.c2; have hlt := H2.out.lt; have H2b := Lib.hid (HB.out w2 k' s' v' H2e.out))
        | (go_at_call 14; (with_reducible refine (HSS.out _ _ _ _ _ _ _ HZ.out.1 HZ'.out.1 HSE.out).mono ?_); rintro e w3 ⟨rfl, hb⟩; have H3 := Lib.hid ((H2.out.on (below_one w2 _)).on hb); have H3e := Lib.hid (H2b.out.on hb); clear hb q q' q''; have q := H3.out.c0; have q' := H3.out.c1; have q'' := H3.out.c2)
        | (go_at_call 6; (with_reducible refine (HTT.out _ _ _ _ HZ.out.1 HZ.out.2.1 HZ.out.2.2 H3e.out).mono ?_); rintro e w4 ⟨rfl, hL⟩; have H4 := Lib.hid (H3.out.on hL.below); have H4e := Lib.hid hL.env; clear hL)
        | (go_at_call 11; (with_reducible refine (HWK.out _ H4e.out).mono ?_); rintro e w5 ⟨rfl, hL⟩; have H5 := Lib.hid (H4.out.on hL.below); clear hL))
      go_ret
      exact ⟨rfl, .of HE.out (H1.out.below.trans (H5.out.below.mono H1.out.below.size))⟩
    · have hno : NoCmd l := fun k s v a b c => hx ⟨k, s, v, a, b, c⟩
      have HR : Hid (Calls Tryd.prog 12 #[.string (str l)] w fun e w' => e = .returned (.tuple #[.agg #[.int .i64 0, .string ⟨#[]⟩, .float .f64 0], .int .i64 3]) ∧ LeftC w w') := Lib.hid (HRD.out.mono fun e w' ⟨k, s, v, er, he, hr, hb⟩ => by
        rcases hr.is with ⟨h1, h2, h3⟩ | ⟨h1, h2, h3, h4, _⟩
        · exact absurd h3 (hno _ _ _ hr.lt h2)
        · subst h1; subst h2; subst h3; subst h4; exact ⟨he, hb⟩)
      have HRR : Hid (∀ W, Calls Tryd.prog 17 #[.string (str l)] W fun e w' => e = .returned (.tuple #[.agg #[.int .i64 0, .string ⟨#[]⟩, .float .f64 0], .bool false]) ∧ Below W.heap.size W w') := Lib.hid fun W => (HRF.out W).mono fun e w' ⟨k, s, v, ok, he, hr, hb⟩ => by
        rcases hr.is with ⟨h1, h2, h3⟩ | ⟨h1, h2, h3, h4, _⟩
        · exact absurd h3 (hno _ _ _ hr.lt h2)
        · subst h1; subst h2; subst h3; subst h4; exact ⟨he, hb⟩
      have HSS : Hid (∀ W, Calls Tryd.prog 14 #[.agg #[.int .i64 0, .string ⟨#[]⟩, .float .f64 0], .agg #[.int .i64 0, .string ⟨#[]⟩, .float .f64 0]] W (RetBelow (.bool true) W)) := Lib.hid fun W => by
        have := refsame_c 0 [] 0 0 [] 0 W (by decide) (by decide)
        rw [show cSame 0 [] 0 0 [] 0 = true by decide] at this; exact this
      have HB0 : Hid (∀ W, EnvC W → EnvC (W.alloc (.cells #[.int .i64 0, .string ⟨#[]⟩, .float .f64 0] 24))) := Lib.hid fun W h => HB.out W 0 [] 0 h
      have HX0 : Hid (∀ W V, Below (W.alloc (.cells #[.int .i64 0, .string ⟨#[]⟩, .float .f64 0] 24)).heap.size (W.alloc (.cells #[.int .i64 0, .string ⟨#[]⟩, .float .f64 0] 24)) V → Boxed W W.heap.size 0 [] 0 V) := Lib.hid fun W V h => HX.out W V 0 [] 0 h
      clear hx hl hL hE hno
      go_enter Tryd.func5, Tryd.ntmps5
      go_wp2_with (first
        | (go_at_call 12; (with_reducible refine HR.out.mono ?_); rintro e w1 ⟨rfl, hL⟩; have H1 := Lib.hid hL; have H1b := Lib.hid (HB0.out w1 hL.env); clear hL)
        | (go_at_call 17; (with_reducible refine (HRR.out _).mono ?_); rintro e w2 ⟨rfl, hb⟩; have H2 := Lib.hid (HX0.out w1 w2 hb); have H2e := Lib.hid (H1b.out.on hb); clear hb; have q : w2.cell? ⟨w1.heap.size, 0, none⟩ = some (.int .i64 0) := H2.out.c0; have q' : w2.cell? ⟨w1.heap.size, 1, none⟩ = some (.string ⟨#[]⟩) := H2.out.c1; have q'' : w2.cell? ⟨w1.heap.size, 2, none⟩ = some (.float .f64 0) := H2.out.c2; have hlt := H2.out.lt; have H2b := Lib.hid (HB0.out w2 H2e.out))
        | (go_at_call 14; (with_reducible refine (HSS.out _).mono ?_); rintro e w3 ⟨rfl, hb⟩; have H3 := Lib.hid ((H2.out.on (below_one w2 _)).on hb); have H3e := Lib.hid (H2b.out.on hb); clear hb)
        | (go_at_call 11; (with_reducible refine (HWK.out _ H3e.out).mono ?_); rintro e w5 ⟨rfl, hL⟩; have H5 := Lib.hid (H3.out.on hL.below); clear hL))
      go_ret
      exact ⟨rfl, .of HE.out (H1.out.below.trans (H5.out.below.mono H1.out.below.size))⟩
end Go.Proofs.YtlacjlcndejeaaaDoor.Cmd
