/- The statement's function of layer 8 (record) on one record: it returns true. Conditions: the lists lie in memory as their cells say; numbers' words of 64 bits; texts of a length that a machine holds. -/
import Derived.Test.YtkafhepgonidkaaRecJ
import Derived.Deep.DeepCutAuto
namespace Go.Proofs.Ytkafhepgonidkaa.Rec
open Go.RowKit Cmd Bat Ids
set_option linter.unusedVariables false
set_option linter.unusedSimpArgs false

set_option maxHeartbeats 16000000 in
set_option maxRecDepth 100000 in
theorem checks_any (a b q : Int) (v u : Value) (ds : List Idn) (cs : List Cmdn) (w : World) (h : RowAt w v ds) (g : layC.Row w u cs) (hw : ∀ x ∈ cs, wfC x) :
    Calls Try.prog 3 #[.agg #[.int .i64 a, .int .i64 b, .int .i64 q, v, u]] w (RetBelow (.bool true) w) := by
  have HRI : Hid (∀ W, Below w.heap.size w W → RowAt W v ds) := Lib.hid fun W hb => h.on hb
  have HRC : Hid (∀ W, Below w.heap.size w W → layC.Row W u cs) := Lib.hid fun W hb => g.on hb
  have hv : ∃ p c, v = .slice p ds.length c := by obtain ⟨p, c, e, _⟩ := h; exact ⟨p, c, e⟩
  have hu : ∃ p c, u = .slice p cs.length c := by obtain ⟨p, c, e, _⟩ := g; exact ⟨p, c, e⟩
  obtain ⟨p, c, rfl⟩ := hv
  obtain ⟨p', c', rfl⟩ := hu
  have HB := Lib.hid (BoxR.start 27 w a b q (.slice p ds.length c) (.slice p' cs.length c'))
  unfold cellsR at HB
  have HWK := Lib.hid works_any
  have HW := Lib.hid hw
  clear h g hw
  obtain ⟨n, hn⟩ : ∃ n, n = ds.length := ⟨_, rfl⟩
  obtain ⟨m, hm⟩ : ∃ m, m = cs.length := ⟨_, rfl⟩
  rw [← hn, ← hm] at HB ⊢
  rw [← hn] at HRI
  rw [← hm] at HRC
  have HN := Lib.hid hn
  have HM := Lib.hid hm
  clear hn hm
  by_cases hl : 100 < n ∨ 100 < m
  · by_cases hl1 : 100 < n
    · have h1 : 100 < (n : Int) := by omega
      clear hl hl1
      go_enter Try.func3, Try.ntmps3
      go_wp2_with (first
        | (go_at_call 5; (with_reducible refine (HWK.out _).mono ?_); rintro e w1 ⟨rfl, hb⟩; have H1 := Lib.hid (HB.out.on hb); clear hb))
      go_ret
      exact ⟨rfl, H1.out.below⟩
    · have h1 : ¬ 100 < (n : Int) := by omega
      have h2 : 100 < (m : Int) := by omega
      clear hl hl1
      go_enter Try.func3, Try.ntmps3
      go_wp2_with (first
        | (go_at_call 5; (with_reducible refine (HWK.out _).mono ?_); rintro e w1 ⟨rfl, hb⟩; have H1 := Lib.hid (HB.out.on hb); clear hb))
      go_ret
      exact ⟨rfl, H1.out.below⟩
  · have h1 : ¬ 100 < (n : Int) := by omega
    have h2 : ¬ 100 < (m : Int) := by omega
    have hl' : m ≤ 100000 := by omega
    replace hl : n ≤ 100000 := by omega
    have HX0 := Lib.hid (HB.out.on (Below.refl _ _).drew)
    go_enter Try.func3, Try.ntmps3
    go_upto_region 3 with fail
    go_cut [3] (fun own wc => ∃ h g k g' k' : Nat, own = .pointer (some ⟨h, 0, none⟩) ∧ Hid (OwnAt w a b q (.slice p n c) (.slice p' m c') ds cs h g k g' k' wc))
    case first =>
      refine wp_region_held_drew (S := (fun w' => w'.cell? ⟨w.heap.size, 0, none⟩ = some (.int .i64 a) ∧ w'.cell? ⟨w.heap.size, 1, none⟩ = some (.int .i64 b) ∧ w'.cell? ⟨w.heap.size, 2, none⟩ = some (.int .i64 q) ∧ w'.cell? ⟨w.heap.size, 3, none⟩ = some (.slice p n c) ∧ w'.cell? ⟨w.heap.size, 4, none⟩ = some (.slice p' m c'))) (by kernel_rfl) (HX0.out.five) (fun hHeld => ?_)
      generalize (w.alloc (.cells #[.int .i64 a, .int .i64 b, .int .i64 q, .slice p n c, .slice p' m c'] 27)).drew = W0 at HX0 hHeld ⊢
      refine wpAnyH_take (i := 0) (v := ?_) rfl (by kernel_rfl) (by kernel_rfl) (by kernel_rfl) (fun _ _ _ h => h) (Or.inl ⟨by rfl, fun w hSw => ?_⟩) (by assumption) ?_
      rotate_left
      · (try dsimp only at hSw); go_simp; (try with_reducible rfl)
      try simp only [List.getElem_toArray, List.getElem_cons_succ, List.getElem_cons_zero, Act.put, List.setIfInBounds_toArray, List.set_cons_zero, List.set_cons_succ]
      refine wpAnyH_take (i := 1) (v := ?_) rfl (by kernel_rfl) (by kernel_rfl) (by kernel_rfl) (fun _ _ _ h => h) (Or.inl ⟨by rfl, fun w hSw => ?_⟩) (by assumption) ?_
      rotate_left
      · (try dsimp only at hSw); go_simp; (try with_reducible rfl)
      try simp only [List.getElem_toArray, List.getElem_cons_succ, List.getElem_cons_zero, Act.put, List.setIfInBounds_toArray, List.set_cons_zero, List.set_cons_succ]
      refine wpAnyH_take (i := 2) (v := ?_) rfl (by kernel_rfl) (by kernel_rfl) (by kernel_rfl) (fun _ _ _ h => h) (Or.inl ⟨by rfl, fun w hSw => ?_⟩) (by assumption) ?_
      rotate_left
      · (try dsimp only at hSw); go_simp; (try with_reducible rfl)
      try simp only [List.getElem_toArray, List.getElem_cons_succ, List.getElem_cons_zero, Act.put, List.setIfInBounds_toArray, List.set_cons_zero, List.set_cons_succ]
      refine wpAnyH_take (i := 3) (v := ?_) rfl (by kernel_rfl) (by kernel_rfl) (by kernel_rfl) (fun _ _ _ h => h) (Or.inl ⟨by rfl, fun w hSw => ?_⟩) (by assumption) ?_
      rotate_left
      · (try dsimp only at hSw); go_simp; (try with_reducible rfl)
      try simp only [List.getElem_toArray, List.getElem_cons_succ, List.getElem_cons_zero, Act.put, List.setIfInBounds_toArray, List.set_cons_zero, List.set_cons_succ]
      refine wpAnyH_take (i := 5) (v := ?_) rfl (by kernel_rfl) (by kernel_rfl) (by kernel_rfl) (fun _ _ _ h => h) (Or.inl ⟨by rfl, fun w hSw => ?_⟩) (by assumption) ?_
      rotate_left
      · (try dsimp only at hSw); go_simp; (try with_reducible rfl)
      try simp only [List.getElem_toArray, List.getElem_cons_succ, List.getElem_cons_zero, Act.put, List.setIfInBounds_toArray, List.set_cons_zero, List.set_cons_succ]
      refine wpAnyH_take (i := 6) (v := ?_) rfl (by kernel_rfl) (by kernel_rfl) (by kernel_rfl) (fun _ _ _ h => h) (Or.inl ⟨by rfl, fun w hSw => ?_⟩) (by assumption) ?_
      rotate_left
      · (try dsimp only at hSw); go_simp; (try with_reducible rfl)
      try simp only [List.getElem_toArray, List.getElem_cons_succ, List.getElem_cons_zero, Act.put, List.setIfInBounds_toArray, List.set_cons_zero, List.set_cons_succ]
      refine wpAnyH_take (i := 9) (v := ?_) rfl (by kernel_rfl) (by kernel_rfl) (by kernel_rfl) (fun _ _ _ h => h) (Or.inl ⟨by rfl, fun w hSw => ?_⟩) (by assumption) ?_
      rotate_left
      · (try dsimp only at hSw); go_simp; (try with_reducible rfl)
      try simp only [List.getElem_toArray, List.getElem_cons_succ, List.getElem_cons_zero, Act.put, List.setIfInBounds_toArray, List.set_cons_zero, List.set_cons_succ]
      refine wpAnyH_take (i := 10) (v := ?_) rfl (by kernel_rfl) (by kernel_rfl) (by kernel_rfl) (fun _ _ _ h => h) (Or.inl ⟨by rfl, fun w hSw => ?_⟩) (by assumption) ?_
      rotate_left
      · (try dsimp only at hSw); go_simp; (try with_reducible rfl)
      try simp only [List.getElem_toArray, List.getElem_cons_succ, List.getElem_cons_zero, Act.put, List.setIfInBounds_toArray, List.set_cons_zero, List.set_cons_succ]
      refine wpAnyH_ready (rs := [4, 8, 13]) (by kernel_rfl) (by simp) ?_
      refine AllReadyH.cons rfl (fun K hK => ?_) ?_
      · go_simp
        have HW1 := Lib.hid (Cmd.below_one W0 (.cells #[] 23))
        have HX1 := Lib.hid (HX0.out.on HW1.out)
        refine hK.out _ _ ?_ (fun hHeld => ?_)
        · exact HX1.out.five
        clear hK K
        generalize W0.alloc (.cells #[] 23) = W1 at HW1 HX1 hHeld ⊢
        try simp only [List.getElem_toArray, List.getElem_cons_succ, List.getElem_cons_zero, Act.put, List.setIfInBounds_toArray, List.set_cons_zero, List.set_cons_succ]
        refine wpAnyH_ready (rs := [7, 8, 13]) (by kernel_rfl) (by simp) ?_
        refine AllReadyH.cons rfl (fun K hK => ?_) ?_
        · refine stepI (by rfl) (.tmp 22) (.tmp 24) (by rfl) _ (by rfl) _ _ _ (by rfl) ds HN.out (HRI.out _ HX1.out.below) hl ?_
          intro gd kd W2 hf HW2
          have HX2 := Lib.hid (HX1.out.on HW2.out)
          have FD2 := hf
          have FD0 := hf
          clear hf
          refine hK.out _ _ ?_ (fun hHeld => ?_)
          · exact HX2.out.five
          clear hK K
          try simp only [List.getElem_toArray, List.getElem_cons_succ, List.getElem_cons_zero, Act.put, List.setIfInBounds_toArray, List.set_cons_zero, List.set_cons_succ]
          refine wpAnyH_ready (rs := [8, 13]) (by kernel_rfl) (by simp) ?_
          refine AllReadyH.cons rfl (fun K hK => ?_) ?_
          · go_simp
            have HW3 := Lib.hid (Cmd.below_one W2 (.cells #[] 36))
            have HX3 := Lib.hid (HX2.out.on HW3.out)
            have FD3 := Lib.hid (FD2.out.on HW3.out)
            refine hK.out _ _ ?_ (fun hHeld => ?_)
            · exact HX3.out.five
            clear hK K
            generalize W2.alloc (.cells #[] 36) = W3 at HW3 HX3 FD3 hHeld ⊢
            try simp only [List.getElem_toArray, List.getElem_cons_succ, List.getElem_cons_zero, Act.put, List.setIfInBounds_toArray, List.set_cons_zero, List.set_cons_succ]
            refine wpAnyH_ready (rs := [11, 13]) (by kernel_rfl) (by simp) ?_
            refine AllReadyH.cons rfl (fun K hK => ?_) ?_
            · refine stepC (by rfl) (.tmp 26) (.tmp 28) (by rfl) _ (by rfl) _ _ _ (by rfl) cs HM.out (HRC.out _ HX3.out.below) hl' ?_
              intro gb kb W4 hf HW4
              have HX4 := Lib.hid (HX3.out.on HW4.out)
              have FD4 := Lib.hid (FD3.out.on HW4.out)
              have FB4 := hf
              have FB0 := hf
              clear hf
              refine hK.out _ _ ?_ (fun hHeld => ?_)
              · exact HX4.out.five
              clear hK K
              try simp only [List.getElem_toArray, List.getElem_cons_succ, List.getElem_cons_zero, Act.put, List.setIfInBounds_toArray, List.set_cons_zero, List.set_cons_succ]
              refine wpAnyH_take (i := 12) (v := ?_) rfl (by kernel_rfl) (by kernel_rfl) (by kernel_rfl) (fun _ _ _ h => h) (Or.inl ⟨by rfl, fun w hSw => ?_⟩) (by assumption) ?_
              rotate_left
              · (try dsimp only at hSw); go_simp; (try with_reducible rfl)
              try simp only [List.getElem_toArray, List.getElem_cons_succ, List.getElem_cons_zero, Act.put, List.setIfInBounds_toArray, List.set_cons_zero, List.set_cons_succ]
              refine wpAnyH_ready (rs := [13]) (by kernel_rfl) (by simp) ?_
              refine AllReadyH.cons rfl (fun K hK => ?_) ?_
              · go_simp
                have HW5 := Lib.hid (Cmd.below_one W4 (.cells #[.int .i64 0, .int .i64 0, .int .i64 0, .slice none 0 0, .slice none 0 0] 27))
                have HX5 := Lib.hid (HX4.out.on HW5.out)
                have FD5 := Lib.hid (FD4.out.on HW5.out)
                have FB5 := Lib.hid (FB4.out.on HW5.out)
                have HZ5 : Hid ((W4.alloc (.cells #[.int .i64 0, .int .i64 0, .int .i64 0, .slice none 0 0, .slice none 0 0] 27)).heap[W4.heap.size]? = some zeroR) := Lib.hid (heap_alloc_new W4 _)
                have HI5 : Hid (W4.heap.size < (W4.alloc (.cells #[.int .i64 0, .int .i64 0, .int .i64 0, .slice none 0 0, .slice none 0 0] 27)).heap.size) := Lib.hid (by simp)
                refine hK.out _ _ ?_ (fun hHeld => ?_)
                · exact HX5.out.five
                clear hK K
                generalize W4.alloc (.cells #[.int .i64 0, .int .i64 0, .int .i64 0, .slice none 0 0, .slice none 0 0] 27) = W5 at HW5 HX5 FD5 FB5 HZ5 HI5 hHeld ⊢
                try simp only [List.getElem_toArray, List.getElem_cons_succ, List.getElem_cons_zero, Act.put, List.setIfInBounds_toArray, List.set_cons_zero, List.set_cons_succ]
                refine wpAnyH_ready (rs := [14]) (by kernel_rfl) (by simp) ?_
                refine AllReadyH.cons rfl (fun K hK => ?_) ?_
                · have r0 := cell_row (i := 0) HZ5.out rfl
                  have r1 := cell_row (i := 1) HZ5.out rfl
                  have r2 := cell_row (i := 2) HZ5.out rfl
                  have r3 := cell_row (i := 3) HZ5.out rfl
                  have r4 := cell_row (i := 4) HZ5.out rfl
                  have e0 := free_row (i := 0) HZ5.out
                  have e1 := free_row (i := 1) HZ5.out
                  have e2 := free_row (i := 2) HZ5.out
                  have e3 := free_row (i := 3) HZ5.out
                  have e4 := free_row (i := 4) HZ5.out
                  go_simp
                  have S0 := HX0.out.lt
                  have S1 := HW1.out.size
                  have S2 := HW2.out.size
                  have S3 := HW3.out.size
                  have S4 := HW4.out.size
                  have S5 := HW5.out.size
                  have SZ := HI5.out
                  refine hK.out _ _ ?_ (fun hHeld => ?_)
                  · exact five_put HX5.out.five (by omega) _ _ _ _ _
                  clear hK K
                  try simp only [List.getElem_toArray, List.getElem_cons_succ, List.getElem_cons_zero, Act.put, List.setIfInBounds_toArray, List.set_cons_zero, List.set_cons_succ]
                  refine wpAnyH_done (by kernel_rfl) ?_ _
                  go_wp2_with fail
                  go_meet
                  have D := OwnAt.of (ds := ds) (cs := cs) HX5.out HZ5.out (by omega) (by rw [← HN.out]; exact FD5.out.from (by omega)) (by rw [← HM.out]; exact FB5.out.from (by omega)) (by rw [← HN.out]; exact FD0.out.under (by omega)) (by rw [← HM.out]; exact FB0.out.under (by omega)) (by rw [← HN.out, ← HM.out]; exact FD0.out.apart FB0.out (by omega))
                  rw [← HN.out, ← HM.out] at D
                  exact ⟨_, _, _, _, _, rfl, Lib.hid D⟩
                exact AllReadyH.nil
              exact AllReadyH.nil
            refine AllReadyH.cons rfl (fun K hK => ?_) ?_
            · go_simp
              have HW4 := Lib.hid (Cmd.below_one W3 (.cells #[.int .i64 0, .int .i64 0, .int .i64 0, .slice none 0 0, .slice none 0 0] 27))
              have HX4 := Lib.hid (HX3.out.on HW4.out)
              have FD4 := Lib.hid (FD3.out.on HW4.out)
              have HZ4 : Hid ((W3.alloc (.cells #[.int .i64 0, .int .i64 0, .int .i64 0, .slice none 0 0, .slice none 0 0] 27)).heap[W3.heap.size]? = some zeroR) := Lib.hid (heap_alloc_new W3 _)
              have HI4 : Hid (W3.heap.size < (W3.alloc (.cells #[.int .i64 0, .int .i64 0, .int .i64 0, .slice none 0 0, .slice none 0 0] 27)).heap.size) := Lib.hid (by simp)
              refine hK.out _ _ ?_ (fun hHeld => ?_)
              · exact HX4.out.five
              clear hK K
              generalize W3.alloc (.cells #[.int .i64 0, .int .i64 0, .int .i64 0, .slice none 0 0, .slice none 0 0] 27) = W4 at HW4 HX4 FD4 HZ4 HI4 hHeld ⊢
              try simp only [List.getElem_toArray, List.getElem_cons_succ, List.getElem_cons_zero, Act.put, List.setIfInBounds_toArray, List.set_cons_zero, List.set_cons_succ]
              refine wpAnyH_ready (rs := [11]) (by kernel_rfl) (by simp) ?_
              refine AllReadyH.cons rfl (fun K hK => ?_) ?_
              · refine stepC (by rfl) (.tmp 26) (.tmp 28) (by rfl) _ (by rfl) _ _ _ (by rfl) cs HM.out (HRC.out _ HX4.out.below) hl' ?_
                intro gb kb W5 hf HW5
                have HX5 := Lib.hid (HX4.out.on HW5.out)
                have FD5 := Lib.hid (FD4.out.on HW5.out)
                have HZ5 := Lib.hid ((HW5.out.block _ (Array.getElem?_eq_some_iff.1 HZ4.out).1).trans HZ4.out)
                have FB5 := hf
                have FB0 := hf
                clear hf
                refine hK.out _ _ ?_ (fun hHeld => ?_)
                · exact HX5.out.five
                clear hK K
                try simp only [List.getElem_toArray, List.getElem_cons_succ, List.getElem_cons_zero, Act.put, List.setIfInBounds_toArray, List.set_cons_zero, List.set_cons_succ]
                refine wpAnyH_take (i := 12) (v := ?_) rfl (by kernel_rfl) (by kernel_rfl) (by kernel_rfl) (fun _ _ _ h => h) (Or.inl ⟨by rfl, fun w hSw => ?_⟩) (by assumption) ?_
                rotate_left
                · (try dsimp only at hSw); go_simp; (try with_reducible rfl)
                try simp only [List.getElem_toArray, List.getElem_cons_succ, List.getElem_cons_zero, Act.put, List.setIfInBounds_toArray, List.set_cons_zero, List.set_cons_succ]
                refine wpAnyH_ready (rs := [14]) (by kernel_rfl) (by simp) ?_
                refine AllReadyH.cons rfl (fun K hK => ?_) ?_
                · have r0 := cell_row (i := 0) HZ5.out rfl
                  have r1 := cell_row (i := 1) HZ5.out rfl
                  have r2 := cell_row (i := 2) HZ5.out rfl
                  have r3 := cell_row (i := 3) HZ5.out rfl
                  have r4 := cell_row (i := 4) HZ5.out rfl
                  have e0 := free_row (i := 0) HZ5.out
                  have e1 := free_row (i := 1) HZ5.out
                  have e2 := free_row (i := 2) HZ5.out
                  have e3 := free_row (i := 3) HZ5.out
                  have e4 := free_row (i := 4) HZ5.out
                  go_simp
                  have S0 := HX0.out.lt
                  have S1 := HW1.out.size
                  have S2 := HW2.out.size
                  have S3 := HW3.out.size
                  have S4 := HW4.out.size
                  have S5 := HW5.out.size
                  have SZ := HI4.out
                  refine hK.out _ _ ?_ (fun hHeld => ?_)
                  · exact five_put HX5.out.five (by omega) _ _ _ _ _
                  clear hK K
                  try simp only [List.getElem_toArray, List.getElem_cons_succ, List.getElem_cons_zero, Act.put, List.setIfInBounds_toArray, List.set_cons_zero, List.set_cons_succ]
                  refine wpAnyH_done (by kernel_rfl) ?_ _
                  go_wp2_with fail
                  go_meet
                  have D := OwnAt.of (ds := ds) (cs := cs) HX5.out HZ5.out (by omega) (by rw [← HN.out]; exact FD5.out.from (by omega)) (by rw [← HM.out]; exact FB5.out.from (by omega)) (by rw [← HN.out]; exact FD0.out.under (by omega)) (by rw [← HM.out]; exact FB0.out.over (by omega)) (by rw [← HN.out, ← HM.out]; exact FD0.out.apart FB0.out (by omega))
                  rw [← HN.out, ← HM.out] at D
                  exact ⟨_, _, _, _, _, rfl, Lib.hid D⟩
                exact AllReadyH.nil
              exact AllReadyH.nil
            exact AllReadyH.nil
          refine AllReadyH.cons rfl (fun K hK => ?_) ?_
          · go_simp
            have HW3 := Lib.hid (Cmd.below_one W2 (.cells #[.int .i64 0, .int .i64 0, .int .i64 0, .slice none 0 0, .slice none 0 0] 27))
            have HX3 := Lib.hid (HX2.out.on HW3.out)
            have FD3 := Lib.hid (FD2.out.on HW3.out)
            have HZ3 : Hid ((W2.alloc (.cells #[.int .i64 0, .int .i64 0, .int .i64 0, .slice none 0 0, .slice none 0 0] 27)).heap[W2.heap.size]? = some zeroR) := Lib.hid (heap_alloc_new W2 _)
            have HI3 : Hid (W2.heap.size < (W2.alloc (.cells #[.int .i64 0, .int .i64 0, .int .i64 0, .slice none 0 0, .slice none 0 0] 27)).heap.size) := Lib.hid (by simp)
            refine hK.out _ _ ?_ (fun hHeld => ?_)
            · exact HX3.out.five
            clear hK K
            generalize W2.alloc (.cells #[.int .i64 0, .int .i64 0, .int .i64 0, .slice none 0 0, .slice none 0 0] 27) = W3 at HW3 HX3 FD3 HZ3 HI3 hHeld ⊢
            try simp only [List.getElem_toArray, List.getElem_cons_succ, List.getElem_cons_zero, Act.put, List.setIfInBounds_toArray, List.set_cons_zero, List.set_cons_succ]
            refine wpAnyH_ready (rs := [8]) (by kernel_rfl) (by simp) ?_
            refine AllReadyH.cons rfl (fun K hK => ?_) ?_
            · go_simp
              have HW4 := Lib.hid (Cmd.below_one W3 (.cells #[] 36))
              have HX4 := Lib.hid (HX3.out.on HW4.out)
              have FD4 := Lib.hid (FD3.out.on HW4.out)
              have HZ4 := Lib.hid ((HW4.out.block _ (Array.getElem?_eq_some_iff.1 HZ3.out).1).trans HZ3.out)
              refine hK.out _ _ ?_ (fun hHeld => ?_)
              · exact HX4.out.five
              clear hK K
              generalize W3.alloc (.cells #[] 36) = W4 at HW4 HX4 FD4 HZ4 hHeld ⊢
              try simp only [List.getElem_toArray, List.getElem_cons_succ, List.getElem_cons_zero, Act.put, List.setIfInBounds_toArray, List.set_cons_zero, List.set_cons_succ]
              refine wpAnyH_ready (rs := [11]) (by kernel_rfl) (by simp) ?_
              refine AllReadyH.cons rfl (fun K hK => ?_) ?_
              · refine stepC (by rfl) (.tmp 26) (.tmp 28) (by rfl) _ (by rfl) _ _ _ (by rfl) cs HM.out (HRC.out _ HX4.out.below) hl' ?_
                intro gb kb W5 hf HW5
                have HX5 := Lib.hid (HX4.out.on HW5.out)
                have FD5 := Lib.hid (FD4.out.on HW5.out)
                have HZ5 := Lib.hid ((HW5.out.block _ (Array.getElem?_eq_some_iff.1 HZ4.out).1).trans HZ4.out)
                have FB5 := hf
                have FB0 := hf
                clear hf
                refine hK.out _ _ ?_ (fun hHeld => ?_)
                · exact HX5.out.five
                clear hK K
                try simp only [List.getElem_toArray, List.getElem_cons_succ, List.getElem_cons_zero, Act.put, List.setIfInBounds_toArray, List.set_cons_zero, List.set_cons_succ]
                refine wpAnyH_take (i := 12) (v := ?_) rfl (by kernel_rfl) (by kernel_rfl) (by kernel_rfl) (fun _ _ _ h => h) (Or.inl ⟨by rfl, fun w hSw => ?_⟩) (by assumption) ?_
                rotate_left
                · (try dsimp only at hSw); go_simp; (try with_reducible rfl)
                try simp only [List.getElem_toArray, List.getElem_cons_succ, List.getElem_cons_zero, Act.put, List.setIfInBounds_toArray, List.set_cons_zero, List.set_cons_succ]
                refine wpAnyH_ready (rs := [14]) (by kernel_rfl) (by simp) ?_
                refine AllReadyH.cons rfl (fun K hK => ?_) ?_
                · have r0 := cell_row (i := 0) HZ5.out rfl
                  have r1 := cell_row (i := 1) HZ5.out rfl
                  have r2 := cell_row (i := 2) HZ5.out rfl
                  have r3 := cell_row (i := 3) HZ5.out rfl
                  have r4 := cell_row (i := 4) HZ5.out rfl
                  have e0 := free_row (i := 0) HZ5.out
                  have e1 := free_row (i := 1) HZ5.out
                  have e2 := free_row (i := 2) HZ5.out
                  have e3 := free_row (i := 3) HZ5.out
                  have e4 := free_row (i := 4) HZ5.out
                  go_simp
                  have S0 := HX0.out.lt
                  have S1 := HW1.out.size
                  have S2 := HW2.out.size
                  have S3 := HW3.out.size
                  have S4 := HW4.out.size
                  have S5 := HW5.out.size
                  have SZ := HI3.out
                  refine hK.out _ _ ?_ (fun hHeld => ?_)
                  · exact five_put HX5.out.five (by omega) _ _ _ _ _
                  clear hK K
                  try simp only [List.getElem_toArray, List.getElem_cons_succ, List.getElem_cons_zero, Act.put, List.setIfInBounds_toArray, List.set_cons_zero, List.set_cons_succ]
                  refine wpAnyH_done (by kernel_rfl) ?_ _
                  go_wp2_with fail
                  go_meet
                  have D := OwnAt.of (ds := ds) (cs := cs) HX5.out HZ5.out (by omega) (by rw [← HN.out]; exact FD5.out.from (by omega)) (by rw [← HM.out]; exact FB5.out.from (by omega)) (by rw [← HN.out]; exact FD0.out.under (by omega)) (by rw [← HM.out]; exact FB0.out.over (by omega)) (by rw [← HN.out, ← HM.out]; exact FD0.out.apart FB0.out (by omega))
                  rw [← HN.out, ← HM.out] at D
                  exact ⟨_, _, _, _, _, rfl, Lib.hid D⟩
                exact AllReadyH.nil
              exact AllReadyH.nil
            exact AllReadyH.nil
          exact AllReadyH.nil
        refine AllReadyH.cons rfl (fun K hK => ?_) ?_
        · go_simp
          have HW2 := Lib.hid (Cmd.below_one W1 (.cells #[] 36))
          have HX2 := Lib.hid (HX1.out.on HW2.out)
          refine hK.out _ _ ?_ (fun hHeld => ?_)
          · exact HX2.out.five
          clear hK K
          generalize W1.alloc (.cells #[] 36) = W2 at HW2 HX2 hHeld ⊢
          try simp only [List.getElem_toArray, List.getElem_cons_succ, List.getElem_cons_zero, Act.put, List.setIfInBounds_toArray, List.set_cons_zero, List.set_cons_succ]
          refine wpAnyH_ready (rs := [7, 13]) (by kernel_rfl) (by simp) ?_
          refine AllReadyH.cons rfl (fun K hK => ?_) ?_
          · refine stepI (by rfl) (.tmp 22) (.tmp 24) (by rfl) _ (by rfl) _ _ _ (by rfl) ds HN.out (HRI.out _ HX2.out.below) hl ?_
            intro gd kd W3 hf HW3
            have HX3 := Lib.hid (HX2.out.on HW3.out)
            have FD3 := hf
            have FD0 := hf
            clear hf
            refine hK.out _ _ ?_ (fun hHeld => ?_)
            · exact HX3.out.five
            clear hK K
            try simp only [List.getElem_toArray, List.getElem_cons_succ, List.getElem_cons_zero, Act.put, List.setIfInBounds_toArray, List.set_cons_zero, List.set_cons_succ]
            refine wpAnyH_ready (rs := [11, 13]) (by kernel_rfl) (by simp) ?_
            refine AllReadyH.cons rfl (fun K hK => ?_) ?_
            · refine stepC (by rfl) (.tmp 26) (.tmp 28) (by rfl) _ (by rfl) _ _ _ (by rfl) cs HM.out (HRC.out _ HX3.out.below) hl' ?_
              intro gb kb W4 hf HW4
              have HX4 := Lib.hid (HX3.out.on HW4.out)
              have FD4 := Lib.hid (FD3.out.on HW4.out)
              have FB4 := hf
              have FB0 := hf
              clear hf
              refine hK.out _ _ ?_ (fun hHeld => ?_)
              · exact HX4.out.five
              clear hK K
              try simp only [List.getElem_toArray, List.getElem_cons_succ, List.getElem_cons_zero, Act.put, List.setIfInBounds_toArray, List.set_cons_zero, List.set_cons_succ]
              refine wpAnyH_take (i := 12) (v := ?_) rfl (by kernel_rfl) (by kernel_rfl) (by kernel_rfl) (fun _ _ _ h => h) (Or.inl ⟨by rfl, fun w hSw => ?_⟩) (by assumption) ?_
              rotate_left
              · (try dsimp only at hSw); go_simp; (try with_reducible rfl)
              try simp only [List.getElem_toArray, List.getElem_cons_succ, List.getElem_cons_zero, Act.put, List.setIfInBounds_toArray, List.set_cons_zero, List.set_cons_succ]
              refine wpAnyH_ready (rs := [13]) (by kernel_rfl) (by simp) ?_
              refine AllReadyH.cons rfl (fun K hK => ?_) ?_
              · go_simp
                have HW5 := Lib.hid (Cmd.below_one W4 (.cells #[.int .i64 0, .int .i64 0, .int .i64 0, .slice none 0 0, .slice none 0 0] 27))
                have HX5 := Lib.hid (HX4.out.on HW5.out)
                have FD5 := Lib.hid (FD4.out.on HW5.out)
                have FB5 := Lib.hid (FB4.out.on HW5.out)
                have HZ5 : Hid ((W4.alloc (.cells #[.int .i64 0, .int .i64 0, .int .i64 0, .slice none 0 0, .slice none 0 0] 27)).heap[W4.heap.size]? = some zeroR) := Lib.hid (heap_alloc_new W4 _)
                have HI5 : Hid (W4.heap.size < (W4.alloc (.cells #[.int .i64 0, .int .i64 0, .int .i64 0, .slice none 0 0, .slice none 0 0] 27)).heap.size) := Lib.hid (by simp)
                refine hK.out _ _ ?_ (fun hHeld => ?_)
                · exact HX5.out.five
                clear hK K
                generalize W4.alloc (.cells #[.int .i64 0, .int .i64 0, .int .i64 0, .slice none 0 0, .slice none 0 0] 27) = W5 at HW5 HX5 FD5 FB5 HZ5 HI5 hHeld ⊢
                try simp only [List.getElem_toArray, List.getElem_cons_succ, List.getElem_cons_zero, Act.put, List.setIfInBounds_toArray, List.set_cons_zero, List.set_cons_succ]
                refine wpAnyH_ready (rs := [14]) (by kernel_rfl) (by simp) ?_
                refine AllReadyH.cons rfl (fun K hK => ?_) ?_
                · have r0 := cell_row (i := 0) HZ5.out rfl
                  have r1 := cell_row (i := 1) HZ5.out rfl
                  have r2 := cell_row (i := 2) HZ5.out rfl
                  have r3 := cell_row (i := 3) HZ5.out rfl
                  have r4 := cell_row (i := 4) HZ5.out rfl
                  have e0 := free_row (i := 0) HZ5.out
                  have e1 := free_row (i := 1) HZ5.out
                  have e2 := free_row (i := 2) HZ5.out
                  have e3 := free_row (i := 3) HZ5.out
                  have e4 := free_row (i := 4) HZ5.out
                  go_simp
                  have S0 := HX0.out.lt
                  have S1 := HW1.out.size
                  have S2 := HW2.out.size
                  have S3 := HW3.out.size
                  have S4 := HW4.out.size
                  have S5 := HW5.out.size
                  have SZ := HI5.out
                  refine hK.out _ _ ?_ (fun hHeld => ?_)
                  · exact five_put HX5.out.five (by omega) _ _ _ _ _
                  clear hK K
                  try simp only [List.getElem_toArray, List.getElem_cons_succ, List.getElem_cons_zero, Act.put, List.setIfInBounds_toArray, List.set_cons_zero, List.set_cons_succ]
                  refine wpAnyH_done (by kernel_rfl) ?_ _
                  go_wp2_with fail
                  go_meet
                  have D := OwnAt.of (ds := ds) (cs := cs) HX5.out HZ5.out (by omega) (by rw [← HN.out]; exact FD5.out.from (by omega)) (by rw [← HM.out]; exact FB5.out.from (by omega)) (by rw [← HN.out]; exact FD0.out.under (by omega)) (by rw [← HM.out]; exact FB0.out.under (by omega)) (by rw [← HN.out, ← HM.out]; exact FD0.out.apart FB0.out (by omega))
                  rw [← HN.out, ← HM.out] at D
                  exact ⟨_, _, _, _, _, rfl, Lib.hid D⟩
                exact AllReadyH.nil
              exact AllReadyH.nil
            refine AllReadyH.cons rfl (fun K hK => ?_) ?_
            · go_simp
              have HW4 := Lib.hid (Cmd.below_one W3 (.cells #[.int .i64 0, .int .i64 0, .int .i64 0, .slice none 0 0, .slice none 0 0] 27))
              have HX4 := Lib.hid (HX3.out.on HW4.out)
              have FD4 := Lib.hid (FD3.out.on HW4.out)
              have HZ4 : Hid ((W3.alloc (.cells #[.int .i64 0, .int .i64 0, .int .i64 0, .slice none 0 0, .slice none 0 0] 27)).heap[W3.heap.size]? = some zeroR) := Lib.hid (heap_alloc_new W3 _)
              have HI4 : Hid (W3.heap.size < (W3.alloc (.cells #[.int .i64 0, .int .i64 0, .int .i64 0, .slice none 0 0, .slice none 0 0] 27)).heap.size) := Lib.hid (by simp)
              refine hK.out _ _ ?_ (fun hHeld => ?_)
              · exact HX4.out.five
              clear hK K
              generalize W3.alloc (.cells #[.int .i64 0, .int .i64 0, .int .i64 0, .slice none 0 0, .slice none 0 0] 27) = W4 at HW4 HX4 FD4 HZ4 HI4 hHeld ⊢
              try simp only [List.getElem_toArray, List.getElem_cons_succ, List.getElem_cons_zero, Act.put, List.setIfInBounds_toArray, List.set_cons_zero, List.set_cons_succ]
              refine wpAnyH_ready (rs := [11]) (by kernel_rfl) (by simp) ?_
              refine AllReadyH.cons rfl (fun K hK => ?_) ?_
              · refine stepC (by rfl) (.tmp 26) (.tmp 28) (by rfl) _ (by rfl) _ _ _ (by rfl) cs HM.out (HRC.out _ HX4.out.below) hl' ?_
                intro gb kb W5 hf HW5
                have HX5 := Lib.hid (HX4.out.on HW5.out)
                have FD5 := Lib.hid (FD4.out.on HW5.out)
                have HZ5 := Lib.hid ((HW5.out.block _ (Array.getElem?_eq_some_iff.1 HZ4.out).1).trans HZ4.out)
                have FB5 := hf
                have FB0 := hf
                clear hf
                refine hK.out _ _ ?_ (fun hHeld => ?_)
                · exact HX5.out.five
                clear hK K
                try simp only [List.getElem_toArray, List.getElem_cons_succ, List.getElem_cons_zero, Act.put, List.setIfInBounds_toArray, List.set_cons_zero, List.set_cons_succ]
                refine wpAnyH_take (i := 12) (v := ?_) rfl (by kernel_rfl) (by kernel_rfl) (by kernel_rfl) (fun _ _ _ h => h) (Or.inl ⟨by rfl, fun w hSw => ?_⟩) (by assumption) ?_
                rotate_left
                · (try dsimp only at hSw); go_simp; (try with_reducible rfl)
                try simp only [List.getElem_toArray, List.getElem_cons_succ, List.getElem_cons_zero, Act.put, List.setIfInBounds_toArray, List.set_cons_zero, List.set_cons_succ]
                refine wpAnyH_ready (rs := [14]) (by kernel_rfl) (by simp) ?_
                refine AllReadyH.cons rfl (fun K hK => ?_) ?_
                · have r0 := cell_row (i := 0) HZ5.out rfl
                  have r1 := cell_row (i := 1) HZ5.out rfl
                  have r2 := cell_row (i := 2) HZ5.out rfl
                  have r3 := cell_row (i := 3) HZ5.out rfl
                  have r4 := cell_row (i := 4) HZ5.out rfl
                  have e0 := free_row (i := 0) HZ5.out
                  have e1 := free_row (i := 1) HZ5.out
                  have e2 := free_row (i := 2) HZ5.out
                  have e3 := free_row (i := 3) HZ5.out
                  have e4 := free_row (i := 4) HZ5.out
                  go_simp
                  have S0 := HX0.out.lt
                  have S1 := HW1.out.size
                  have S2 := HW2.out.size
                  have S3 := HW3.out.size
                  have S4 := HW4.out.size
                  have S5 := HW5.out.size
                  have SZ := HI4.out
                  refine hK.out _ _ ?_ (fun hHeld => ?_)
                  · exact five_put HX5.out.five (by omega) _ _ _ _ _
                  clear hK K
                  try simp only [List.getElem_toArray, List.getElem_cons_succ, List.getElem_cons_zero, Act.put, List.setIfInBounds_toArray, List.set_cons_zero, List.set_cons_succ]
                  refine wpAnyH_done (by kernel_rfl) ?_ _
                  go_wp2_with fail
                  go_meet
                  have D := OwnAt.of (ds := ds) (cs := cs) HX5.out HZ5.out (by omega) (by rw [← HN.out]; exact FD5.out.from (by omega)) (by rw [← HM.out]; exact FB5.out.from (by omega)) (by rw [← HN.out]; exact FD0.out.under (by omega)) (by rw [← HM.out]; exact FB0.out.over (by omega)) (by rw [← HN.out, ← HM.out]; exact FD0.out.apart FB0.out (by omega))
                  rw [← HN.out, ← HM.out] at D
                  exact ⟨_, _, _, _, _, rfl, Lib.hid D⟩
                exact AllReadyH.nil
              exact AllReadyH.nil
            exact AllReadyH.nil
          refine AllReadyH.cons rfl (fun K hK => ?_) ?_
          · go_simp
            have HW3 := Lib.hid (Cmd.below_one W2 (.cells #[.int .i64 0, .int .i64 0, .int .i64 0, .slice none 0 0, .slice none 0 0] 27))
            have HX3 := Lib.hid (HX2.out.on HW3.out)
            have HZ3 : Hid ((W2.alloc (.cells #[.int .i64 0, .int .i64 0, .int .i64 0, .slice none 0 0, .slice none 0 0] 27)).heap[W2.heap.size]? = some zeroR) := Lib.hid (heap_alloc_new W2 _)
            have HI3 : Hid (W2.heap.size < (W2.alloc (.cells #[.int .i64 0, .int .i64 0, .int .i64 0, .slice none 0 0, .slice none 0 0] 27)).heap.size) := Lib.hid (by simp)
            refine hK.out _ _ ?_ (fun hHeld => ?_)
            · exact HX3.out.five
            clear hK K
            generalize W2.alloc (.cells #[.int .i64 0, .int .i64 0, .int .i64 0, .slice none 0 0, .slice none 0 0] 27) = W3 at HW3 HX3 HZ3 HI3 hHeld ⊢
            try simp only [List.getElem_toArray, List.getElem_cons_succ, List.getElem_cons_zero, Act.put, List.setIfInBounds_toArray, List.set_cons_zero, List.set_cons_succ]
            refine wpAnyH_ready (rs := [7]) (by kernel_rfl) (by simp) ?_
            refine AllReadyH.cons rfl (fun K hK => ?_) ?_
            · refine stepI (by rfl) (.tmp 22) (.tmp 24) (by rfl) _ (by rfl) _ _ _ (by rfl) ds HN.out (HRI.out _ HX3.out.below) hl ?_
              intro gd kd W4 hf HW4
              have HX4 := Lib.hid (HX3.out.on HW4.out)
              have HZ4 := Lib.hid ((HW4.out.block _ (Array.getElem?_eq_some_iff.1 HZ3.out).1).trans HZ3.out)
              have FD4 := hf
              have FD0 := hf
              clear hf
              refine hK.out _ _ ?_ (fun hHeld => ?_)
              · exact HX4.out.five
              clear hK K
              try simp only [List.getElem_toArray, List.getElem_cons_succ, List.getElem_cons_zero, Act.put, List.setIfInBounds_toArray, List.set_cons_zero, List.set_cons_succ]
              refine wpAnyH_ready (rs := [11]) (by kernel_rfl) (by simp) ?_
              refine AllReadyH.cons rfl (fun K hK => ?_) ?_
              · refine stepC (by rfl) (.tmp 26) (.tmp 28) (by rfl) _ (by rfl) _ _ _ (by rfl) cs HM.out (HRC.out _ HX4.out.below) hl' ?_
                intro gb kb W5 hf HW5
                have HX5 := Lib.hid (HX4.out.on HW5.out)
                have FD5 := Lib.hid (FD4.out.on HW5.out)
                have HZ5 := Lib.hid ((HW5.out.block _ (Array.getElem?_eq_some_iff.1 HZ4.out).1).trans HZ4.out)
                have FB5 := hf
                have FB0 := hf
                clear hf
                refine hK.out _ _ ?_ (fun hHeld => ?_)
                · exact HX5.out.five
                clear hK K
                try simp only [List.getElem_toArray, List.getElem_cons_succ, List.getElem_cons_zero, Act.put, List.setIfInBounds_toArray, List.set_cons_zero, List.set_cons_succ]
                refine wpAnyH_take (i := 12) (v := ?_) rfl (by kernel_rfl) (by kernel_rfl) (by kernel_rfl) (fun _ _ _ h => h) (Or.inl ⟨by rfl, fun w hSw => ?_⟩) (by assumption) ?_
                rotate_left
                · (try dsimp only at hSw); go_simp; (try with_reducible rfl)
                try simp only [List.getElem_toArray, List.getElem_cons_succ, List.getElem_cons_zero, Act.put, List.setIfInBounds_toArray, List.set_cons_zero, List.set_cons_succ]
                refine wpAnyH_ready (rs := [14]) (by kernel_rfl) (by simp) ?_
                refine AllReadyH.cons rfl (fun K hK => ?_) ?_
                · have r0 := cell_row (i := 0) HZ5.out rfl
                  have r1 := cell_row (i := 1) HZ5.out rfl
                  have r2 := cell_row (i := 2) HZ5.out rfl
                  have r3 := cell_row (i := 3) HZ5.out rfl
                  have r4 := cell_row (i := 4) HZ5.out rfl
                  have e0 := free_row (i := 0) HZ5.out
                  have e1 := free_row (i := 1) HZ5.out
                  have e2 := free_row (i := 2) HZ5.out
                  have e3 := free_row (i := 3) HZ5.out
                  have e4 := free_row (i := 4) HZ5.out
                  go_simp
                  have S0 := HX0.out.lt
                  have S1 := HW1.out.size
                  have S2 := HW2.out.size
                  have S3 := HW3.out.size
                  have S4 := HW4.out.size
                  have S5 := HW5.out.size
                  have SZ := HI3.out
                  refine hK.out _ _ ?_ (fun hHeld => ?_)
                  · exact five_put HX5.out.five (by omega) _ _ _ _ _
                  clear hK K
                  try simp only [List.getElem_toArray, List.getElem_cons_succ, List.getElem_cons_zero, Act.put, List.setIfInBounds_toArray, List.set_cons_zero, List.set_cons_succ]
                  refine wpAnyH_done (by kernel_rfl) ?_ _
                  go_wp2_with fail
                  go_meet
                  have D := OwnAt.of (ds := ds) (cs := cs) HX5.out HZ5.out (by omega) (by rw [← HN.out]; exact FD5.out.from (by omega)) (by rw [← HM.out]; exact FB5.out.from (by omega)) (by rw [← HN.out]; exact FD0.out.over (by omega)) (by rw [← HM.out]; exact FB0.out.over (by omega)) (by rw [← HN.out, ← HM.out]; exact FD0.out.apart FB0.out (by omega))
                  rw [← HN.out, ← HM.out] at D
                  exact ⟨_, _, _, _, _, rfl, Lib.hid D⟩
                exact AllReadyH.nil
              exact AllReadyH.nil
            exact AllReadyH.nil
          exact AllReadyH.nil
        refine AllReadyH.cons rfl (fun K hK => ?_) ?_
        · go_simp
          have HW2 := Lib.hid (Cmd.below_one W1 (.cells #[.int .i64 0, .int .i64 0, .int .i64 0, .slice none 0 0, .slice none 0 0] 27))
          have HX2 := Lib.hid (HX1.out.on HW2.out)
          have HZ2 : Hid ((W1.alloc (.cells #[.int .i64 0, .int .i64 0, .int .i64 0, .slice none 0 0, .slice none 0 0] 27)).heap[W1.heap.size]? = some zeroR) := Lib.hid (heap_alloc_new W1 _)
          have HI2 : Hid (W1.heap.size < (W1.alloc (.cells #[.int .i64 0, .int .i64 0, .int .i64 0, .slice none 0 0, .slice none 0 0] 27)).heap.size) := Lib.hid (by simp)
          refine hK.out _ _ ?_ (fun hHeld => ?_)
          · exact HX2.out.five
          clear hK K
          generalize W1.alloc (.cells #[.int .i64 0, .int .i64 0, .int .i64 0, .slice none 0 0, .slice none 0 0] 27) = W2 at HW2 HX2 HZ2 HI2 hHeld ⊢
          try simp only [List.getElem_toArray, List.getElem_cons_succ, List.getElem_cons_zero, Act.put, List.setIfInBounds_toArray, List.set_cons_zero, List.set_cons_succ]
          refine wpAnyH_ready (rs := [7, 8]) (by kernel_rfl) (by simp) ?_
          refine AllReadyH.cons rfl (fun K hK => ?_) ?_
          · refine stepI (by rfl) (.tmp 22) (.tmp 24) (by rfl) _ (by rfl) _ _ _ (by rfl) ds HN.out (HRI.out _ HX2.out.below) hl ?_
            intro gd kd W3 hf HW3
            have HX3 := Lib.hid (HX2.out.on HW3.out)
            have HZ3 := Lib.hid ((HW3.out.block _ (Array.getElem?_eq_some_iff.1 HZ2.out).1).trans HZ2.out)
            have FD3 := hf
            have FD0 := hf
            clear hf
            refine hK.out _ _ ?_ (fun hHeld => ?_)
            · exact HX3.out.five
            clear hK K
            try simp only [List.getElem_toArray, List.getElem_cons_succ, List.getElem_cons_zero, Act.put, List.setIfInBounds_toArray, List.set_cons_zero, List.set_cons_succ]
            refine wpAnyH_ready (rs := [8]) (by kernel_rfl) (by simp) ?_
            refine AllReadyH.cons rfl (fun K hK => ?_) ?_
            · go_simp
              have HW4 := Lib.hid (Cmd.below_one W3 (.cells #[] 36))
              have HX4 := Lib.hid (HX3.out.on HW4.out)
              have FD4 := Lib.hid (FD3.out.on HW4.out)
              have HZ4 := Lib.hid ((HW4.out.block _ (Array.getElem?_eq_some_iff.1 HZ3.out).1).trans HZ3.out)
              refine hK.out _ _ ?_ (fun hHeld => ?_)
              · exact HX4.out.five
              clear hK K
              generalize W3.alloc (.cells #[] 36) = W4 at HW4 HX4 FD4 HZ4 hHeld ⊢
              try simp only [List.getElem_toArray, List.getElem_cons_succ, List.getElem_cons_zero, Act.put, List.setIfInBounds_toArray, List.set_cons_zero, List.set_cons_succ]
              refine wpAnyH_ready (rs := [11]) (by kernel_rfl) (by simp) ?_
              refine AllReadyH.cons rfl (fun K hK => ?_) ?_
              · refine stepC (by rfl) (.tmp 26) (.tmp 28) (by rfl) _ (by rfl) _ _ _ (by rfl) cs HM.out (HRC.out _ HX4.out.below) hl' ?_
                intro gb kb W5 hf HW5
                have HX5 := Lib.hid (HX4.out.on HW5.out)
                have FD5 := Lib.hid (FD4.out.on HW5.out)
                have HZ5 := Lib.hid ((HW5.out.block _ (Array.getElem?_eq_some_iff.1 HZ4.out).1).trans HZ4.out)
                have FB5 := hf
                have FB0 := hf
                clear hf
                refine hK.out _ _ ?_ (fun hHeld => ?_)
                · exact HX5.out.five
                clear hK K
                try simp only [List.getElem_toArray, List.getElem_cons_succ, List.getElem_cons_zero, Act.put, List.setIfInBounds_toArray, List.set_cons_zero, List.set_cons_succ]
                refine wpAnyH_take (i := 12) (v := ?_) rfl (by kernel_rfl) (by kernel_rfl) (by kernel_rfl) (fun _ _ _ h => h) (Or.inl ⟨by rfl, fun w hSw => ?_⟩) (by assumption) ?_
                rotate_left
                · (try dsimp only at hSw); go_simp; (try with_reducible rfl)
                try simp only [List.getElem_toArray, List.getElem_cons_succ, List.getElem_cons_zero, Act.put, List.setIfInBounds_toArray, List.set_cons_zero, List.set_cons_succ]
                refine wpAnyH_ready (rs := [14]) (by kernel_rfl) (by simp) ?_
                refine AllReadyH.cons rfl (fun K hK => ?_) ?_
                · have r0 := cell_row (i := 0) HZ5.out rfl
                  have r1 := cell_row (i := 1) HZ5.out rfl
                  have r2 := cell_row (i := 2) HZ5.out rfl
                  have r3 := cell_row (i := 3) HZ5.out rfl
                  have r4 := cell_row (i := 4) HZ5.out rfl
                  have e0 := free_row (i := 0) HZ5.out
                  have e1 := free_row (i := 1) HZ5.out
                  have e2 := free_row (i := 2) HZ5.out
                  have e3 := free_row (i := 3) HZ5.out
                  have e4 := free_row (i := 4) HZ5.out
                  go_simp
                  have S0 := HX0.out.lt
                  have S1 := HW1.out.size
                  have S2 := HW2.out.size
                  have S3 := HW3.out.size
                  have S4 := HW4.out.size
                  have S5 := HW5.out.size
                  have SZ := HI2.out
                  refine hK.out _ _ ?_ (fun hHeld => ?_)
                  · exact five_put HX5.out.five (by omega) _ _ _ _ _
                  clear hK K
                  try simp only [List.getElem_toArray, List.getElem_cons_succ, List.getElem_cons_zero, Act.put, List.setIfInBounds_toArray, List.set_cons_zero, List.set_cons_succ]
                  refine wpAnyH_done (by kernel_rfl) ?_ _
                  go_wp2_with fail
                  go_meet
                  have D := OwnAt.of (ds := ds) (cs := cs) HX5.out HZ5.out (by omega) (by rw [← HN.out]; exact FD5.out.from (by omega)) (by rw [← HM.out]; exact FB5.out.from (by omega)) (by rw [← HN.out]; exact FD0.out.over (by omega)) (by rw [← HM.out]; exact FB0.out.over (by omega)) (by rw [← HN.out, ← HM.out]; exact FD0.out.apart FB0.out (by omega))
                  rw [← HN.out, ← HM.out] at D
                  exact ⟨_, _, _, _, _, rfl, Lib.hid D⟩
                exact AllReadyH.nil
              exact AllReadyH.nil
            exact AllReadyH.nil
          refine AllReadyH.cons rfl (fun K hK => ?_) ?_
          · go_simp
            have HW3 := Lib.hid (Cmd.below_one W2 (.cells #[] 36))
            have HX3 := Lib.hid (HX2.out.on HW3.out)
            have HZ3 := Lib.hid ((HW3.out.block _ (Array.getElem?_eq_some_iff.1 HZ2.out).1).trans HZ2.out)
            refine hK.out _ _ ?_ (fun hHeld => ?_)
            · exact HX3.out.five
            clear hK K
            generalize W2.alloc (.cells #[] 36) = W3 at HW3 HX3 HZ3 hHeld ⊢
            try simp only [List.getElem_toArray, List.getElem_cons_succ, List.getElem_cons_zero, Act.put, List.setIfInBounds_toArray, List.set_cons_zero, List.set_cons_succ]
            refine wpAnyH_ready (rs := [7]) (by kernel_rfl) (by simp) ?_
            refine AllReadyH.cons rfl (fun K hK => ?_) ?_
            · refine stepI (by rfl) (.tmp 22) (.tmp 24) (by rfl) _ (by rfl) _ _ _ (by rfl) ds HN.out (HRI.out _ HX3.out.below) hl ?_
              intro gd kd W4 hf HW4
              have HX4 := Lib.hid (HX3.out.on HW4.out)
              have HZ4 := Lib.hid ((HW4.out.block _ (Array.getElem?_eq_some_iff.1 HZ3.out).1).trans HZ3.out)
              have FD4 := hf
              have FD0 := hf
              clear hf
              refine hK.out _ _ ?_ (fun hHeld => ?_)
              · exact HX4.out.five
              clear hK K
              try simp only [List.getElem_toArray, List.getElem_cons_succ, List.getElem_cons_zero, Act.put, List.setIfInBounds_toArray, List.set_cons_zero, List.set_cons_succ]
              refine wpAnyH_ready (rs := [11]) (by kernel_rfl) (by simp) ?_
              refine AllReadyH.cons rfl (fun K hK => ?_) ?_
              · refine stepC (by rfl) (.tmp 26) (.tmp 28) (by rfl) _ (by rfl) _ _ _ (by rfl) cs HM.out (HRC.out _ HX4.out.below) hl' ?_
                intro gb kb W5 hf HW5
                have HX5 := Lib.hid (HX4.out.on HW5.out)
                have FD5 := Lib.hid (FD4.out.on HW5.out)
                have HZ5 := Lib.hid ((HW5.out.block _ (Array.getElem?_eq_some_iff.1 HZ4.out).1).trans HZ4.out)
                have FB5 := hf
                have FB0 := hf
                clear hf
                refine hK.out _ _ ?_ (fun hHeld => ?_)
                · exact HX5.out.five
                clear hK K
                try simp only [List.getElem_toArray, List.getElem_cons_succ, List.getElem_cons_zero, Act.put, List.setIfInBounds_toArray, List.set_cons_zero, List.set_cons_succ]
                refine wpAnyH_take (i := 12) (v := ?_) rfl (by kernel_rfl) (by kernel_rfl) (by kernel_rfl) (fun _ _ _ h => h) (Or.inl ⟨by rfl, fun w hSw => ?_⟩) (by assumption) ?_
                rotate_left
                · (try dsimp only at hSw); go_simp; (try with_reducible rfl)
                try simp only [List.getElem_toArray, List.getElem_cons_succ, List.getElem_cons_zero, Act.put, List.setIfInBounds_toArray, List.set_cons_zero, List.set_cons_succ]
                refine wpAnyH_ready (rs := [14]) (by kernel_rfl) (by simp) ?_
                refine AllReadyH.cons rfl (fun K hK => ?_) ?_
                · have r0 := cell_row (i := 0) HZ5.out rfl
                  have r1 := cell_row (i := 1) HZ5.out rfl
                  have r2 := cell_row (i := 2) HZ5.out rfl
                  have r3 := cell_row (i := 3) HZ5.out rfl
                  have r4 := cell_row (i := 4) HZ5.out rfl
                  have e0 := free_row (i := 0) HZ5.out
                  have e1 := free_row (i := 1) HZ5.out
                  have e2 := free_row (i := 2) HZ5.out
                  have e3 := free_row (i := 3) HZ5.out
                  have e4 := free_row (i := 4) HZ5.out
                  go_simp
                  have S0 := HX0.out.lt
                  have S1 := HW1.out.size
                  have S2 := HW2.out.size
                  have S3 := HW3.out.size
                  have S4 := HW4.out.size
                  have S5 := HW5.out.size
                  have SZ := HI2.out
                  refine hK.out _ _ ?_ (fun hHeld => ?_)
                  · exact five_put HX5.out.five (by omega) _ _ _ _ _
                  clear hK K
                  try simp only [List.getElem_toArray, List.getElem_cons_succ, List.getElem_cons_zero, Act.put, List.setIfInBounds_toArray, List.set_cons_zero, List.set_cons_succ]
                  refine wpAnyH_done (by kernel_rfl) ?_ _
                  go_wp2_with fail
                  go_meet
                  have D := OwnAt.of (ds := ds) (cs := cs) HX5.out HZ5.out (by omega) (by rw [← HN.out]; exact FD5.out.from (by omega)) (by rw [← HM.out]; exact FB5.out.from (by omega)) (by rw [← HN.out]; exact FD0.out.over (by omega)) (by rw [← HM.out]; exact FB0.out.over (by omega)) (by rw [← HN.out, ← HM.out]; exact FD0.out.apart FB0.out (by omega))
                  rw [← HN.out, ← HM.out] at D
                  exact ⟨_, _, _, _, _, rfl, Lib.hid D⟩
                exact AllReadyH.nil
              exact AllReadyH.nil
            exact AllReadyH.nil
          exact AllReadyH.nil
        exact AllReadyH.nil
      refine AllReadyH.cons rfl (fun K hK => ?_) ?_
      · go_simp
        have HW1 := Lib.hid (Cmd.below_one W0 (.cells #[] 36))
        have HX1 := Lib.hid (HX0.out.on HW1.out)
        refine hK.out _ _ ?_ (fun hHeld => ?_)
        · exact HX1.out.five
        clear hK K
        generalize W0.alloc (.cells #[] 36) = W1 at HW1 HX1 hHeld ⊢
        try simp only [List.getElem_toArray, List.getElem_cons_succ, List.getElem_cons_zero, Act.put, List.setIfInBounds_toArray, List.set_cons_zero, List.set_cons_succ]
        refine wpAnyH_ready (rs := [4, 13]) (by kernel_rfl) (by simp) ?_
        refine AllReadyH.cons rfl (fun K hK => ?_) ?_
        · go_simp
          have HW2 := Lib.hid (Cmd.below_one W1 (.cells #[] 23))
          have HX2 := Lib.hid (HX1.out.on HW2.out)
          refine hK.out _ _ ?_ (fun hHeld => ?_)
          · exact HX2.out.five
          clear hK K
          generalize W1.alloc (.cells #[] 23) = W2 at HW2 HX2 hHeld ⊢
          try simp only [List.getElem_toArray, List.getElem_cons_succ, List.getElem_cons_zero, Act.put, List.setIfInBounds_toArray, List.set_cons_zero, List.set_cons_succ]
          refine wpAnyH_ready (rs := [7, 13]) (by kernel_rfl) (by simp) ?_
          refine AllReadyH.cons rfl (fun K hK => ?_) ?_
          · refine stepI (by rfl) (.tmp 22) (.tmp 24) (by rfl) _ (by rfl) _ _ _ (by rfl) ds HN.out (HRI.out _ HX2.out.below) hl ?_
            intro gd kd W3 hf HW3
            have HX3 := Lib.hid (HX2.out.on HW3.out)
            have FD3 := hf
            have FD0 := hf
            clear hf
            refine hK.out _ _ ?_ (fun hHeld => ?_)
            · exact HX3.out.five
            clear hK K
            try simp only [List.getElem_toArray, List.getElem_cons_succ, List.getElem_cons_zero, Act.put, List.setIfInBounds_toArray, List.set_cons_zero, List.set_cons_succ]
            refine wpAnyH_ready (rs := [11, 13]) (by kernel_rfl) (by simp) ?_
            refine AllReadyH.cons rfl (fun K hK => ?_) ?_
            · refine stepC (by rfl) (.tmp 26) (.tmp 28) (by rfl) _ (by rfl) _ _ _ (by rfl) cs HM.out (HRC.out _ HX3.out.below) hl' ?_
              intro gb kb W4 hf HW4
              have HX4 := Lib.hid (HX3.out.on HW4.out)
              have FD4 := Lib.hid (FD3.out.on HW4.out)
              have FB4 := hf
              have FB0 := hf
              clear hf
              refine hK.out _ _ ?_ (fun hHeld => ?_)
              · exact HX4.out.five
              clear hK K
              try simp only [List.getElem_toArray, List.getElem_cons_succ, List.getElem_cons_zero, Act.put, List.setIfInBounds_toArray, List.set_cons_zero, List.set_cons_succ]
              refine wpAnyH_take (i := 12) (v := ?_) rfl (by kernel_rfl) (by kernel_rfl) (by kernel_rfl) (fun _ _ _ h => h) (Or.inl ⟨by rfl, fun w hSw => ?_⟩) (by assumption) ?_
              rotate_left
              · (try dsimp only at hSw); go_simp; (try with_reducible rfl)
              try simp only [List.getElem_toArray, List.getElem_cons_succ, List.getElem_cons_zero, Act.put, List.setIfInBounds_toArray, List.set_cons_zero, List.set_cons_succ]
              refine wpAnyH_ready (rs := [13]) (by kernel_rfl) (by simp) ?_
              refine AllReadyH.cons rfl (fun K hK => ?_) ?_
              · go_simp
                have HW5 := Lib.hid (Cmd.below_one W4 (.cells #[.int .i64 0, .int .i64 0, .int .i64 0, .slice none 0 0, .slice none 0 0] 27))
                have HX5 := Lib.hid (HX4.out.on HW5.out)
                have FD5 := Lib.hid (FD4.out.on HW5.out)
                have FB5 := Lib.hid (FB4.out.on HW5.out)
                have HZ5 : Hid ((W4.alloc (.cells #[.int .i64 0, .int .i64 0, .int .i64 0, .slice none 0 0, .slice none 0 0] 27)).heap[W4.heap.size]? = some zeroR) := Lib.hid (heap_alloc_new W4 _)
                have HI5 : Hid (W4.heap.size < (W4.alloc (.cells #[.int .i64 0, .int .i64 0, .int .i64 0, .slice none 0 0, .slice none 0 0] 27)).heap.size) := Lib.hid (by simp)
                refine hK.out _ _ ?_ (fun hHeld => ?_)
                · exact HX5.out.five
                clear hK K
                generalize W4.alloc (.cells #[.int .i64 0, .int .i64 0, .int .i64 0, .slice none 0 0, .slice none 0 0] 27) = W5 at HW5 HX5 FD5 FB5 HZ5 HI5 hHeld ⊢
                try simp only [List.getElem_toArray, List.getElem_cons_succ, List.getElem_cons_zero, Act.put, List.setIfInBounds_toArray, List.set_cons_zero, List.set_cons_succ]
                refine wpAnyH_ready (rs := [14]) (by kernel_rfl) (by simp) ?_
                refine AllReadyH.cons rfl (fun K hK => ?_) ?_
                · have r0 := cell_row (i := 0) HZ5.out rfl
                  have r1 := cell_row (i := 1) HZ5.out rfl
                  have r2 := cell_row (i := 2) HZ5.out rfl
                  have r3 := cell_row (i := 3) HZ5.out rfl
                  have r4 := cell_row (i := 4) HZ5.out rfl
                  have e0 := free_row (i := 0) HZ5.out
                  have e1 := free_row (i := 1) HZ5.out
                  have e2 := free_row (i := 2) HZ5.out
                  have e3 := free_row (i := 3) HZ5.out
                  have e4 := free_row (i := 4) HZ5.out
                  go_simp
                  have S0 := HX0.out.lt
                  have S1 := HW1.out.size
                  have S2 := HW2.out.size
                  have S3 := HW3.out.size
                  have S4 := HW4.out.size
                  have S5 := HW5.out.size
                  have SZ := HI5.out
                  refine hK.out _ _ ?_ (fun hHeld => ?_)
                  · exact five_put HX5.out.five (by omega) _ _ _ _ _
                  clear hK K
                  try simp only [List.getElem_toArray, List.getElem_cons_succ, List.getElem_cons_zero, Act.put, List.setIfInBounds_toArray, List.set_cons_zero, List.set_cons_succ]
                  refine wpAnyH_done (by kernel_rfl) ?_ _
                  go_wp2_with fail
                  go_meet
                  have D := OwnAt.of (ds := ds) (cs := cs) HX5.out HZ5.out (by omega) (by rw [← HN.out]; exact FD5.out.from (by omega)) (by rw [← HM.out]; exact FB5.out.from (by omega)) (by rw [← HN.out]; exact FD0.out.under (by omega)) (by rw [← HM.out]; exact FB0.out.under (by omega)) (by rw [← HN.out, ← HM.out]; exact FD0.out.apart FB0.out (by omega))
                  rw [← HN.out, ← HM.out] at D
                  exact ⟨_, _, _, _, _, rfl, Lib.hid D⟩
                exact AllReadyH.nil
              exact AllReadyH.nil
            refine AllReadyH.cons rfl (fun K hK => ?_) ?_
            · go_simp
              have HW4 := Lib.hid (Cmd.below_one W3 (.cells #[.int .i64 0, .int .i64 0, .int .i64 0, .slice none 0 0, .slice none 0 0] 27))
              have HX4 := Lib.hid (HX3.out.on HW4.out)
              have FD4 := Lib.hid (FD3.out.on HW4.out)
              have HZ4 : Hid ((W3.alloc (.cells #[.int .i64 0, .int .i64 0, .int .i64 0, .slice none 0 0, .slice none 0 0] 27)).heap[W3.heap.size]? = some zeroR) := Lib.hid (heap_alloc_new W3 _)
              have HI4 : Hid (W3.heap.size < (W3.alloc (.cells #[.int .i64 0, .int .i64 0, .int .i64 0, .slice none 0 0, .slice none 0 0] 27)).heap.size) := Lib.hid (by simp)
              refine hK.out _ _ ?_ (fun hHeld => ?_)
              · exact HX4.out.five
              clear hK K
              generalize W3.alloc (.cells #[.int .i64 0, .int .i64 0, .int .i64 0, .slice none 0 0, .slice none 0 0] 27) = W4 at HW4 HX4 FD4 HZ4 HI4 hHeld ⊢
              try simp only [List.getElem_toArray, List.getElem_cons_succ, List.getElem_cons_zero, Act.put, List.setIfInBounds_toArray, List.set_cons_zero, List.set_cons_succ]
              refine wpAnyH_ready (rs := [11]) (by kernel_rfl) (by simp) ?_
              refine AllReadyH.cons rfl (fun K hK => ?_) ?_
              · refine stepC (by rfl) (.tmp 26) (.tmp 28) (by rfl) _ (by rfl) _ _ _ (by rfl) cs HM.out (HRC.out _ HX4.out.below) hl' ?_
                intro gb kb W5 hf HW5
                have HX5 := Lib.hid (HX4.out.on HW5.out)
                have FD5 := Lib.hid (FD4.out.on HW5.out)
                have HZ5 := Lib.hid ((HW5.out.block _ (Array.getElem?_eq_some_iff.1 HZ4.out).1).trans HZ4.out)
                have FB5 := hf
                have FB0 := hf
                clear hf
                refine hK.out _ _ ?_ (fun hHeld => ?_)
                · exact HX5.out.five
                clear hK K
                try simp only [List.getElem_toArray, List.getElem_cons_succ, List.getElem_cons_zero, Act.put, List.setIfInBounds_toArray, List.set_cons_zero, List.set_cons_succ]
                refine wpAnyH_take (i := 12) (v := ?_) rfl (by kernel_rfl) (by kernel_rfl) (by kernel_rfl) (fun _ _ _ h => h) (Or.inl ⟨by rfl, fun w hSw => ?_⟩) (by assumption) ?_
                rotate_left
                · (try dsimp only at hSw); go_simp; (try with_reducible rfl)
                try simp only [List.getElem_toArray, List.getElem_cons_succ, List.getElem_cons_zero, Act.put, List.setIfInBounds_toArray, List.set_cons_zero, List.set_cons_succ]
                refine wpAnyH_ready (rs := [14]) (by kernel_rfl) (by simp) ?_
                refine AllReadyH.cons rfl (fun K hK => ?_) ?_
                · have r0 := cell_row (i := 0) HZ5.out rfl
                  have r1 := cell_row (i := 1) HZ5.out rfl
                  have r2 := cell_row (i := 2) HZ5.out rfl
                  have r3 := cell_row (i := 3) HZ5.out rfl
                  have r4 := cell_row (i := 4) HZ5.out rfl
                  have e0 := free_row (i := 0) HZ5.out
                  have e1 := free_row (i := 1) HZ5.out
                  have e2 := free_row (i := 2) HZ5.out
                  have e3 := free_row (i := 3) HZ5.out
                  have e4 := free_row (i := 4) HZ5.out
                  go_simp
                  have S0 := HX0.out.lt
                  have S1 := HW1.out.size
                  have S2 := HW2.out.size
                  have S3 := HW3.out.size
                  have S4 := HW4.out.size
                  have S5 := HW5.out.size
                  have SZ := HI4.out
                  refine hK.out _ _ ?_ (fun hHeld => ?_)
                  · exact five_put HX5.out.five (by omega) _ _ _ _ _
                  clear hK K
                  try simp only [List.getElem_toArray, List.getElem_cons_succ, List.getElem_cons_zero, Act.put, List.setIfInBounds_toArray, List.set_cons_zero, List.set_cons_succ]
                  refine wpAnyH_done (by kernel_rfl) ?_ _
                  go_wp2_with fail
                  go_meet
                  have D := OwnAt.of (ds := ds) (cs := cs) HX5.out HZ5.out (by omega) (by rw [← HN.out]; exact FD5.out.from (by omega)) (by rw [← HM.out]; exact FB5.out.from (by omega)) (by rw [← HN.out]; exact FD0.out.under (by omega)) (by rw [← HM.out]; exact FB0.out.over (by omega)) (by rw [← HN.out, ← HM.out]; exact FD0.out.apart FB0.out (by omega))
                  rw [← HN.out, ← HM.out] at D
                  exact ⟨_, _, _, _, _, rfl, Lib.hid D⟩
                exact AllReadyH.nil
              exact AllReadyH.nil
            exact AllReadyH.nil
          refine AllReadyH.cons rfl (fun K hK => ?_) ?_
          · go_simp
            have HW3 := Lib.hid (Cmd.below_one W2 (.cells #[.int .i64 0, .int .i64 0, .int .i64 0, .slice none 0 0, .slice none 0 0] 27))
            have HX3 := Lib.hid (HX2.out.on HW3.out)
            have HZ3 : Hid ((W2.alloc (.cells #[.int .i64 0, .int .i64 0, .int .i64 0, .slice none 0 0, .slice none 0 0] 27)).heap[W2.heap.size]? = some zeroR) := Lib.hid (heap_alloc_new W2 _)
            have HI3 : Hid (W2.heap.size < (W2.alloc (.cells #[.int .i64 0, .int .i64 0, .int .i64 0, .slice none 0 0, .slice none 0 0] 27)).heap.size) := Lib.hid (by simp)
            refine hK.out _ _ ?_ (fun hHeld => ?_)
            · exact HX3.out.five
            clear hK K
            generalize W2.alloc (.cells #[.int .i64 0, .int .i64 0, .int .i64 0, .slice none 0 0, .slice none 0 0] 27) = W3 at HW3 HX3 HZ3 HI3 hHeld ⊢
            try simp only [List.getElem_toArray, List.getElem_cons_succ, List.getElem_cons_zero, Act.put, List.setIfInBounds_toArray, List.set_cons_zero, List.set_cons_succ]
            refine wpAnyH_ready (rs := [7]) (by kernel_rfl) (by simp) ?_
            refine AllReadyH.cons rfl (fun K hK => ?_) ?_
            · refine stepI (by rfl) (.tmp 22) (.tmp 24) (by rfl) _ (by rfl) _ _ _ (by rfl) ds HN.out (HRI.out _ HX3.out.below) hl ?_
              intro gd kd W4 hf HW4
              have HX4 := Lib.hid (HX3.out.on HW4.out)
              have HZ4 := Lib.hid ((HW4.out.block _ (Array.getElem?_eq_some_iff.1 HZ3.out).1).trans HZ3.out)
              have FD4 := hf
              have FD0 := hf
              clear hf
              refine hK.out _ _ ?_ (fun hHeld => ?_)
              · exact HX4.out.five
              clear hK K
              try simp only [List.getElem_toArray, List.getElem_cons_succ, List.getElem_cons_zero, Act.put, List.setIfInBounds_toArray, List.set_cons_zero, List.set_cons_succ]
              refine wpAnyH_ready (rs := [11]) (by kernel_rfl) (by simp) ?_
              refine AllReadyH.cons rfl (fun K hK => ?_) ?_
              · refine stepC (by rfl) (.tmp 26) (.tmp 28) (by rfl) _ (by rfl) _ _ _ (by rfl) cs HM.out (HRC.out _ HX4.out.below) hl' ?_
                intro gb kb W5 hf HW5
                have HX5 := Lib.hid (HX4.out.on HW5.out)
                have FD5 := Lib.hid (FD4.out.on HW5.out)
                have HZ5 := Lib.hid ((HW5.out.block _ (Array.getElem?_eq_some_iff.1 HZ4.out).1).trans HZ4.out)
                have FB5 := hf
                have FB0 := hf
                clear hf
                refine hK.out _ _ ?_ (fun hHeld => ?_)
                · exact HX5.out.five
                clear hK K
                try simp only [List.getElem_toArray, List.getElem_cons_succ, List.getElem_cons_zero, Act.put, List.setIfInBounds_toArray, List.set_cons_zero, List.set_cons_succ]
                refine wpAnyH_take (i := 12) (v := ?_) rfl (by kernel_rfl) (by kernel_rfl) (by kernel_rfl) (fun _ _ _ h => h) (Or.inl ⟨by rfl, fun w hSw => ?_⟩) (by assumption) ?_
                rotate_left
                · (try dsimp only at hSw); go_simp; (try with_reducible rfl)
                try simp only [List.getElem_toArray, List.getElem_cons_succ, List.getElem_cons_zero, Act.put, List.setIfInBounds_toArray, List.set_cons_zero, List.set_cons_succ]
                refine wpAnyH_ready (rs := [14]) (by kernel_rfl) (by simp) ?_
                refine AllReadyH.cons rfl (fun K hK => ?_) ?_
                · have r0 := cell_row (i := 0) HZ5.out rfl
                  have r1 := cell_row (i := 1) HZ5.out rfl
                  have r2 := cell_row (i := 2) HZ5.out rfl
                  have r3 := cell_row (i := 3) HZ5.out rfl
                  have r4 := cell_row (i := 4) HZ5.out rfl
                  have e0 := free_row (i := 0) HZ5.out
                  have e1 := free_row (i := 1) HZ5.out
                  have e2 := free_row (i := 2) HZ5.out
                  have e3 := free_row (i := 3) HZ5.out
                  have e4 := free_row (i := 4) HZ5.out
                  go_simp
                  have S0 := HX0.out.lt
                  have S1 := HW1.out.size
                  have S2 := HW2.out.size
                  have S3 := HW3.out.size
                  have S4 := HW4.out.size
                  have S5 := HW5.out.size
                  have SZ := HI3.out
                  refine hK.out _ _ ?_ (fun hHeld => ?_)
                  · exact five_put HX5.out.five (by omega) _ _ _ _ _
                  clear hK K
                  try simp only [List.getElem_toArray, List.getElem_cons_succ, List.getElem_cons_zero, Act.put, List.setIfInBounds_toArray, List.set_cons_zero, List.set_cons_succ]
                  refine wpAnyH_done (by kernel_rfl) ?_ _
                  go_wp2_with fail
                  go_meet
                  have D := OwnAt.of (ds := ds) (cs := cs) HX5.out HZ5.out (by omega) (by rw [← HN.out]; exact FD5.out.from (by omega)) (by rw [← HM.out]; exact FB5.out.from (by omega)) (by rw [← HN.out]; exact FD0.out.over (by omega)) (by rw [← HM.out]; exact FB0.out.over (by omega)) (by rw [← HN.out, ← HM.out]; exact FD0.out.apart FB0.out (by omega))
                  rw [← HN.out, ← HM.out] at D
                  exact ⟨_, _, _, _, _, rfl, Lib.hid D⟩
                exact AllReadyH.nil
              exact AllReadyH.nil
            exact AllReadyH.nil
          exact AllReadyH.nil
        refine AllReadyH.cons rfl (fun K hK => ?_) ?_
        · go_simp
          have HW2 := Lib.hid (Cmd.below_one W1 (.cells #[.int .i64 0, .int .i64 0, .int .i64 0, .slice none 0 0, .slice none 0 0] 27))
          have HX2 := Lib.hid (HX1.out.on HW2.out)
          have HZ2 : Hid ((W1.alloc (.cells #[.int .i64 0, .int .i64 0, .int .i64 0, .slice none 0 0, .slice none 0 0] 27)).heap[W1.heap.size]? = some zeroR) := Lib.hid (heap_alloc_new W1 _)
          have HI2 : Hid (W1.heap.size < (W1.alloc (.cells #[.int .i64 0, .int .i64 0, .int .i64 0, .slice none 0 0, .slice none 0 0] 27)).heap.size) := Lib.hid (by simp)
          refine hK.out _ _ ?_ (fun hHeld => ?_)
          · exact HX2.out.five
          clear hK K
          generalize W1.alloc (.cells #[.int .i64 0, .int .i64 0, .int .i64 0, .slice none 0 0, .slice none 0 0] 27) = W2 at HW2 HX2 HZ2 HI2 hHeld ⊢
          try simp only [List.getElem_toArray, List.getElem_cons_succ, List.getElem_cons_zero, Act.put, List.setIfInBounds_toArray, List.set_cons_zero, List.set_cons_succ]
          refine wpAnyH_ready (rs := [4]) (by kernel_rfl) (by simp) ?_
          refine AllReadyH.cons rfl (fun K hK => ?_) ?_
          · go_simp
            have HW3 := Lib.hid (Cmd.below_one W2 (.cells #[] 23))
            have HX3 := Lib.hid (HX2.out.on HW3.out)
            have HZ3 := Lib.hid ((HW3.out.block _ (Array.getElem?_eq_some_iff.1 HZ2.out).1).trans HZ2.out)
            refine hK.out _ _ ?_ (fun hHeld => ?_)
            · exact HX3.out.five
            clear hK K
            generalize W2.alloc (.cells #[] 23) = W3 at HW3 HX3 HZ3 hHeld ⊢
            try simp only [List.getElem_toArray, List.getElem_cons_succ, List.getElem_cons_zero, Act.put, List.setIfInBounds_toArray, List.set_cons_zero, List.set_cons_succ]
            refine wpAnyH_ready (rs := [7]) (by kernel_rfl) (by simp) ?_
            refine AllReadyH.cons rfl (fun K hK => ?_) ?_
            · refine stepI (by rfl) (.tmp 22) (.tmp 24) (by rfl) _ (by rfl) _ _ _ (by rfl) ds HN.out (HRI.out _ HX3.out.below) hl ?_
              intro gd kd W4 hf HW4
              have HX4 := Lib.hid (HX3.out.on HW4.out)
              have HZ4 := Lib.hid ((HW4.out.block _ (Array.getElem?_eq_some_iff.1 HZ3.out).1).trans HZ3.out)
              have FD4 := hf
              have FD0 := hf
              clear hf
              refine hK.out _ _ ?_ (fun hHeld => ?_)
              · exact HX4.out.five
              clear hK K
              try simp only [List.getElem_toArray, List.getElem_cons_succ, List.getElem_cons_zero, Act.put, List.setIfInBounds_toArray, List.set_cons_zero, List.set_cons_succ]
              refine wpAnyH_ready (rs := [11]) (by kernel_rfl) (by simp) ?_
              refine AllReadyH.cons rfl (fun K hK => ?_) ?_
              · refine stepC (by rfl) (.tmp 26) (.tmp 28) (by rfl) _ (by rfl) _ _ _ (by rfl) cs HM.out (HRC.out _ HX4.out.below) hl' ?_
                intro gb kb W5 hf HW5
                have HX5 := Lib.hid (HX4.out.on HW5.out)
                have FD5 := Lib.hid (FD4.out.on HW5.out)
                have HZ5 := Lib.hid ((HW5.out.block _ (Array.getElem?_eq_some_iff.1 HZ4.out).1).trans HZ4.out)
                have FB5 := hf
                have FB0 := hf
                clear hf
                refine hK.out _ _ ?_ (fun hHeld => ?_)
                · exact HX5.out.five
                clear hK K
                try simp only [List.getElem_toArray, List.getElem_cons_succ, List.getElem_cons_zero, Act.put, List.setIfInBounds_toArray, List.set_cons_zero, List.set_cons_succ]
                refine wpAnyH_take (i := 12) (v := ?_) rfl (by kernel_rfl) (by kernel_rfl) (by kernel_rfl) (fun _ _ _ h => h) (Or.inl ⟨by rfl, fun w hSw => ?_⟩) (by assumption) ?_
                rotate_left
                · (try dsimp only at hSw); go_simp; (try with_reducible rfl)
                try simp only [List.getElem_toArray, List.getElem_cons_succ, List.getElem_cons_zero, Act.put, List.setIfInBounds_toArray, List.set_cons_zero, List.set_cons_succ]
                refine wpAnyH_ready (rs := [14]) (by kernel_rfl) (by simp) ?_
                refine AllReadyH.cons rfl (fun K hK => ?_) ?_
                · have r0 := cell_row (i := 0) HZ5.out rfl
                  have r1 := cell_row (i := 1) HZ5.out rfl
                  have r2 := cell_row (i := 2) HZ5.out rfl
                  have r3 := cell_row (i := 3) HZ5.out rfl
                  have r4 := cell_row (i := 4) HZ5.out rfl
                  have e0 := free_row (i := 0) HZ5.out
                  have e1 := free_row (i := 1) HZ5.out
                  have e2 := free_row (i := 2) HZ5.out
                  have e3 := free_row (i := 3) HZ5.out
                  have e4 := free_row (i := 4) HZ5.out
                  go_simp
                  have S0 := HX0.out.lt
                  have S1 := HW1.out.size
                  have S2 := HW2.out.size
                  have S3 := HW3.out.size
                  have S4 := HW4.out.size
                  have S5 := HW5.out.size
                  have SZ := HI2.out
                  refine hK.out _ _ ?_ (fun hHeld => ?_)
                  · exact five_put HX5.out.five (by omega) _ _ _ _ _
                  clear hK K
                  try simp only [List.getElem_toArray, List.getElem_cons_succ, List.getElem_cons_zero, Act.put, List.setIfInBounds_toArray, List.set_cons_zero, List.set_cons_succ]
                  refine wpAnyH_done (by kernel_rfl) ?_ _
                  go_wp2_with fail
                  go_meet
                  have D := OwnAt.of (ds := ds) (cs := cs) HX5.out HZ5.out (by omega) (by rw [← HN.out]; exact FD5.out.from (by omega)) (by rw [← HM.out]; exact FB5.out.from (by omega)) (by rw [← HN.out]; exact FD0.out.over (by omega)) (by rw [← HM.out]; exact FB0.out.over (by omega)) (by rw [← HN.out, ← HM.out]; exact FD0.out.apart FB0.out (by omega))
                  rw [← HN.out, ← HM.out] at D
                  exact ⟨_, _, _, _, _, rfl, Lib.hid D⟩
                exact AllReadyH.nil
              exact AllReadyH.nil
            exact AllReadyH.nil
          exact AllReadyH.nil
        exact AllReadyH.nil
      refine AllReadyH.cons rfl (fun K hK => ?_) ?_
      · go_simp
        have HW1 := Lib.hid (Cmd.below_one W0 (.cells #[.int .i64 0, .int .i64 0, .int .i64 0, .slice none 0 0, .slice none 0 0] 27))
        have HX1 := Lib.hid (HX0.out.on HW1.out)
        have HZ1 : Hid ((W0.alloc (.cells #[.int .i64 0, .int .i64 0, .int .i64 0, .slice none 0 0, .slice none 0 0] 27)).heap[W0.heap.size]? = some zeroR) := Lib.hid (heap_alloc_new W0 _)
        have HI1 : Hid (W0.heap.size < (W0.alloc (.cells #[.int .i64 0, .int .i64 0, .int .i64 0, .slice none 0 0, .slice none 0 0] 27)).heap.size) := Lib.hid (by simp)
        refine hK.out _ _ ?_ (fun hHeld => ?_)
        · exact HX1.out.five
        clear hK K
        generalize W0.alloc (.cells #[.int .i64 0, .int .i64 0, .int .i64 0, .slice none 0 0, .slice none 0 0] 27) = W1 at HW1 HX1 HZ1 HI1 hHeld ⊢
        try simp only [List.getElem_toArray, List.getElem_cons_succ, List.getElem_cons_zero, Act.put, List.setIfInBounds_toArray, List.set_cons_zero, List.set_cons_succ]
        refine wpAnyH_ready (rs := [4, 8]) (by kernel_rfl) (by simp) ?_
        refine AllReadyH.cons rfl (fun K hK => ?_) ?_
        · go_simp
          have HW2 := Lib.hid (Cmd.below_one W1 (.cells #[] 23))
          have HX2 := Lib.hid (HX1.out.on HW2.out)
          have HZ2 := Lib.hid ((HW2.out.block _ (Array.getElem?_eq_some_iff.1 HZ1.out).1).trans HZ1.out)
          refine hK.out _ _ ?_ (fun hHeld => ?_)
          · exact HX2.out.five
          clear hK K
          generalize W1.alloc (.cells #[] 23) = W2 at HW2 HX2 HZ2 hHeld ⊢
          try simp only [List.getElem_toArray, List.getElem_cons_succ, List.getElem_cons_zero, Act.put, List.setIfInBounds_toArray, List.set_cons_zero, List.set_cons_succ]
          refine wpAnyH_ready (rs := [7, 8]) (by kernel_rfl) (by simp) ?_
          refine AllReadyH.cons rfl (fun K hK => ?_) ?_
          · refine stepI (by rfl) (.tmp 22) (.tmp 24) (by rfl) _ (by rfl) _ _ _ (by rfl) ds HN.out (HRI.out _ HX2.out.below) hl ?_
            intro gd kd W3 hf HW3
            have HX3 := Lib.hid (HX2.out.on HW3.out)
            have HZ3 := Lib.hid ((HW3.out.block _ (Array.getElem?_eq_some_iff.1 HZ2.out).1).trans HZ2.out)
            have FD3 := hf
            have FD0 := hf
            clear hf
            refine hK.out _ _ ?_ (fun hHeld => ?_)
            · exact HX3.out.five
            clear hK K
            try simp only [List.getElem_toArray, List.getElem_cons_succ, List.getElem_cons_zero, Act.put, List.setIfInBounds_toArray, List.set_cons_zero, List.set_cons_succ]
            refine wpAnyH_ready (rs := [8]) (by kernel_rfl) (by simp) ?_
            refine AllReadyH.cons rfl (fun K hK => ?_) ?_
            · go_simp
              have HW4 := Lib.hid (Cmd.below_one W3 (.cells #[] 36))
              have HX4 := Lib.hid (HX3.out.on HW4.out)
              have FD4 := Lib.hid (FD3.out.on HW4.out)
              have HZ4 := Lib.hid ((HW4.out.block _ (Array.getElem?_eq_some_iff.1 HZ3.out).1).trans HZ3.out)
              refine hK.out _ _ ?_ (fun hHeld => ?_)
              · exact HX4.out.five
              clear hK K
              generalize W3.alloc (.cells #[] 36) = W4 at HW4 HX4 FD4 HZ4 hHeld ⊢
              try simp only [List.getElem_toArray, List.getElem_cons_succ, List.getElem_cons_zero, Act.put, List.setIfInBounds_toArray, List.set_cons_zero, List.set_cons_succ]
              refine wpAnyH_ready (rs := [11]) (by kernel_rfl) (by simp) ?_
              refine AllReadyH.cons rfl (fun K hK => ?_) ?_
              · refine stepC (by rfl) (.tmp 26) (.tmp 28) (by rfl) _ (by rfl) _ _ _ (by rfl) cs HM.out (HRC.out _ HX4.out.below) hl' ?_
                intro gb kb W5 hf HW5
                have HX5 := Lib.hid (HX4.out.on HW5.out)
                have FD5 := Lib.hid (FD4.out.on HW5.out)
                have HZ5 := Lib.hid ((HW5.out.block _ (Array.getElem?_eq_some_iff.1 HZ4.out).1).trans HZ4.out)
                have FB5 := hf
                have FB0 := hf
                clear hf
                refine hK.out _ _ ?_ (fun hHeld => ?_)
                · exact HX5.out.five
                clear hK K
                try simp only [List.getElem_toArray, List.getElem_cons_succ, List.getElem_cons_zero, Act.put, List.setIfInBounds_toArray, List.set_cons_zero, List.set_cons_succ]
                refine wpAnyH_take (i := 12) (v := ?_) rfl (by kernel_rfl) (by kernel_rfl) (by kernel_rfl) (fun _ _ _ h => h) (Or.inl ⟨by rfl, fun w hSw => ?_⟩) (by assumption) ?_
                rotate_left
                · (try dsimp only at hSw); go_simp; (try with_reducible rfl)
                try simp only [List.getElem_toArray, List.getElem_cons_succ, List.getElem_cons_zero, Act.put, List.setIfInBounds_toArray, List.set_cons_zero, List.set_cons_succ]
                refine wpAnyH_ready (rs := [14]) (by kernel_rfl) (by simp) ?_
                refine AllReadyH.cons rfl (fun K hK => ?_) ?_
                · have r0 := cell_row (i := 0) HZ5.out rfl
                  have r1 := cell_row (i := 1) HZ5.out rfl
                  have r2 := cell_row (i := 2) HZ5.out rfl
                  have r3 := cell_row (i := 3) HZ5.out rfl
                  have r4 := cell_row (i := 4) HZ5.out rfl
                  have e0 := free_row (i := 0) HZ5.out
                  have e1 := free_row (i := 1) HZ5.out
                  have e2 := free_row (i := 2) HZ5.out
                  have e3 := free_row (i := 3) HZ5.out
                  have e4 := free_row (i := 4) HZ5.out
                  go_simp
                  have S0 := HX0.out.lt
                  have S1 := HW1.out.size
                  have S2 := HW2.out.size
                  have S3 := HW3.out.size
                  have S4 := HW4.out.size
                  have S5 := HW5.out.size
                  have SZ := HI1.out
                  refine hK.out _ _ ?_ (fun hHeld => ?_)
                  · exact five_put HX5.out.five (by omega) _ _ _ _ _
                  clear hK K
                  try simp only [List.getElem_toArray, List.getElem_cons_succ, List.getElem_cons_zero, Act.put, List.setIfInBounds_toArray, List.set_cons_zero, List.set_cons_succ]
                  refine wpAnyH_done (by kernel_rfl) ?_ _
                  go_wp2_with fail
                  go_meet
                  have D := OwnAt.of (ds := ds) (cs := cs) HX5.out HZ5.out (by omega) (by rw [← HN.out]; exact FD5.out.from (by omega)) (by rw [← HM.out]; exact FB5.out.from (by omega)) (by rw [← HN.out]; exact FD0.out.over (by omega)) (by rw [← HM.out]; exact FB0.out.over (by omega)) (by rw [← HN.out, ← HM.out]; exact FD0.out.apart FB0.out (by omega))
                  rw [← HN.out, ← HM.out] at D
                  exact ⟨_, _, _, _, _, rfl, Lib.hid D⟩
                exact AllReadyH.nil
              exact AllReadyH.nil
            exact AllReadyH.nil
          refine AllReadyH.cons rfl (fun K hK => ?_) ?_
          · go_simp
            have HW3 := Lib.hid (Cmd.below_one W2 (.cells #[] 36))
            have HX3 := Lib.hid (HX2.out.on HW3.out)
            have HZ3 := Lib.hid ((HW3.out.block _ (Array.getElem?_eq_some_iff.1 HZ2.out).1).trans HZ2.out)
            refine hK.out _ _ ?_ (fun hHeld => ?_)
            · exact HX3.out.five
            clear hK K
            generalize W2.alloc (.cells #[] 36) = W3 at HW3 HX3 HZ3 hHeld ⊢
            try simp only [List.getElem_toArray, List.getElem_cons_succ, List.getElem_cons_zero, Act.put, List.setIfInBounds_toArray, List.set_cons_zero, List.set_cons_succ]
            refine wpAnyH_ready (rs := [7]) (by kernel_rfl) (by simp) ?_
            refine AllReadyH.cons rfl (fun K hK => ?_) ?_
            · refine stepI (by rfl) (.tmp 22) (.tmp 24) (by rfl) _ (by rfl) _ _ _ (by rfl) ds HN.out (HRI.out _ HX3.out.below) hl ?_
              intro gd kd W4 hf HW4
              have HX4 := Lib.hid (HX3.out.on HW4.out)
              have HZ4 := Lib.hid ((HW4.out.block _ (Array.getElem?_eq_some_iff.1 HZ3.out).1).trans HZ3.out)
              have FD4 := hf
              have FD0 := hf
              clear hf
              refine hK.out _ _ ?_ (fun hHeld => ?_)
              · exact HX4.out.five
              clear hK K
              try simp only [List.getElem_toArray, List.getElem_cons_succ, List.getElem_cons_zero, Act.put, List.setIfInBounds_toArray, List.set_cons_zero, List.set_cons_succ]
              refine wpAnyH_ready (rs := [11]) (by kernel_rfl) (by simp) ?_
              refine AllReadyH.cons rfl (fun K hK => ?_) ?_
              · refine stepC (by rfl) (.tmp 26) (.tmp 28) (by rfl) _ (by rfl) _ _ _ (by rfl) cs HM.out (HRC.out _ HX4.out.below) hl' ?_
                intro gb kb W5 hf HW5
                have HX5 := Lib.hid (HX4.out.on HW5.out)
                have FD5 := Lib.hid (FD4.out.on HW5.out)
                have HZ5 := Lib.hid ((HW5.out.block _ (Array.getElem?_eq_some_iff.1 HZ4.out).1).trans HZ4.out)
                have FB5 := hf
                have FB0 := hf
                clear hf
                refine hK.out _ _ ?_ (fun hHeld => ?_)
                · exact HX5.out.five
                clear hK K
                try simp only [List.getElem_toArray, List.getElem_cons_succ, List.getElem_cons_zero, Act.put, List.setIfInBounds_toArray, List.set_cons_zero, List.set_cons_succ]
                refine wpAnyH_take (i := 12) (v := ?_) rfl (by kernel_rfl) (by kernel_rfl) (by kernel_rfl) (fun _ _ _ h => h) (Or.inl ⟨by rfl, fun w hSw => ?_⟩) (by assumption) ?_
                rotate_left
                · (try dsimp only at hSw); go_simp; (try with_reducible rfl)
                try simp only [List.getElem_toArray, List.getElem_cons_succ, List.getElem_cons_zero, Act.put, List.setIfInBounds_toArray, List.set_cons_zero, List.set_cons_succ]
                refine wpAnyH_ready (rs := [14]) (by kernel_rfl) (by simp) ?_
                refine AllReadyH.cons rfl (fun K hK => ?_) ?_
                · have r0 := cell_row (i := 0) HZ5.out rfl
                  have r1 := cell_row (i := 1) HZ5.out rfl
                  have r2 := cell_row (i := 2) HZ5.out rfl
                  have r3 := cell_row (i := 3) HZ5.out rfl
                  have r4 := cell_row (i := 4) HZ5.out rfl
                  have e0 := free_row (i := 0) HZ5.out
                  have e1 := free_row (i := 1) HZ5.out
                  have e2 := free_row (i := 2) HZ5.out
                  have e3 := free_row (i := 3) HZ5.out
                  have e4 := free_row (i := 4) HZ5.out
                  go_simp
                  have S0 := HX0.out.lt
                  have S1 := HW1.out.size
                  have S2 := HW2.out.size
                  have S3 := HW3.out.size
                  have S4 := HW4.out.size
                  have S5 := HW5.out.size
                  have SZ := HI1.out
                  refine hK.out _ _ ?_ (fun hHeld => ?_)
                  · exact five_put HX5.out.five (by omega) _ _ _ _ _
                  clear hK K
                  try simp only [List.getElem_toArray, List.getElem_cons_succ, List.getElem_cons_zero, Act.put, List.setIfInBounds_toArray, List.set_cons_zero, List.set_cons_succ]
                  refine wpAnyH_done (by kernel_rfl) ?_ _
                  go_wp2_with fail
                  go_meet
                  have D := OwnAt.of (ds := ds) (cs := cs) HX5.out HZ5.out (by omega) (by rw [← HN.out]; exact FD5.out.from (by omega)) (by rw [← HM.out]; exact FB5.out.from (by omega)) (by rw [← HN.out]; exact FD0.out.over (by omega)) (by rw [← HM.out]; exact FB0.out.over (by omega)) (by rw [← HN.out, ← HM.out]; exact FD0.out.apart FB0.out (by omega))
                  rw [← HN.out, ← HM.out] at D
                  exact ⟨_, _, _, _, _, rfl, Lib.hid D⟩
                exact AllReadyH.nil
              exact AllReadyH.nil
            exact AllReadyH.nil
          exact AllReadyH.nil
        refine AllReadyH.cons rfl (fun K hK => ?_) ?_
        · go_simp
          have HW2 := Lib.hid (Cmd.below_one W1 (.cells #[] 36))
          have HX2 := Lib.hid (HX1.out.on HW2.out)
          have HZ2 := Lib.hid ((HW2.out.block _ (Array.getElem?_eq_some_iff.1 HZ1.out).1).trans HZ1.out)
          refine hK.out _ _ ?_ (fun hHeld => ?_)
          · exact HX2.out.five
          clear hK K
          generalize W1.alloc (.cells #[] 36) = W2 at HW2 HX2 HZ2 hHeld ⊢
          try simp only [List.getElem_toArray, List.getElem_cons_succ, List.getElem_cons_zero, Act.put, List.setIfInBounds_toArray, List.set_cons_zero, List.set_cons_succ]
          refine wpAnyH_ready (rs := [4]) (by kernel_rfl) (by simp) ?_
          refine AllReadyH.cons rfl (fun K hK => ?_) ?_
          · go_simp
            have HW3 := Lib.hid (Cmd.below_one W2 (.cells #[] 23))
            have HX3 := Lib.hid (HX2.out.on HW3.out)
            have HZ3 := Lib.hid ((HW3.out.block _ (Array.getElem?_eq_some_iff.1 HZ2.out).1).trans HZ2.out)
            refine hK.out _ _ ?_ (fun hHeld => ?_)
            · exact HX3.out.five
            clear hK K
            generalize W2.alloc (.cells #[] 23) = W3 at HW3 HX3 HZ3 hHeld ⊢
            try simp only [List.getElem_toArray, List.getElem_cons_succ, List.getElem_cons_zero, Act.put, List.setIfInBounds_toArray, List.set_cons_zero, List.set_cons_succ]
            refine wpAnyH_ready (rs := [7]) (by kernel_rfl) (by simp) ?_
            refine AllReadyH.cons rfl (fun K hK => ?_) ?_
            · refine stepI (by rfl) (.tmp 22) (.tmp 24) (by rfl) _ (by rfl) _ _ _ (by rfl) ds HN.out (HRI.out _ HX3.out.below) hl ?_
              intro gd kd W4 hf HW4
              have HX4 := Lib.hid (HX3.out.on HW4.out)
              have HZ4 := Lib.hid ((HW4.out.block _ (Array.getElem?_eq_some_iff.1 HZ3.out).1).trans HZ3.out)
              have FD4 := hf
              have FD0 := hf
              clear hf
              refine hK.out _ _ ?_ (fun hHeld => ?_)
              · exact HX4.out.five
              clear hK K
              try simp only [List.getElem_toArray, List.getElem_cons_succ, List.getElem_cons_zero, Act.put, List.setIfInBounds_toArray, List.set_cons_zero, List.set_cons_succ]
              refine wpAnyH_ready (rs := [11]) (by kernel_rfl) (by simp) ?_
              refine AllReadyH.cons rfl (fun K hK => ?_) ?_
              · refine stepC (by rfl) (.tmp 26) (.tmp 28) (by rfl) _ (by rfl) _ _ _ (by rfl) cs HM.out (HRC.out _ HX4.out.below) hl' ?_
                intro gb kb W5 hf HW5
                have HX5 := Lib.hid (HX4.out.on HW5.out)
                have FD5 := Lib.hid (FD4.out.on HW5.out)
                have HZ5 := Lib.hid ((HW5.out.block _ (Array.getElem?_eq_some_iff.1 HZ4.out).1).trans HZ4.out)
                have FB5 := hf
                have FB0 := hf
                clear hf
                refine hK.out _ _ ?_ (fun hHeld => ?_)
                · exact HX5.out.five
                clear hK K
                try simp only [List.getElem_toArray, List.getElem_cons_succ, List.getElem_cons_zero, Act.put, List.setIfInBounds_toArray, List.set_cons_zero, List.set_cons_succ]
                refine wpAnyH_take (i := 12) (v := ?_) rfl (by kernel_rfl) (by kernel_rfl) (by kernel_rfl) (fun _ _ _ h => h) (Or.inl ⟨by rfl, fun w hSw => ?_⟩) (by assumption) ?_
                rotate_left
                · (try dsimp only at hSw); go_simp; (try with_reducible rfl)
                try simp only [List.getElem_toArray, List.getElem_cons_succ, List.getElem_cons_zero, Act.put, List.setIfInBounds_toArray, List.set_cons_zero, List.set_cons_succ]
                refine wpAnyH_ready (rs := [14]) (by kernel_rfl) (by simp) ?_
                refine AllReadyH.cons rfl (fun K hK => ?_) ?_
                · have r0 := cell_row (i := 0) HZ5.out rfl
                  have r1 := cell_row (i := 1) HZ5.out rfl
                  have r2 := cell_row (i := 2) HZ5.out rfl
                  have r3 := cell_row (i := 3) HZ5.out rfl
                  have r4 := cell_row (i := 4) HZ5.out rfl
                  have e0 := free_row (i := 0) HZ5.out
                  have e1 := free_row (i := 1) HZ5.out
                  have e2 := free_row (i := 2) HZ5.out
                  have e3 := free_row (i := 3) HZ5.out
                  have e4 := free_row (i := 4) HZ5.out
                  go_simp
                  have S0 := HX0.out.lt
                  have S1 := HW1.out.size
                  have S2 := HW2.out.size
                  have S3 := HW3.out.size
                  have S4 := HW4.out.size
                  have S5 := HW5.out.size
                  have SZ := HI1.out
                  refine hK.out _ _ ?_ (fun hHeld => ?_)
                  · exact five_put HX5.out.five (by omega) _ _ _ _ _
                  clear hK K
                  try simp only [List.getElem_toArray, List.getElem_cons_succ, List.getElem_cons_zero, Act.put, List.setIfInBounds_toArray, List.set_cons_zero, List.set_cons_succ]
                  refine wpAnyH_done (by kernel_rfl) ?_ _
                  go_wp2_with fail
                  go_meet
                  have D := OwnAt.of (ds := ds) (cs := cs) HX5.out HZ5.out (by omega) (by rw [← HN.out]; exact FD5.out.from (by omega)) (by rw [← HM.out]; exact FB5.out.from (by omega)) (by rw [← HN.out]; exact FD0.out.over (by omega)) (by rw [← HM.out]; exact FB0.out.over (by omega)) (by rw [← HN.out, ← HM.out]; exact FD0.out.apart FB0.out (by omega))
                  rw [← HN.out, ← HM.out] at D
                  exact ⟨_, _, _, _, _, rfl, Lib.hid D⟩
                exact AllReadyH.nil
              exact AllReadyH.nil
            exact AllReadyH.nil
          exact AllReadyH.nil
        exact AllReadyH.nil
      exact AllReadyH.nil
    case rest =>
      obtain ⟨h, g, k, g', k', rfl, hat⟩ := hcut
      obtain ⟨o0, o1, o2, o3, o4⟩ := hat.out.five HN.out HM.out
      have RI := hat.out.dep.rowI
      have RC := hat.out.bat.rowC
      have CC := copy_any a b q _ _ ds cs wc RI RC (by rw [← HN.out]; exact hl) (by rw [← HM.out]; exact hl') HW.out
      unfold GivesRec at CC
      rw [← HN.out, ← HM.out] at CC
      have HCC := Lib.hid CC
      clear CC RI RC
      go_wp2_with (first
        | (go_at_call 6; (with_reducible refine HCC.out.mono ?_); rintro e w1 ⟨x, y, rfl, hc⟩; have HG0 := Lib.hid (Got.of hat.out hc); clear hc))
      rw [← HN.out, ← HM.out] at HG0
      have D0 := Lib.hid (HG0.out.on (Below.refl _ _).drew)
      obtain ⟨t, ht⟩ : ∃ t, t = w1.heap.size := ⟨_, rfl⟩
      rw [← ht] at D0 HG0 ⊢
      have GR : Hid (∀ W, Got w a b q (.slice p n c) (.slice p' m c') ds cs h g k g' k' t x y W → RowAt W (.slice (some ⟨x, 0, none⟩) n n) ds ∧ layC.Row W (.slice (some ⟨y, 0, none⟩) m m) cs ∧ RowAt W (.slice (some ⟨g, 0, none⟩) n k) ds ∧ layC.Row W (.slice (some ⟨g', 0, none⟩) m k') cs ∧ Below w.heap.size w W) := Lib.hid fun W z => by
        have r1 := rowI z.rx (by rw [← HN.out]; exact hl)
        have r2 := rowC z.ry (by rw [← HM.out]; exact hl')
        have r3 := z.own.dep.rowI
        have r4 := z.own.bat.rowC
        rw [← HN.out] at r1 r3
        rw [← HM.out] at r2 r4
        exact ⟨r1, r2, r3, r4, z.own.box.below⟩
      have GA : Hid (∀ W, Got w a b q (.slice p n c) (.slice p' m c') ds cs h g k g' k' t x y W → _) := Lib.hid fun W z => z.all HN.out HM.out
      have C1 : Hid (∀ W, RowAt W (.slice (some ⟨x, 0, none⟩) n n) ds → layC.Row W (.slice (some ⟨y, 0, none⟩) m m) cs → Below w.heap.size w W → Calls Try.prog 7 #[.agg #[.int .i64 a, .int .i64 b, .int .i64 q, .slice (some ⟨x, 0, none⟩) n n, .slice (some ⟨y, 0, none⟩) m m], .agg #[.int .i64 a, .int .i64 b, .int .i64 q, .slice p n c, .slice p' m c']] W (RetBelow (.bool true) W)) := Lib.hid fun W r1 r2 hb => by
        have := refsame_r a b q _ _ a b q _ _ ds ds cs cs W r1 r2 (HRI.out _ hb) (HRC.out _ hb) HW.out HW.out
        rw [rsame_self] at this; exact this
      obtain ⟨er, her⟩ : ∃ e, rErr a b q ds cs = e := ⟨_, rfl⟩
      have C2 : Hid (∀ W, RowAt W (.slice (some ⟨g, 0, none⟩) n k) ds → layC.Row W (.slice (some ⟨g', 0, none⟩) m k') cs → Calls Try.prog 8 #[.agg #[.int .i64 a, .int .i64 b, .int .i64 q, .slice (some ⟨g, 0, none⟩) n k, .slice (some ⟨g', 0, none⟩) m k']] W (RetBelow (.int .i64 er) W)) := Lib.hid fun W r1 r2 => by
        have := check_r a b q _ _ ds cs W r1 r2 HW.out; rw [her] at this; exact this
      have C3 : Hid (∀ W, Below w.heap.size w W → Calls Try.prog 9 #[.agg #[.int .i64 a, .int .i64 b, .int .i64 q, .slice p n c, .slice p' m c']] W (RetBelow (.int .i64 er) W)) := Lib.hid fun W hb => by
        have := refcheck_r a b q _ _ ds cs W (HRI.out _ hb) (HRC.out _ hb) HW.out; rw [her] at this; exact this
      obtain ⟨z1, hz1⟩ : ∃ z : Int, 1 + (n : Int) = z := ⟨_, rfl⟩
      have zw : IntKind.i64.wrap (1 + (n : Int)) = z1 := by rw [← hz1]; exact IntWalk.i64_in _ (by omega)
      have C4 : Hid (∀ W, Calls Try.prog 10 #[.agg #[.int .i64 a, .int .i64 b, .int .i64 q, .slice p n c, .slice p' m c']] W (RetBelow (.int .i64 z1) W)) := Lib.hid fun W => by
        have := cost_any a b q p n c (.slice p' m c') W (by omega); rw [hz1] at this; exact this
      have en : ((er : Int) != er) = false := by simp
      have zn : ((z1 : Int) != z1) = false := by simp
      clear her hz1 ht o0 o1 o2 o3 o4 HCC hat
      go_region_held3 (fun w' => w'.cell? ⟨t, 0, none⟩ = some (.int .i64 a) ∧ w'.cell? ⟨t, 1, none⟩ = some (.int .i64 b) ∧ w'.cell? ⟨t, 2, none⟩ = some (.int .i64 q) ∧ w'.cell? ⟨t, 3, none⟩ = some (.slice (some ⟨x, 0, none⟩) n n) ∧ w'.cell? ⟨t, 4, none⟩ = some (.slice (some ⟨y, 0, none⟩) m m) ∧
          w'.cell? ⟨w.heap.size, 0, none⟩ = some (.int .i64 a) ∧ w'.cell? ⟨w.heap.size, 1, none⟩ = some (.int .i64 b) ∧ w'.cell? ⟨w.heap.size, 2, none⟩ = some (.int .i64 q) ∧ w'.cell? ⟨w.heap.size, 3, none⟩ = some (.slice p n c) ∧ w'.cell? ⟨w.heap.size, 4, none⟩ = some (.slice p' m c') ∧
          w'.cell? ⟨h, 0, none⟩ = some (.int .i64 a) ∧ w'.cell? ⟨h, 1, none⟩ = some (.int .i64 b) ∧ w'.cell? ⟨h, 2, none⟩ = some (.int .i64 q) ∧ w'.cell? ⟨h, 3, none⟩ = some (.slice (some ⟨g, 0, none⟩) n k) ∧ w'.cell? ⟨h, 4, none⟩ = some (.slice (some ⟨g', 0, none⟩) m k'))
        (first
          | exact GA.out _ D4.out
          | exact GA.out _ D3.out
          | exact GA.out _ D2.out
          | exact GA.out _ D1.out
          | exact GA.out _ D0.out)
        (first
          | (go_at_call 7; (with_reducible refine (C1.out _ (GR.out _ D0.out).1 (GR.out _ D0.out).2.1 (GR.out _ D0.out).2.2.2.2).mono ?_); rintro e w2 ⟨rfl, hb⟩; have D1 := Lib.hid (D0.out.on hb); clear hb)
          | (go_at_call 8; (with_reducible refine (C2.out _ (GR.out _ D1.out).2.2.1 (GR.out _ D1.out).2.2.2.1).mono ?_); rintro e w3 ⟨rfl, hb⟩; have D2 := Lib.hid (D1.out.on hb); clear hb)
          | (go_at_call 9; (with_reducible refine (C3.out _ (GR.out _ D2.out).2.2.2.2).mono ?_); rintro e w4 ⟨rfl, hb⟩; have D3 := Lib.hid (D2.out.on hb); clear hb)
          | (go_at_call 10; (with_reducible refine (C4.out _).mono ?_); rintro e w5 ⟨rfl, hb⟩; have D4 := Lib.hid (D3.out.on hb); clear hb))
      have K0 := Lib.hid D4.out.kept
      have KA : Hid (∀ W, Kept w a b q (.slice p n c) (.slice p' m c') ds cs h g k g' k' t x y W → _) := Lib.hid fun W z => z.all HN.out HM.out
      have KR : Hid (∀ W, Kept w a b q (.slice p n c) (.slice p' m c') ds cs h g k g' k' t x y W → RowAt W (.slice (some ⟨x, 0, none⟩) n n) ds ∧ layC.Row W (.slice (some ⟨y, 0, none⟩) m m) cs) := Lib.hid fun W z => by
        have r1 := rowI z.rx (by rw [← HN.out]; exact hl)
        have r2 := rowC z.ry (by rw [← HM.out]; exact hl')
        rw [← HN.out] at r1
        rw [← HM.out] at r2
        exact ⟨r1, r2⟩
      have KD : Hid (∀ W j, Kept w a b q (.slice p n c) (.slice p' m c') ds cs h g k g' k' t x y W → j < n → (∃ x0 x1, (W.cell? ⟨g, j * 2, none⟩ = some x0 ∧ W.frozen? ⟨g, j * 2, none⟩ = false) ∧ (W.cell? ⟨g, j * 2 + 1, none⟩ = some x1 ∧ W.frozen? ⟨g, j * 2 + 1, none⟩ = false)) ∧ Kept w a b q (.slice p n c) (.slice p' m c') ds cs h g k g' k' t x y ((W.setCell ⟨g, j * 2, none⟩ (.int .i64 (-7))).setCell ⟨g, j * 2 + 1, none⟩ (.int .i64 0))) := Lib.hid fun W j z hj => by
        have hz : ds.length ≠ 0 := by rw [← HN.out]; omega
        obtain ⟨-, -, -, -, -, cur, hc, hs⟩ := z.dep.resolve_left hz
        rw [← HN.out] at hs
        obtain ⟨x0, e0⟩ := there hc (i := j * 2) (by omega)
        obtain ⟨x1, e1⟩ := there hc (i := j * 2 + 1) (by omega)
        exact ⟨⟨x0, x1, e0, e1⟩, z.dep1 hz ((Turned.set W g (j * 2) _ _).trans (Turned.set _ g (j * 2 + 1) _ _))⟩
      have KB : Hid (∀ W j, Kept w a b q (.slice p n c) (.slice p' m c') ds cs h g k g' k' t x y W → j < m → (∃ x0 x1 x2, (W.cell? ⟨g', j * 3, none⟩ = some x0 ∧ W.frozen? ⟨g', j * 3, none⟩ = false) ∧ (W.cell? ⟨g', j * 3 + 1, none⟩ = some x1 ∧ W.frozen? ⟨g', j * 3 + 1, none⟩ = false) ∧ (W.cell? ⟨g', j * 3 + 2, none⟩ = some x2 ∧ W.frozen? ⟨g', j * 3 + 2, none⟩ = false)) ∧ Kept w a b q (.slice p n c) (.slice p' m c') ds cs h g k g' k' t x y (((W.setCell ⟨g', j * 3, none⟩ (.int .i64 0)).setCell ⟨g', j * 3 + 1, none⟩ (.string ⟨#[63]⟩)).setCell ⟨g', j * 3 + 2, none⟩ (.float .f64 0))) := Lib.hid fun W j z hj => by
        have hz : cs.length ≠ 0 := by rw [← HM.out]; omega
        obtain ⟨-, -, -, -, -, cur, hc, hs⟩ := z.bat.resolve_left hz
        rw [← HM.out] at hs
        obtain ⟨x0, e0⟩ := there hc (i := j * 3) (by omega)
        obtain ⟨x1, e1⟩ := there hc (i := j * 3 + 1) (by omega)
        obtain ⟨x2, e2⟩ := there hc (i := j * 3 + 2) (by omega)
        exact ⟨⟨x0, x1, x2, e0, e1, e2⟩, z.bat1 hz (((Turned.set W g' (j * 3) _ _).trans (Turned.set _ g' (j * 3 + 1) _ _)).trans (Turned.set _ g' (j * 3 + 2) _ _))⟩
      obtain ⟨f0, f1, f2, f3, f4, f5, f6, f7, f8, f9, fa, fb, fc, fd, fe⟩ := KA.out _ K0.out
      clear GR GA C2 C3 C4 en zn zw D0 D1 D2 D3 D4 HG0 f0 f1 f2 f3 f4 f5 f6 f7 f8 f9 fa fb fc fe
      go_wp2
      go_loopw [5] (fun i wr => ∃ j : Nat, j ≤ n ∧ i = .int .i64 j ∧ Hid (Kept w a b q (.slice p n c) (.slice p' m c') ds cs h g k g' k' t x y wr)) (fun i _ => n - (intOf i).toNat)
      case atStart => exact ⟨0, Nat.zero_le _, rfl, K0⟩
      case round =>
        obtain ⟨j, hj, rfl, hk⟩ := hrel
        clear fd
        obtain ⟨-, -, -, -, -, -, -, -, -, -, -, -, -, fd, fe⟩ := KA.out _ hk.out
        by_cases hjn : j < n
        · obtain ⟨⟨x0, x1, ⟨q0, e0⟩, ⟨q1, e1⟩⟩, hk2⟩ := KD.out _ j hk.out hjn
          have HK2 := Lib.hid hk2
          have j0 : (0 : Int) ≤ j := by omega
          have jn : (j : Int) < n := by omega
          clear hk2 fe
          go_wp2
          go_roundw
          case rel => exact ⟨j + 1, by omega, by go_num, HK2⟩
          case measure => simp [intOf]; omega
        · have jn : ¬ (j : Int) < n := by omega
          obtain ⟨wq, hwq⟩ : ∃ wq, wq = wr := ⟨_, rfl⟩
          subst hwq
          go_wp2
          go_loopw [6] (fun i wr => ∃ l : Nat, l ≤ m ∧ i = .int .i64 l ∧ Hid (Kept w a b q (.slice p n c) (.slice p' m c') ds cs h g k g' k' t x y wr)) (fun i _ => m - (intOf i).toNat)
          case atStart => exact ⟨0, Nat.zero_le _, rfl, hk⟩
          case round =>
            obtain ⟨l, hl2, rfl, hk⟩ := hrel
            clear fd fe
            obtain ⟨t0, t1, t2, t3, t4, b0, b1, b2, b3, b4, -, -, -, -, fe⟩ := KA.out _ hk.out
            by_cases hlm : l < m
            · obtain ⟨⟨x0, x1, x2, ⟨q0, e0⟩, ⟨q1, e1⟩, ⟨q2, e2⟩⟩, hk2⟩ := KB.out _ l hk.out hlm
              have HK2 := Lib.hid hk2
              have l0 : (0 : Int) ≤ l := by omega
              have lm : (l : Int) < m := by omega
              clear hk2 t0 t1 t2 t3 t4 b0 b1 b2 b3 b4
              go_wp2
              go_roundw
              case rel => exact ⟨l + 1, by omega, by go_num, HK2⟩
              case measure => simp [intOf]; omega
            · have lm : ¬ (l : Int) < m := by omega
              obtain ⟨r1, r2⟩ := KR.out _ hk.out
              have HQ := Lib.hid (C1.out _ r1 r2 hk.out.box.below)
              clear r1 r2
              go_wp2_with (first
                | (go_at_call 7; (with_reducible refine HQ.out.mono ?_); rintro e w6 ⟨rfl, hb⟩; have D5 := Lib.hid (hk.out.box.on hb); clear hb)
                | (go_at_call 5; (with_reducible refine (HWK.out _).mono ?_); rintro e w7 ⟨rfl, hb⟩; have D6 := Lib.hid (D5.out.on hb); clear hb))
              go_ret
              exact ⟨rfl, D6.out.below⟩
end Go.Proofs.Ytkafhepgonidkaa.Rec
