/- What the document's Digest gives (layer 13, vault). Conditions: the list lies in memory as its cells say; numbers' words of 64 bits; texts of a length that Go reads, keys of at most 1000; at most 100000 commands in all. (Written by tools/gen_vauo.py.) -/
import Derived.Test.YtacgmhnalbbgbaaVauN
import Derived.Deep.DeepCutAuto
namespace Go.Proofs.Ytacgmhnalbbgbaa.Vau
open Go.RowKit F64 Cmd Bat Cel Wid Wir Dig Go.Maps Go.WideElems Go.ChangeMaps Go.Sort
set_option linter.unusedVariables false
set_option linter.unusedSimpArgs false

theorem own_big {w : World} {base : Nat} {v : Value} {n : Nat} (h : OwnB w base v (big n)) : ∃ ad c, v = .slice (some ad) (big n).length c := by
  rcases h.2 with ⟨rfl, h0⟩ | ⟨g, cap, cur, rfl, -⟩
  · rw [big_len] at h0; omega
  · exact ⟨_, _, rfl⟩
theorem step_sp {ops : Array Oper} {o : Oper} {a : Act} {w : World} {K : Act → World → Prop} {Q : Exit → Act → World → Prop} {E : Prop}
    (hw : Region.wanted o (yielded ops a.tmps) = true) (sl x : Operand) (ho : o.op = .call { callee := .builtin .append, args := #[sl, x], argTypes := #[88, 88] })
    (g cap : Nat) (s : Key) (hs : a.eval sl = .slice (some ⟨g, 0, none⟩) s.length cap) (h : Sp g cap s w) (hl : s.length ≤ 1000) (v : Value) (ys : List UInt8) (hx : a.eval x = v) (hv : ∃ ad c, v = .slice (some ad) ys.length c) (hu : layB.Row w v ys) (hy : ys.length ≤ 1000) (M : Nat) (hM : M ≤ g)
    (hK : ∀ v' w', Hid (layB.Row w' v' (s ++ ys)) → Hid (Below M w w') → K (a.put o.dst v') w') : if Region.wanted o (yielded ops a.tmps) = true then Oper.wp Try.prog o a w K Q else E := by
  rw [if_pos hw]
  obtain ⟨ad, c, rfl⟩ := hv
  obtain ⟨v', w', hr, r1, r2⟩ := run_spapp h hl o.type ad c ys hu hy hM
  unfold Oper.wp
  simp [execOp, ho, resolve, invoke, builtin, hs, hx, hr, Result.andThen]
  exact hK v' w' (Lib.hid r1) (Lib.hid r2)
theorem rbits_fit {f : Bool} {z : Nat} {c : Cell2} (h : Fit f z c) (W : World) : Calls Try.prog 61 #[.float .f64 z] W fun e w' => e = .returned (.int .u64 (canon c.2 : Nat)) ∧ W = w' := by
  have := Cod.bits_any z W h.lt
  rw [h.val] at this; exact this
theorem keysOf_len (xs : List Itm) : (keysOf xs).length ≤ (cmdsOf xs).length := Nat.le_trans (List.length_filter_le _ _) (allOf_len xs)
set_option maxHeartbeats 16000000 in
set_option maxRecDepth 100000 in
theorem rdigest_any (v : Value) (xs : List Itm) (w : World) (h : layT.Row w v xs) (hw : ∀ x ∈ xs, wfT x) (hl : (cmdsOf xs).length ≤ 100000) (hlen : ∀ s ∈ keysOf xs, s.length ≤ 1000) : Calls Try.prog 37 #[v] w (RetBelowN (digV (cellOf xs) (keysOf xs)) w) := by
  have CK := Lib.hid (rkeys_any v xs w h hw hl)
  have CC : Hid (∀ W s, Below w.heap.size w W → Calls Try.prog 21 #[v, .string (str s)] W (GivesFold (cellOf xs s) W)) := Lib.hid fun W s hb => rcell_any v xs s W (h.on hb) hw
  obtain ⟨px, capx, rfl, -⟩ := h
  generalize keysOf xs = zs at CK hlen ⊢
  obtain ⟨n, hn⟩ : ∃ n, n = zs.length := ⟨_, rfl⟩
  have HN := Lib.hid hn
  have HT : Hid (digV (cellOf xs) (zs.take n) = digV (cellOf xs) zs) := Lib.hid (by rw [hn, List.take_length])
  have HLEN := Lib.hid hlen
  generalize hr : digV (cellOf xs) zs = r at HT ⊢
  have HCX : Hid (∃ C : Key → Cell2, C = cellOf xs) := Lib.hid ⟨_, rfl⟩
  clear hw hl hlen hn hr
  obtain ⟨C, hC⟩ := HCX.out
  rw [← hC] at HT CC
  have CC2 : Hid (∀ W s, Below w.heap.size w W → Calls Try.prog 21 #[.slice px xs.length capx, .string (str s)] W (GivesFold (C s) W)) := Lib.hid fun W s hb => by rw [hC]; exact CC.out W s hb |>.mono (fun E w' h => by rw [hC] at h; exact h)
  clear CC hC HCX
  generalize xs.length = mx at CK CC2 ⊢
  go_enter Try.func37, Try.ntmps37
  go_wp2_with (first
    | (go_at_call 36; (with_reducible refine CK.out.mono ?_); rintro E wq ⟨v, rfl, hrow, hb⟩; have HB1 := Lib.hid hb; have HR1 := Lib.hid hrow; clear hb; obtain ⟨p, cap, rfl, h1, hd⟩ := hrow.parts; rw [← HN.out] at h1 hd ⊢; clear hrow))
  go_loopw [3, 5] (fun h i wr => ∃ k : Nat, k ≤ n ∧ i = .int .i64 k ∧ h = .int .u64 (digV C (zs.take k) : Nat) ∧ Hid (Below wq.heap.size wq wr)) (fun _ i _ => n - (intOf i).toNat)
  case atStart => exact ⟨0, Nat.zero_le _, rfl, rfl, Lib.hid (Below.refl _ _)⟩
  case round =>
    obtain ⟨k, hk, rfl, rfl, HB⟩ := hrel
    have k0 : (0 : Int) ≤ k := by omega
    by_cases hkn : k < n
    · have kn : (k : Int) < n := by omega
      obtain ⟨B, off, rfl, HI⟩ := hd.resolve_left (by omega)
      have hkx : k < zs.length := by rw [← HN.out]; exact hkn
      obtain ⟨s, hs⟩ : ∃ s, layS.at zs k = s := ⟨_, rfl⟩
      have HS : Hid (∀ W, Below wr.heap.size wr W → W.cell? ⟨B, off + k, none⟩ = some (.string (str s))) := Lib.hid fun W hb => cellS (HI.out.on (HB.out.trans (hb.mono HB.out.size))) hkx hs
      have HSL : Hid (s.length ≤ 1000) := Lib.hid (HLEN.out s (by rw [← hs]; exact layS.at_mem hkx))
      have HST := Lib.hid (digV_step C hkx)
      rw [hs] at HST
      obtain ⟨d, hdv⟩ : ∃ d, digV C (zs.take k) = d := ⟨_, rfl⟩
      have HD : Hid (d < 18446744073709551616) := Lib.hid (by rw [← hdv]; exact digV_lt _ _)
      rw [hdv] at HST ⊢
      have CG : Hid (∀ W, Below wr.heap.size wr W → Calls Try.prog 21 #[.slice px mx capx, .string (str s)] W (GivesFold (C s) W)) := Lib.hid fun W hb => CC2.out W s (HB1.out.trans ((HB.out.trans (hb.mono HB.out.size)).mono HB1.out.size))
      have HD1 : Hid (digS C d s = dg (big d ++ big (dg (s ++ big (canon (C s).2))))) := Lib.hid rfl
      rw [HD1.out] at HST
      have HB8 : Hid ((big (canon (C s).2)).length ≤ 1000) := Lib.hid (by rw [big_len]; omega)
      clear HD1 hd hkx hs hdv
      have HN0 := Lib.hid ((Below.refl wr.heap.size wr).drew)
      obtain ⟨q, hq⟩ : ∃ q, q = dg (s ++ big (canon (C s).2)) := ⟨_, rfl⟩
      have HQ := Lib.hid hq
      rw [← hq] at HST
      have HQL : Hid (q < 18446744073709551616) := Lib.hid (by rw [hq]; exact dg_lt _)
      clear hq
      go_upto_region 5 with fail
      go_cut [6] from 9 to 36 (fun o wx => o = .int .u64 (q : Int) ∧ Hid (Below wr.heap.size wr wx))
      case first =>
        refine wp_region_held_drew (S := (fun w' => w'.cell? ⟨B, off + k, none⟩ = some (.string (str s)))) (by kernel_rfl) (HS.out _ HN0.out) (fun hHeld => ?_)
        generalize wr.drew = W0 at HN0 hHeld ⊢
        refine wpAnyH_take (i := 0) (v := ?_) rfl (by kernel_rfl) (by kernel_rfl) (by kernel_rfl) (fun _ _ _ h => h) (Or.inl ⟨by rfl, fun w hSw => ?_⟩) (by assumption) ?_
        rotate_left
        · (try dsimp only at hSw); go_simp; (try with_reducible rfl)
        try simp only [List.getElem_toArray, List.getElem_cons_succ, List.getElem_cons_zero, Act.put, List.setIfInBounds_toArray, List.set_cons_zero, List.set_cons_succ]
        refine wpAnyH_take (i := 1) (v := ?_) rfl (by kernel_rfl) (by kernel_rfl) (by kernel_rfl) (fun _ _ _ h => h) (Or.inl ⟨by rfl, fun w hSw => ?_⟩) (by assumption) ?_
        rotate_left
        · (try dsimp only at hSw); go_simp; (try with_reducible rfl)
        try simp only [List.getElem_toArray, List.getElem_cons_succ, List.getElem_cons_zero, Act.put, List.setIfInBounds_toArray, List.set_cons_zero, List.set_cons_succ]
        refine wpAnyH_take (i := 2) (v := ?_) rfl (by kernel_rfl) (by kernel_rfl) (by kernel_rfl) (fun _ _ _ h => h) (Or.inl ⟨by rfl, fun w hSw => ?_⟩) (by assumption) ?_
        rotate_left
        · (try dsimp only at hSw); go_simp; (try with_reducible rfl)
        try simp only [List.getElem_toArray, List.getElem_cons_succ, List.getElem_cons_zero, Act.put, List.setIfInBounds_toArray, List.set_cons_zero, List.set_cons_succ]
        refine wpAnyH_take (i := 3) (v := ?_) rfl (by kernel_rfl) (by kernel_rfl) (by kernel_rfl) (fun _ _ _ h => h) (Or.inl ⟨by rfl, fun w hSw => ?_⟩) (by assumption) ?_
        rotate_left
        · (try dsimp only at hSw); go_simp; (try with_reducible rfl)
        try simp only [List.getElem_toArray, List.getElem_cons_succ, List.getElem_cons_zero, Act.put, List.setIfInBounds_toArray, List.set_cons_zero, List.set_cons_succ]
        refine wpAnyH_take (i := 5) (v := ?_) rfl (by kernel_rfl) (by kernel_rfl) (by kernel_rfl) (fun _ _ _ h => h) (Or.inl ⟨by rfl, fun w hSw => ?_⟩) (by assumption) ?_
        rotate_left
        · (try dsimp only at hSw); go_simp; (try with_reducible rfl)
        try simp only [List.getElem_toArray, List.getElem_cons_succ, List.getElem_cons_zero, Act.put, List.setIfInBounds_toArray, List.set_cons_zero, List.set_cons_succ]
        refine wpAnyH_take (i := 6) (v := ?_) rfl (by kernel_rfl) (by kernel_rfl) (by kernel_rfl) (fun _ _ _ h => h) (Or.inl ⟨by rfl, fun w hSw => ?_⟩) (by assumption) ?_
        rotate_left
        · (try dsimp only at hSw); go_simp; (try with_reducible rfl)
        try simp only [List.getElem_toArray, List.getElem_cons_succ, List.getElem_cons_zero, Act.put, List.setIfInBounds_toArray, List.set_cons_zero, List.set_cons_succ]
        refine wpAnyH_take (i := 7) (v := ?_) rfl (by kernel_rfl) (by kernel_rfl) (by kernel_rfl) (fun _ _ _ h => h) (Or.inl ⟨by rfl, fun w hSw => ?_⟩) (by assumption) ?_
        rotate_left
        · (try dsimp only at hSw); go_simp; (try with_reducible rfl)
        try simp only [List.getElem_toArray, List.getElem_cons_succ, List.getElem_cons_zero, Act.put, List.setIfInBounds_toArray, List.set_cons_zero, List.set_cons_succ]
        refine wpAnyH_take (i := 8) (v := ?_) rfl (by kernel_rfl) (by kernel_rfl) (by kernel_rfl) (fun _ _ _ h => h) (Or.inl ⟨by rfl, fun w hSw => ?_⟩) (by assumption) ?_
        rotate_left
        · (try dsimp only at hSw); go_simp; (try with_reducible rfl)
        try simp only [List.getElem_toArray, List.getElem_cons_succ, List.getElem_cons_zero, Act.put, List.setIfInBounds_toArray, List.set_cons_zero, List.set_cons_succ]
        refine wpAnyH_take (i := 9) (v := ?_) rfl (by kernel_rfl) (by kernel_rfl) (by kernel_rfl) (fun _ _ _ h => h) (Or.inl ⟨by rfl, fun w hSw => ?_⟩) (by assumption) ?_
        rotate_left
        · (try dsimp only at hSw); go_simp; (try with_reducible rfl)
        try simp only [List.getElem_toArray, List.getElem_cons_succ, List.getElem_cons_zero, Act.put, List.setIfInBounds_toArray, List.set_cons_zero, List.set_cons_succ]
        refine wpAnyH_ready (rs := [4, 10]) (by kernel_rfl) (by simp) ?_
        refine AllReadyH.cons rfl (fun K hK => ?_) ?_
        · obtain ⟨capc, W1, hcv, hsp, hbc⟩ := run_bytes s HSL.out W0
          go_simp
          have HN1 := Lib.hid (HN0.out.trans (hbc.mono HN0.out.size))
          have SP1 := Lib.hid hsp
          have HGE : Hid (wr.heap.size ≤ W0.heap.size) := Lib.hid HN0.out.size
          refine hK.out _ _ ?_ (fun hHeld => ?_)
          · exact HS.out _ HN1.out
          clear hK K
          clear hcv hsp hbc
          try simp only [List.getElem_toArray, List.getElem_cons_succ, List.getElem_cons_zero, Act.put, List.setIfInBounds_toArray, List.set_cons_zero, List.set_cons_succ]
          refine wpAnyH_ready (rs := [10]) (by kernel_rfl) (by simp) ?_
          refine AllReadyH.cons rfl (fun K hK => ?_) ?_
          · go_simp
            (go_at_call 21; (with_reducible refine (CG.out _ HN1.out).mono ?_); rintro E W2 ⟨f1, z1, rfl, hf, hb⟩; have CB := Lib.hid (rbits_fit hf); have HCL := Lib.hid (canon_fit hf); have HN2 := Lib.hid (HN1.out.trans (hb.mono HN1.out.size)); have SP2 := Lib.hid (SP1.out.on hb); clear hf hb)
            refine hK.out _ _ ?_ (fun hHeld => ?_)
            · exact HS.out _ HN2.out
            clear hK K
            try simp only [List.getElem_toArray, List.getElem_cons_succ, List.getElem_cons_zero, Act.put, List.setIfInBounds_toArray, List.set_cons_zero, List.set_cons_succ]
            refine wpAnyH_take (i := 11) (v := ?_) rfl (by kernel_rfl) (by kernel_rfl) (by kernel_rfl) (fun _ _ _ h => h) (Or.inl ⟨by rfl, fun w hSw => ?_⟩) (by assumption) ?_
            rotate_left
            · (try dsimp only at hSw); go_simp; (try with_reducible rfl)
            try simp only [List.getElem_toArray, List.getElem_cons_succ, List.getElem_cons_zero, Act.put, List.setIfInBounds_toArray, List.set_cons_zero, List.set_cons_succ]
            refine wpAnyH_ready (rs := [12]) (by kernel_rfl) (by simp) ?_
            refine AllReadyH.cons rfl (fun K hK => ?_) ?_
            · go_simp
              (go_at_call 61; (with_reducible refine (CB.out _).mono ?_); rintro E W3 ⟨rfl, rfl⟩; have CBG := Lib.hid (fun W => Wir.big_any (canon (C s).2) W HCL.out); have HN3 := HN2)
              refine hK.out _ _ ?_ (fun hHeld => ?_)
              · exact HS.out _ HN3.out
              clear hK K
              try simp only [List.getElem_toArray, List.getElem_cons_succ, List.getElem_cons_zero, Act.put, List.setIfInBounds_toArray, List.set_cons_zero, List.set_cons_succ]
              refine wpAnyH_ready (rs := [13]) (by kernel_rfl) (by simp) ?_
              refine AllReadyH.cons rfl (fun K hK => ?_) ?_
              · go_simp
                (go_at_call 60; (with_reducible refine (CBG.out _).mono ?_); rintro E W3 ⟨v4, rfl, ho, hb⟩; have HN3 := Lib.hid (HN2.out.trans (hb.mono HN2.out.size)); have SP3 := Lib.hid (SP2.out.on hb); have OW3 := Lib.hid ho; clear ho hb)
                refine hK.out _ _ ?_ (fun hHeld => ?_)
                · exact HS.out _ HN3.out
                clear hK K
                try simp only [List.getElem_toArray, List.getElem_cons_succ, List.getElem_cons_zero, Act.put, List.setIfInBounds_toArray, List.set_cons_zero, List.set_cons_succ]
                refine wpAnyH_ready (rs := [14]) (by kernel_rfl) (by simp) ?_
                refine AllReadyH.cons rfl (fun K hK => ?_) ?_
                · refine step_sp (by kernel_rfl) _ _ rfl _ _ s rfl SP3.out HSL.out _ _ rfl (own_big OW3.out) (rowB OW3.out) HB8.out wr.heap.size HGE.out ?_
                  intro v5 W4 HR5 HB5
                  have HN4 := Lib.hid (HN3.out.trans HB5.out)
                  have CO := Lib.hid (refof_any v5 _ W4 HR5.out)
                  rw [← HQ.out] at CO
                  refine hK.out _ _ ?_ (fun hHeld => ?_)
                  · exact HS.out _ HN4.out
                  clear hK K
                  try simp only [List.getElem_toArray, List.getElem_cons_succ, List.getElem_cons_zero, Act.put, List.setIfInBounds_toArray, List.set_cons_zero, List.set_cons_succ]
                  refine wpAnyH_ready (rs := [15]) (by kernel_rfl) (by simp) ?_
                  refine AllReadyH.cons rfl (fun K hK => ?_) ?_
                  · go_simp
                    (go_at_call 59; (with_reducible refine CO.out.mono ?_); rintro E W5 ⟨rfl, rfl⟩; have HN5 := HN4)
                    refine hK.out _ _ ?_ (fun hHeld => ?_)
                    · exact HS.out _ HN5.out
                    clear hK K
                    try simp only [List.getElem_toArray, List.getElem_cons_succ, List.getElem_cons_zero, Act.put, List.setIfInBounds_toArray, List.set_cons_zero, List.set_cons_succ]
                    refine wpAnyH_take (i := 16) (v := ?_) rfl (by kernel_rfl) (by kernel_rfl) (by kernel_rfl) (fun _ _ _ h => h) (Or.inl ⟨by rfl, fun w hSw => ?_⟩) (by assumption) ?_
                    rotate_left
                    · (try dsimp only at hSw); go_simp; (try with_reducible rfl)
                    try simp only [List.getElem_toArray, List.getElem_cons_succ, List.getElem_cons_zero, Act.put, List.setIfInBounds_toArray, List.set_cons_zero, List.set_cons_succ]
                    refine wpAnyH_done (by kernel_rfl) ?_ _
                    go_wp2_with fail
                    go_meet
                    case rel => exact ⟨rfl, HN5⟩
                  exact AllReadyH.nil
                exact AllReadyH.nil
              exact AllReadyH.nil
            exact AllReadyH.nil
          exact AllReadyH.nil
        refine AllReadyH.cons rfl (fun K hK => ?_) ?_
        · go_simp
          (go_at_call 21; (with_reducible refine (CG.out _ HN0.out).mono ?_); rintro E W1 ⟨f1, z1, rfl, hf, hb⟩; have CB := Lib.hid (rbits_fit hf); have HCL := Lib.hid (canon_fit hf); have HN1 := Lib.hid (HN0.out.trans (hb.mono HN0.out.size)); clear hf hb)
          refine hK.out _ _ ?_ (fun hHeld => ?_)
          · exact HS.out _ HN1.out
          clear hK K
          try simp only [List.getElem_toArray, List.getElem_cons_succ, List.getElem_cons_zero, Act.put, List.setIfInBounds_toArray, List.set_cons_zero, List.set_cons_succ]
          refine wpAnyH_take (i := 11) (v := ?_) rfl (by kernel_rfl) (by kernel_rfl) (by kernel_rfl) (fun _ _ _ h => h) (Or.inl ⟨by rfl, fun w hSw => ?_⟩) (by assumption) ?_
          rotate_left
          · (try dsimp only at hSw); go_simp; (try with_reducible rfl)
          try simp only [List.getElem_toArray, List.getElem_cons_succ, List.getElem_cons_zero, Act.put, List.setIfInBounds_toArray, List.set_cons_zero, List.set_cons_succ]
          refine wpAnyH_ready (rs := [4, 12]) (by kernel_rfl) (by simp) ?_
          refine AllReadyH.cons rfl (fun K hK => ?_) ?_
          · obtain ⟨capc, W2, hcv, hsp, hbc⟩ := run_bytes s HSL.out W1
            go_simp
            have HN2 := Lib.hid (HN1.out.trans (hbc.mono HN1.out.size))
            have SP2 := Lib.hid hsp
            have HGE : Hid (wr.heap.size ≤ W1.heap.size) := Lib.hid HN1.out.size
            refine hK.out _ _ ?_ (fun hHeld => ?_)
            · exact HS.out _ HN2.out
            clear hK K
            clear hcv hsp hbc
            try simp only [List.getElem_toArray, List.getElem_cons_succ, List.getElem_cons_zero, Act.put, List.setIfInBounds_toArray, List.set_cons_zero, List.set_cons_succ]
            refine wpAnyH_ready (rs := [12]) (by kernel_rfl) (by simp) ?_
            refine AllReadyH.cons rfl (fun K hK => ?_) ?_
            · go_simp
              (go_at_call 61; (with_reducible refine (CB.out _).mono ?_); rintro E W3 ⟨rfl, rfl⟩; have CBG := Lib.hid (fun W => Wir.big_any (canon (C s).2) W HCL.out); have HN3 := HN2)
              refine hK.out _ _ ?_ (fun hHeld => ?_)
              · exact HS.out _ HN3.out
              clear hK K
              try simp only [List.getElem_toArray, List.getElem_cons_succ, List.getElem_cons_zero, Act.put, List.setIfInBounds_toArray, List.set_cons_zero, List.set_cons_succ]
              refine wpAnyH_ready (rs := [13]) (by kernel_rfl) (by simp) ?_
              refine AllReadyH.cons rfl (fun K hK => ?_) ?_
              · go_simp
                (go_at_call 60; (with_reducible refine (CBG.out _).mono ?_); rintro E W3 ⟨v4, rfl, ho, hb⟩; have HN3 := Lib.hid (HN2.out.trans (hb.mono HN2.out.size)); have SP3 := Lib.hid (SP2.out.on hb); have OW3 := Lib.hid ho; clear ho hb)
                refine hK.out _ _ ?_ (fun hHeld => ?_)
                · exact HS.out _ HN3.out
                clear hK K
                try simp only [List.getElem_toArray, List.getElem_cons_succ, List.getElem_cons_zero, Act.put, List.setIfInBounds_toArray, List.set_cons_zero, List.set_cons_succ]
                refine wpAnyH_ready (rs := [14]) (by kernel_rfl) (by simp) ?_
                refine AllReadyH.cons rfl (fun K hK => ?_) ?_
                · refine step_sp (by kernel_rfl) _ _ rfl _ _ s rfl SP3.out HSL.out _ _ rfl (own_big OW3.out) (rowB OW3.out) HB8.out wr.heap.size HGE.out ?_
                  intro v5 W4 HR5 HB5
                  have HN4 := Lib.hid (HN3.out.trans HB5.out)
                  have CO := Lib.hid (refof_any v5 _ W4 HR5.out)
                  rw [← HQ.out] at CO
                  refine hK.out _ _ ?_ (fun hHeld => ?_)
                  · exact HS.out _ HN4.out
                  clear hK K
                  try simp only [List.getElem_toArray, List.getElem_cons_succ, List.getElem_cons_zero, Act.put, List.setIfInBounds_toArray, List.set_cons_zero, List.set_cons_succ]
                  refine wpAnyH_ready (rs := [15]) (by kernel_rfl) (by simp) ?_
                  refine AllReadyH.cons rfl (fun K hK => ?_) ?_
                  · go_simp
                    (go_at_call 59; (with_reducible refine CO.out.mono ?_); rintro E W5 ⟨rfl, rfl⟩; have HN5 := HN4)
                    refine hK.out _ _ ?_ (fun hHeld => ?_)
                    · exact HS.out _ HN5.out
                    clear hK K
                    try simp only [List.getElem_toArray, List.getElem_cons_succ, List.getElem_cons_zero, Act.put, List.setIfInBounds_toArray, List.set_cons_zero, List.set_cons_succ]
                    refine wpAnyH_take (i := 16) (v := ?_) rfl (by kernel_rfl) (by kernel_rfl) (by kernel_rfl) (fun _ _ _ h => h) (Or.inl ⟨by rfl, fun w hSw => ?_⟩) (by assumption) ?_
                    rotate_left
                    · (try dsimp only at hSw); go_simp; (try with_reducible rfl)
                    try simp only [List.getElem_toArray, List.getElem_cons_succ, List.getElem_cons_zero, Act.put, List.setIfInBounds_toArray, List.set_cons_zero, List.set_cons_succ]
                    refine wpAnyH_done (by kernel_rfl) ?_ _
                    go_wp2_with fail
                    go_meet
                    case rel => exact ⟨rfl, HN5⟩
                  exact AllReadyH.nil
                exact AllReadyH.nil
              exact AllReadyH.nil
            exact AllReadyH.nil
          refine AllReadyH.cons rfl (fun K hK => ?_) ?_
          · go_simp
            (go_at_call 61; (with_reducible refine (CB.out _).mono ?_); rintro E W2 ⟨rfl, rfl⟩; have CBG := Lib.hid (fun W => Wir.big_any (canon (C s).2) W HCL.out); have HN2 := HN1)
            refine hK.out _ _ ?_ (fun hHeld => ?_)
            · exact HS.out _ HN2.out
            clear hK K
            try simp only [List.getElem_toArray, List.getElem_cons_succ, List.getElem_cons_zero, Act.put, List.setIfInBounds_toArray, List.set_cons_zero, List.set_cons_succ]
            refine wpAnyH_ready (rs := [4, 13]) (by kernel_rfl) (by simp) ?_
            refine AllReadyH.cons rfl (fun K hK => ?_) ?_
            · obtain ⟨capc, W2, hcv, hsp, hbc⟩ := run_bytes s HSL.out W1
              go_simp
              have HN2 := Lib.hid (HN1.out.trans (hbc.mono HN1.out.size))
              have SP2 := Lib.hid hsp
              have HGE : Hid (wr.heap.size ≤ W1.heap.size) := Lib.hid HN1.out.size
              refine hK.out _ _ ?_ (fun hHeld => ?_)
              · exact HS.out _ HN2.out
              clear hK K
              clear hcv hsp hbc
              try simp only [List.getElem_toArray, List.getElem_cons_succ, List.getElem_cons_zero, Act.put, List.setIfInBounds_toArray, List.set_cons_zero, List.set_cons_succ]
              refine wpAnyH_ready (rs := [13]) (by kernel_rfl) (by simp) ?_
              refine AllReadyH.cons rfl (fun K hK => ?_) ?_
              · go_simp
                (go_at_call 60; (with_reducible refine (CBG.out _).mono ?_); rintro E W3 ⟨v4, rfl, ho, hb⟩; have HN3 := Lib.hid (HN2.out.trans (hb.mono HN2.out.size)); have SP3 := Lib.hid (SP2.out.on hb); have OW3 := Lib.hid ho; clear ho hb)
                refine hK.out _ _ ?_ (fun hHeld => ?_)
                · exact HS.out _ HN3.out
                clear hK K
                try simp only [List.getElem_toArray, List.getElem_cons_succ, List.getElem_cons_zero, Act.put, List.setIfInBounds_toArray, List.set_cons_zero, List.set_cons_succ]
                refine wpAnyH_ready (rs := [14]) (by kernel_rfl) (by simp) ?_
                refine AllReadyH.cons rfl (fun K hK => ?_) ?_
                · refine step_sp (by kernel_rfl) _ _ rfl _ _ s rfl SP3.out HSL.out _ _ rfl (own_big OW3.out) (rowB OW3.out) HB8.out wr.heap.size HGE.out ?_
                  intro v5 W4 HR5 HB5
                  have HN4 := Lib.hid (HN3.out.trans HB5.out)
                  have CO := Lib.hid (refof_any v5 _ W4 HR5.out)
                  rw [← HQ.out] at CO
                  refine hK.out _ _ ?_ (fun hHeld => ?_)
                  · exact HS.out _ HN4.out
                  clear hK K
                  try simp only [List.getElem_toArray, List.getElem_cons_succ, List.getElem_cons_zero, Act.put, List.setIfInBounds_toArray, List.set_cons_zero, List.set_cons_succ]
                  refine wpAnyH_ready (rs := [15]) (by kernel_rfl) (by simp) ?_
                  refine AllReadyH.cons rfl (fun K hK => ?_) ?_
                  · go_simp
                    (go_at_call 59; (with_reducible refine CO.out.mono ?_); rintro E W5 ⟨rfl, rfl⟩; have HN5 := HN4)
                    refine hK.out _ _ ?_ (fun hHeld => ?_)
                    · exact HS.out _ HN5.out
                    clear hK K
                    try simp only [List.getElem_toArray, List.getElem_cons_succ, List.getElem_cons_zero, Act.put, List.setIfInBounds_toArray, List.set_cons_zero, List.set_cons_succ]
                    refine wpAnyH_take (i := 16) (v := ?_) rfl (by kernel_rfl) (by kernel_rfl) (by kernel_rfl) (fun _ _ _ h => h) (Or.inl ⟨by rfl, fun w hSw => ?_⟩) (by assumption) ?_
                    rotate_left
                    · (try dsimp only at hSw); go_simp; (try with_reducible rfl)
                    try simp only [List.getElem_toArray, List.getElem_cons_succ, List.getElem_cons_zero, Act.put, List.setIfInBounds_toArray, List.set_cons_zero, List.set_cons_succ]
                    refine wpAnyH_done (by kernel_rfl) ?_ _
                    go_wp2_with fail
                    go_meet
                    case rel => exact ⟨rfl, HN5⟩
                  exact AllReadyH.nil
                exact AllReadyH.nil
              exact AllReadyH.nil
            refine AllReadyH.cons rfl (fun K hK => ?_) ?_
            · go_simp
              (go_at_call 60; (with_reducible refine (CBG.out _).mono ?_); rintro E W2 ⟨v4, rfl, ho, hb⟩; have HN2 := Lib.hid (HN1.out.trans (hb.mono HN1.out.size)); have OW2 := Lib.hid ho; clear ho hb)
              refine hK.out _ _ ?_ (fun hHeld => ?_)
              · exact HS.out _ HN2.out
              clear hK K
              try simp only [List.getElem_toArray, List.getElem_cons_succ, List.getElem_cons_zero, Act.put, List.setIfInBounds_toArray, List.set_cons_zero, List.set_cons_succ]
              refine wpAnyH_ready (rs := [4]) (by kernel_rfl) (by simp) ?_
              refine AllReadyH.cons rfl (fun K hK => ?_) ?_
              · obtain ⟨capc, W3, hcv, hsp, hbc⟩ := run_bytes s HSL.out W2
                go_simp
                have HN3 := Lib.hid (HN2.out.trans (hbc.mono HN2.out.size))
                have SP3 := Lib.hid hsp
                have HGE : Hid (wr.heap.size ≤ W2.heap.size) := Lib.hid HN2.out.size
                have OW3 := Lib.hid (own_below OW2.out hbc)
                refine hK.out _ _ ?_ (fun hHeld => ?_)
                · exact HS.out _ HN3.out
                clear hK K
                clear hcv hsp hbc
                try simp only [List.getElem_toArray, List.getElem_cons_succ, List.getElem_cons_zero, Act.put, List.setIfInBounds_toArray, List.set_cons_zero, List.set_cons_succ]
                refine wpAnyH_ready (rs := [14]) (by kernel_rfl) (by simp) ?_
                refine AllReadyH.cons rfl (fun K hK => ?_) ?_
                · refine step_sp (by kernel_rfl) _ _ rfl _ _ s rfl SP3.out HSL.out _ _ rfl (own_big OW3.out) (rowB OW3.out) HB8.out wr.heap.size HGE.out ?_
                  intro v5 W4 HR5 HB5
                  have HN4 := Lib.hid (HN3.out.trans HB5.out)
                  have CO := Lib.hid (refof_any v5 _ W4 HR5.out)
                  rw [← HQ.out] at CO
                  refine hK.out _ _ ?_ (fun hHeld => ?_)
                  · exact HS.out _ HN4.out
                  clear hK K
                  try simp only [List.getElem_toArray, List.getElem_cons_succ, List.getElem_cons_zero, Act.put, List.setIfInBounds_toArray, List.set_cons_zero, List.set_cons_succ]
                  refine wpAnyH_ready (rs := [15]) (by kernel_rfl) (by simp) ?_
                  refine AllReadyH.cons rfl (fun K hK => ?_) ?_
                  · go_simp
                    (go_at_call 59; (with_reducible refine CO.out.mono ?_); rintro E W5 ⟨rfl, rfl⟩; have HN5 := HN4)
                    refine hK.out _ _ ?_ (fun hHeld => ?_)
                    · exact HS.out _ HN5.out
                    clear hK K
                    try simp only [List.getElem_toArray, List.getElem_cons_succ, List.getElem_cons_zero, Act.put, List.setIfInBounds_toArray, List.set_cons_zero, List.set_cons_succ]
                    refine wpAnyH_take (i := 16) (v := ?_) rfl (by kernel_rfl) (by kernel_rfl) (by kernel_rfl) (fun _ _ _ h => h) (Or.inl ⟨by rfl, fun w hSw => ?_⟩) (by assumption) ?_
                    rotate_left
                    · (try dsimp only at hSw); go_simp; (try with_reducible rfl)
                    try simp only [List.getElem_toArray, List.getElem_cons_succ, List.getElem_cons_zero, Act.put, List.setIfInBounds_toArray, List.set_cons_zero, List.set_cons_succ]
                    refine wpAnyH_done (by kernel_rfl) ?_ _
                    go_wp2_with fail
                    go_meet
                    case rel => exact ⟨rfl, HN5⟩
                  exact AllReadyH.nil
                exact AllReadyH.nil
              exact AllReadyH.nil
            exact AllReadyH.nil
          exact AllReadyH.nil
        exact AllReadyH.nil
      case rest =>
        obtain ⟨rfl, HNX⟩ := hcut
        have CB1 : Hid (∀ W, Calls Try.prog 60 #[.int .u64 (d : Int)] W (GivesB (big d) W)) := Lib.hid fun W => Wir.big_any d W HD.out
        have CB2 : Hid (∀ W, Calls Try.prog 60 #[.int .u64 (q : Int)] W (GivesB (big q) W)) := Lib.hid fun W => Wir.big_any q W HQL.out
        have HB16 : Hid ((big d).length + (big q).length ≤ 1000000) := Lib.hid (by rw [big_len, big_len]; omega)
        have HSIZ : Hid (wr.heap.size ≤ wc.heap.size) := Lib.hid HNX.out.size
        go_wp2_with (first
          | (go_at_call 60; (with_reducible refine (CB1.out _).mono ?_); rintro E y1 ⟨v1, rfl, ho, hb⟩; have O1 := Lib.hid ho; have Z1 := Lib.hid hb.size; have N1 := Lib.hid (HNX.out.trans (hb.mono HNX.out.size)); clear ho hb)
          | (go_at_call 60; (with_reducible refine (CB2.out _).mono ?_); rintro E y2 ⟨v2, rfl, ho, hb⟩; have O2 := Lib.hid ho; have P1 := Lib.hid (own_below O1.out hb); have N2 := Lib.hid (N1.out.trans (hb.mono N1.out.size)); have hz2 : wc.heap.size ≤ y2.heap.size := Nat.le_trans Z1.out hb.size; clear ho hb)
          | (at_builtin; refine wp_rows rfl _ _ rfl wc.heap.size _ _ rfl P1.out hz2 _ _ rfl (rowB O2.out) HB16.out ?_; intro v3 y3 HO3 HB3; have N3 := Lib.hid (N2.out.trans (HB3.out.mono HSIZ.out)); have CO2 := Lib.hid (refof_any v3 _ y3 (rowB HO3.out)); rw [← HST.out] at CO2)
          | (go_at_call 59; (with_reducible refine CO2.out.mono ?_); rintro E y4 ⟨rfl, rfl⟩))
        go_roundw
        case rel => exact ⟨k + 1, by omega, by go_num, rfl, Lib.hid (HB.out.trans (N3.out.mono HB.out.size))⟩
        case measure => simp [intOf]; omega
    · obtain rfl : k = n := by omega
      have kn : ¬ (k : Int) < k := by omega
      clear hd
      rw [HT.out]
      go_wp2
      go_ret
      exact ⟨rfl, HB1.out.trans (HB.out.mono HB1.out.size)⟩
end Go.Proofs.Ytacgmhnalbbgbaa.Vau
