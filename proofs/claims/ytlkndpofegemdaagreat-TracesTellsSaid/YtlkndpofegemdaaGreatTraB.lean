/- What the document's Conflict gives over two lists of ids (layer 19, traces). Conditions: records and lists lie in memory as their cells say; ids and numbers' words of 64 bits, texts of a length that Go reads. -/
import Derived.Test.YtlkndpofegemdaaGreatTraA
import Derived.Test.YtlkndpofegemdaaGreatBatE
import Derived.Test.YtlkndpofegemdaaGreatReg
namespace Go.Proofs.YtlkndpofegemdaaGreat.Tra
open Go.RowKit Cmd Bat Ids Rec Wid Gra Rea Cps
set_option linter.unusedVariables false
set_option linter.unusedSimpArgs false

theorem bconf_nil (xs : List Cmdn) : bConf xs [] = false := by
  unfold bConf
  rw [List.any_eq_false]
  intro x _
  rw [List.any_nil]; exact Bool.false_ne_true
set_option maxRecDepth 100000 in
set_option maxHeartbeats 8000000 in
theorem refconflict_any (v u x : Value) (rs : List Rcd) (a b : List Idn) (w : World) (h : layG.Row w v rs) (g : RowAt w u a) (g' : RowAt w x b) (hw : ∀ r ∈ rs, wfG r) :
    Calls Tryz.prog 14 #[v, u, x] w (RetBelow (.bool (confG rs a b)) w) := by
  obtain ⟨p, cap, rfl, h1, hd⟩ := h.parts
  have HRW := Lib.hid h
  have HWF := Lib.hid hw
  obtain ⟨n, hn⟩ : ∃ n, n = rs.length := ⟨_, rfl⟩
  rw [← hn] at h1 hd HRW ⊢
  have HN := Lib.hid hn
  obtain ⟨po, co, rfl, hlo, hdo⟩ := Rec.RowAt.parts g
  obtain ⟨m, hm⟩ : ∃ m, m = a.length := ⟨_, rfl⟩
  have HM := Lib.hid hm
  rw [← hm] at hlo hdo ⊢
  obtain ⟨pq, cq, rfl, hlq, hdq⟩ := Rec.RowAt.parts g'
  obtain ⟨l, hl⟩ : ∃ l, l = b.length := ⟨_, rfl⟩
  have HL := Lib.hid hl
  rw [← hl] at hlq hdq ⊢
  clear h g g' hn hm hl hw
  go_enter Tryz.func14, Tryz.ntmps14
  go_wp2
  go_loopw [7] (fun i wr => ∃ k : Nat, k ≤ m ∧ i = .int .i64 k ∧ Hid (Below w.heap.size w wr) ∧ Hid (∀ x ∈ a.take k, ∀ y ∈ b, bConf (csG rs x) (csG rs y) = false)) (fun i _ => m - (intOf i).toNat)
  case atStart => exact ⟨0, Nat.zero_le _, rfl, Lib.hid (Below.refl _ _), Lib.hid (fun z hz => by simp at hz)⟩
  case round =>
    obtain ⟨k, hk, rfl, hbW, hS⟩ := hrel
    have k0 : (0 : Int) ≤ k := by omega
    by_cases hkm : k < m
    · have km : (k : Int) < m := by omega
      obtain ⟨B, off, rfl, HC⟩ := hdo.resolve_left (by omega)
      have hkz : k < a.length := by rw [← HM.out]; exact hkm
      obtain ⟨⟨y, z⟩, hxy⟩ : ∃ q, nth a k = q := ⟨_, rfl⟩
      have HZ := Lib.hid (show (y, z) ∈ a ∧ a.take (k + 1) = a.take k ++ [(y, z)] from ⟨by rw [← hxy]; exact nth_mem hkz, by rw [take_nth hkz, hxy]⟩)
      clear hdo
      go_wp2
      go_loopw [8] (fun i wr => ∃ t : Nat, t ≤ l ∧ i = .int .i64 t ∧ Hid (∀ c ∈ b.take t, bConf (csG rs (y, z)) (csG rs c) = false) ∧ Hid (Below w.heap.size w wr)) (fun i _ => l - (intOf i).toNat)
      case atStart => exact ⟨0, Nat.zero_le _, rfl, Lib.hid (fun d hd => by simp at hd), hbW⟩
      case round =>
        obtain ⟨t, ht, rfl, hT, hb2⟩ := hrel
        have t0 : (0 : Int) ≤ t := by omega
        by_cases htl : t < l
        · have tl : (t : Int) < l := by omega
          obtain ⟨B', off', rfl, HC'⟩ := hdq.resolve_left (by omega)
          have htz : t < b.length := by rw [← HL.out]; exact htl
          obtain ⟨⟨y', z'⟩, hxy'⟩ : ∃ q, nth b t = q := ⟨_, rfl⟩
          have c0 := (HC.out.on hb2.out).fst k hkz
          have c1 := (HC.out.on hb2.out).snd k hkz
          rw [hxy] at c0 c1
          have d0 := (HC'.out.on hb2.out).fst t htz
          have d1 := (HC'.out.on hb2.out).snd t htz
          rw [hxy'] at d0 d1
          have HZ' := Lib.hid (show (y', z') ∈ b ∧ b.take (t + 1) = b.take t ++ [(y', z')] from ⟨by rw [← hxy']; exact nth_mem htz, by rw [take_nth htz, hxy']⟩)
          have HLA := Lib.hid ((HC.out.on hb2.out).lt)
          have HLB := Lib.hid ((HC'.out.on hb2.out).lt)
          have HS : Hid (∀ w', Below wr.heap.size wr w' → w'.cell? ⟨B, off + k * 2, none⟩ = some (.int .i64 y) ∧ w'.cell? ⟨B, off + k * 2 + 1, none⟩ = some (.int .i64 z) ∧ w'.cell? ⟨B', off' + t * 2, none⟩ = some (.int .i64 y') ∧ w'.cell? ⟨B', off' + t * 2 + 1, none⟩ = some (.int .i64 z')) := Lib.hid (fun w' hw =>
            ⟨(hw.cell (p := ⟨B, off + k * 2, none⟩) HLA.out).trans c0, (hw.cell (p := ⟨B, off + k * 2 + 1, none⟩) HLA.out).trans c1, (hw.cell (p := ⟨B', off' + t * 2, none⟩) HLB.out).trans d0, (hw.cell (p := ⟨B', off' + t * 2 + 1, none⟩) HLB.out).trans d1⟩)
          have HF1 := Lib.hid (fun W (hb : Below wr.heap.size wr W) => find_any _ rs y z W (HRW.out.on (hb2.out.trans (hb.mono hb2.out.size))))
          have HF2 := Lib.hid (fun W (hb : Below wr.heap.size wr W) => find_any _ rs y' z' W (HRW.out.on (hb2.out.trans (hb.mono hb2.out.size))))
          have HQ1 : Hid (∃ f, f = findG rs (y, z)) := Lib.hid ⟨_, rfl⟩
          obtain ⟨f1, hf1⟩ := HQ1.out
          obtain ⟨f2, hf2⟩ : ∃ f, f = findG rs (y', z') := ⟨_, rfl⟩
          rw [← hf1] at HF1
          rw [← hf2] at HF2
          have HE1 := Lib.hid hf1
          have HE2 := Lib.hid hf2
          have DY0 : Hid (Below wr.heap.size wr wr.drew) := Lib.hid (Below.refl _ _).drew
          clear hdq c0 c1 d0 d1 hxy' htz hf1 hf2 HQ1
          go_wp2_with fail
          refine wp_region_held_drew (S := (fun w' => w'.cell? ⟨B, off + k * 2, none⟩ = some (.int .i64 y) ∧ w'.cell? ⟨B, off + k * 2 + 1, none⟩ = some (.int .i64 z) ∧ w'.cell? ⟨B', off' + t * 2, none⟩ = some (.int .i64 y') ∧ w'.cell? ⟨B', off' + t * 2 + 1, none⟩ = some (.int .i64 z'))) (by kernel_rfl) (HS.out _ DY0.out) (fun hHeld => ?_)
          generalize wr.drew = Y0 at DY0 hHeld ⊢
          refine ty (v := ?_) 0 (fun w hSw => ?_) ?_
          rotate_left
          · (try dsimp only at hSw); go_simp; (try with_reducible rfl)
          try simp only [List.getElem_toArray, List.getElem_cons_succ, List.getElem_cons_zero, Act.put, List.setIfInBounds_toArray, List.set_cons_zero, List.set_cons_succ]
          refine ty (v := ?_) 1 (fun w hSw => ?_) ?_
          rotate_left
          · (try dsimp only at hSw); go_simp; (try with_reducible rfl)
          try simp only [List.getElem_toArray, List.getElem_cons_succ, List.getElem_cons_zero, Act.put, List.setIfInBounds_toArray, List.set_cons_zero, List.set_cons_succ]
          refine ty (v := ?_) 2 (fun w hSw => ?_) ?_
          rotate_left
          · (try dsimp only at hSw); go_simp; (try with_reducible rfl)
          try simp only [List.getElem_toArray, List.getElem_cons_succ, List.getElem_cons_zero, Act.put, List.setIfInBounds_toArray, List.set_cons_zero, List.set_cons_succ]
          refine ty (v := ?_) 3 (fun w hSw => ?_) ?_
          rotate_left
          · (try dsimp only at hSw); go_simp; (try with_reducible rfl)
          try simp only [List.getElem_toArray, List.getElem_cons_succ, List.getElem_cons_zero, Act.put, List.setIfInBounds_toArray, List.set_cons_zero, List.set_cons_succ]
          refine ty (v := ?_) 4 (fun w hSw => ?_) ?_
          rotate_left
          · (try dsimp only at hSw); go_simp; (try with_reducible rfl)
          try simp only [List.getElem_toArray, List.getElem_cons_succ, List.getElem_cons_zero, Act.put, List.setIfInBounds_toArray, List.set_cons_zero, List.set_cons_succ]
          refine ty (v := ?_) 6 (fun w hSw => ?_) ?_
          rotate_left
          · (try dsimp only at hSw); go_simp; (try with_reducible rfl)
          try simp only [List.getElem_toArray, List.getElem_cons_succ, List.getElem_cons_zero, Act.put, List.setIfInBounds_toArray, List.set_cons_zero, List.set_cons_succ]
          refine ty (v := ?_) 7 (fun w hSw => ?_) ?_
          rotate_left
          · (try dsimp only at hSw); go_simp; (try with_reducible rfl)
          try simp only [List.getElem_toArray, List.getElem_cons_succ, List.getElem_cons_zero, Act.put, List.setIfInBounds_toArray, List.set_cons_zero, List.set_cons_succ]
          refine ty (v := ?_) 8 (fun w hSw => ?_) ?_
          rotate_left
          · (try dsimp only at hSw); go_simp; (try with_reducible rfl)
          try simp only [List.getElem_toArray, List.getElem_cons_succ, List.getElem_cons_zero, Act.put, List.setIfInBounds_toArray, List.set_cons_zero, List.set_cons_succ]
          refine ty (v := ?_) 9 (fun w hSw => ?_) ?_
          rotate_left
          · (try dsimp only at hSw); go_simp; (try with_reducible rfl)
          try simp only [List.getElem_toArray, List.getElem_cons_succ, List.getElem_cons_zero, Act.put, List.setIfInBounds_toArray, List.set_cons_zero, List.set_cons_succ]
          refine ty (v := ?_) 10 (fun w hSw => ?_) ?_
          rotate_left
          · (try dsimp only at hSw); go_simp; (try with_reducible rfl)
          try simp only [List.getElem_toArray, List.getElem_cons_succ, List.getElem_cons_zero, Act.put, List.setIfInBounds_toArray, List.set_cons_zero, List.set_cons_succ]
          refine tr 5 (fun K hK => ?_)
          go_simp
          (go_at_call 18; ((with_reducible refine (HF1.out _ DY0.out).mono ?_); rintro E Y1 ⟨rfl, hb⟩; have DY1 := Lib.hid (DY0.out.trans (hb.mono DY0.out.size)); clear hb))
          refine hK.out _ _ ?_ (fun hHeld => ?_)
          · exact HS.out _ DY1.out
          clear hK K
          try simp only [List.getElem_toArray, List.getElem_cons_succ, List.getElem_cons_zero, Act.put, List.setIfInBounds_toArray, List.set_cons_zero, List.set_cons_succ]
          refine tr 11 (fun K hK => ?_)
          go_simp
          (go_at_call 18; ((with_reducible refine (HF2.out _ DY1.out).mono ?_); rintro E Y2 ⟨rfl, hb⟩; have DY2 := Lib.hid (DY1.out.trans (hb.mono DY1.out.size)); clear hb))
          refine hK.out _ _ ?_ (fun hHeld => ?_)
          · exact HS.out _ DY2.out
          clear hK K
          try simp only [List.getElem_toArray, List.getElem_cons_succ, List.getElem_cons_zero, Act.put, List.setIfInBounds_toArray, List.set_cons_zero, List.set_cons_succ]
          refine ty (v := ?_) 12 (fun w hSw => ?_) ?_
          rotate_left
          · (try dsimp only at hSw); go_simp; (try with_reducible rfl)
          try simp only [List.getElem_toArray, List.getElem_cons_succ, List.getElem_cons_zero, Act.put, List.setIfInBounds_toArray, List.set_cons_zero, List.set_cons_succ]
          refine ty (v := ?_) 13 (fun w hSw => ?_) ?_
          rotate_left
          · (try dsimp only at hSw); go_simp; (try with_reducible rfl)
          try simp only [List.getElem_toArray, List.getElem_cons_succ, List.getElem_cons_zero, Act.put, List.setIfInBounds_toArray, List.set_cons_zero, List.set_cons_succ]
          refine wpAnyH_done (by kernel_rfl) ?_ _
          have HT2 : Hid (bConf (csG rs (y, z)) (csG rs (y', z')) = false → ∀ c ∈ b.take (t + 1), bConf (csG rs (y, z)) (csG rs c) = false) := Lib.hid fun hno c hc => by
            rw [HZ'.out.2] at hc
            rcases List.mem_append.1 hc with hc | hc
            · exact hT.out c hc
            · rw [List.mem_singleton.1 hc]; exact hno
          have DY3 : Hid (Below wr.heap.size wr Y2.drew) := Lib.hid DY2.out.drew
          clear HF1 HF2 DY0 DY1
          rcases find_cases rs (y, z) with ⟨j, hj, hje, hjn, hf, hjm⟩ | ⟨hf, hjm⟩
          rotate_left
          · have HT3 := Lib.hid (HT2.out (by rw [cs_no hjm]; rfl))
            obtain rfl : f1 = -1 := HE1.out.trans hf
            have n1 : decide ((0 : Int) ≤ -1) = false := by decide
            have n2 : ¬ ((0 : Int) ≤ -1) := by decide
            clear hf hjm HE1 HE2 hd
            go_wp2_with fail
            refine wp_region_held_drew (S := (fun _ => True)) (by kernel_rfl) (trivial) (fun hHeld => ?_)
            generalize Y2.drew = Y3 at DY3 hHeld ⊢
            refine ty (v := ?_) 0 (fun w hSw => ?_) ?_
            rotate_left
            · (try dsimp only at hSw); go_simp; (try with_reducible rfl)
            try simp only [List.getElem_toArray, List.getElem_cons_succ, List.getElem_cons_zero, Act.put, List.setIfInBounds_toArray, List.set_cons_zero, List.set_cons_succ]
            refine ty (v := ?_) 1 (fun w hSw => ?_) ?_
            rotate_left
            · (try dsimp only at hSw); go_simp; (try with_reducible rfl)
            try simp only [List.getElem_toArray, List.getElem_cons_succ, List.getElem_cons_zero, Act.put, List.setIfInBounds_toArray, List.set_cons_zero, List.set_cons_succ]
            refine ty (v := ?_) 2 (fun w hSw => ?_) ?_
            rotate_left
            · (try dsimp only at hSw); go_simp; (try with_reducible rfl)
            try simp only [List.getElem_toArray, List.getElem_cons_succ, List.getElem_cons_zero, Act.put, List.setIfInBounds_toArray, List.set_cons_zero, List.set_cons_succ]
            refine ts 3 ?_
            try simp only [List.getElem_toArray, List.getElem_cons_succ, List.getElem_cons_zero, Act.put, List.setIfInBounds_toArray, List.set_cons_zero, List.set_cons_succ]
            refine ts 4 ?_
            try simp only [List.getElem_toArray, List.getElem_cons_succ, List.getElem_cons_zero, Act.put, List.setIfInBounds_toArray, List.set_cons_zero, List.set_cons_succ]
            refine ty (v := ?_) 5 (fun w hSw => ?_) ?_
            rotate_left
            · (try dsimp only at hSw); go_simp; (try with_reducible rfl)
            try simp only [List.getElem_toArray, List.getElem_cons_succ, List.getElem_cons_zero, Act.put, List.setIfInBounds_toArray, List.set_cons_zero, List.set_cons_succ]
            refine ty (v := ?_) 6 (fun w hSw => ?_) ?_
            rotate_left
            · (try dsimp only at hSw); go_simp; (try with_reducible rfl)
            try simp only [List.getElem_toArray, List.getElem_cons_succ, List.getElem_cons_zero, Act.put, List.setIfInBounds_toArray, List.set_cons_zero, List.set_cons_succ]
            refine ts 7 ?_
            try simp only [List.getElem_toArray, List.getElem_cons_succ, List.getElem_cons_zero, Act.put, List.setIfInBounds_toArray, List.set_cons_zero, List.set_cons_succ]
            refine ts 8 ?_
            try simp only [List.getElem_toArray, List.getElem_cons_succ, List.getElem_cons_zero, Act.put, List.setIfInBounds_toArray, List.set_cons_zero, List.set_cons_succ]
            refine ts 9 ?_
            try simp only [List.getElem_toArray, List.getElem_cons_succ, List.getElem_cons_zero, Act.put, List.setIfInBounds_toArray, List.set_cons_zero, List.set_cons_succ]
            refine ts 10 ?_
            try simp only [List.getElem_toArray, List.getElem_cons_succ, List.getElem_cons_zero, Act.put, List.setIfInBounds_toArray, List.set_cons_zero, List.set_cons_succ]
            refine ts 11 ?_
            try simp only [List.getElem_toArray, List.getElem_cons_succ, List.getElem_cons_zero, Act.put, List.setIfInBounds_toArray, List.set_cons_zero, List.set_cons_succ]
            refine ts 12 ?_
            try simp only [List.getElem_toArray, List.getElem_cons_succ, List.getElem_cons_zero, Act.put, List.setIfInBounds_toArray, List.set_cons_zero, List.set_cons_succ]
            refine ts 13 ?_
            try simp only [List.getElem_toArray, List.getElem_cons_succ, List.getElem_cons_zero, Act.put, List.setIfInBounds_toArray, List.set_cons_zero, List.set_cons_succ]
            refine ts 14 ?_
            try simp only [List.getElem_toArray, List.getElem_cons_succ, List.getElem_cons_zero, Act.put, List.setIfInBounds_toArray, List.set_cons_zero, List.set_cons_succ]
            refine ts 15 ?_
            try simp only [List.getElem_toArray, List.getElem_cons_succ, List.getElem_cons_zero, Act.put, List.setIfInBounds_toArray, List.set_cons_zero, List.set_cons_succ]
            refine ts 16 ?_
            try simp only [List.getElem_toArray, List.getElem_cons_succ, List.getElem_cons_zero, Act.put, List.setIfInBounds_toArray, List.set_cons_zero, List.set_cons_succ]
            refine ts 17 ?_
            try simp only [List.getElem_toArray, List.getElem_cons_succ, List.getElem_cons_zero, Act.put, List.setIfInBounds_toArray, List.set_cons_zero, List.set_cons_succ]
            refine ty (v := ?_) 18 (fun w hSw => ?_) ?_
            rotate_left
            · (try dsimp only at hSw); go_simp; (try with_reducible rfl)
            try simp only [List.getElem_toArray, List.getElem_cons_succ, List.getElem_cons_zero, Act.put, List.setIfInBounds_toArray, List.set_cons_zero, List.set_cons_succ]
            refine wpAnyH_done (by kernel_rfl) ?_ _
            go_wp2
            go_roundw
            case rel => exact ⟨t + 1, by omega, by go_num, HT3, Lib.hid (hb2.out.trans (DY3.out.mono hb2.out.size))⟩
            case measure => simp [intOf]; omega
          rcases find_cases rs (y', z') with ⟨j2, hj2, hje2, hjn2, hf2, hjm2⟩ | ⟨hf2, hjm2⟩
          rotate_left
          · have HT3 := Lib.hid (HT2.out (by rw [cs_no hjm2]; exact bconf_nil _))
            obtain rfl : f1 = j := HE1.out.trans hf
            obtain rfl : f2 = -1 := HE2.out.trans hf2
            have n1 : decide ((0 : Int) ≤ -1) = false := by decide
            have n2 : ¬ ((0 : Int) ≤ -1) := by decide
            have n3 : (0 : Int) ≤ j := by omega
            clear hf hjm HE1 HE2 hd hj hje hjn hf2 hjm2
            go_wp2_with fail
            refine wp_region_held_drew (S := (fun _ => True)) (by kernel_rfl) (trivial) (fun hHeld => ?_)
            generalize Y2.drew = Y3 at DY3 hHeld ⊢
            refine ty (v := ?_) 0 (fun w hSw => ?_) ?_
            rotate_left
            · (try dsimp only at hSw); go_simp; (try with_reducible rfl)
            try simp only [List.getElem_toArray, List.getElem_cons_succ, List.getElem_cons_zero, Act.put, List.setIfInBounds_toArray, List.set_cons_zero, List.set_cons_succ]
            refine ty (v := ?_) 1 (fun w hSw => ?_) ?_
            rotate_left
            · (try dsimp only at hSw); go_simp; (try with_reducible rfl)
            try simp only [List.getElem_toArray, List.getElem_cons_succ, List.getElem_cons_zero, Act.put, List.setIfInBounds_toArray, List.set_cons_zero, List.set_cons_succ]
            refine ty (v := ?_) 2 (fun w hSw => ?_) ?_
            rotate_left
            · (try dsimp only at hSw); go_simp; (try with_reducible rfl)
            try simp only [List.getElem_toArray, List.getElem_cons_succ, List.getElem_cons_zero, Act.put, List.setIfInBounds_toArray, List.set_cons_zero, List.set_cons_succ]
            refine ty (v := ?_) 3 (fun w hSw => ?_) ?_
            rotate_left
            · (try dsimp only at hSw); go_simp; (try with_reducible rfl)
            try simp only [List.getElem_toArray, List.getElem_cons_succ, List.getElem_cons_zero, Act.put, List.setIfInBounds_toArray, List.set_cons_zero, List.set_cons_succ]
            refine ty (v := ?_) 4 (fun w hSw => ?_) ?_
            rotate_left
            · (try dsimp only at hSw); go_simp; (try with_reducible rfl)
            try simp only [List.getElem_toArray, List.getElem_cons_succ, List.getElem_cons_zero, Act.put, List.setIfInBounds_toArray, List.set_cons_zero, List.set_cons_succ]
            refine ty (v := ?_) 5 (fun w hSw => ?_) ?_
            rotate_left
            · (try dsimp only at hSw); go_simp; (try with_reducible rfl)
            try simp only [List.getElem_toArray, List.getElem_cons_succ, List.getElem_cons_zero, Act.put, List.setIfInBounds_toArray, List.set_cons_zero, List.set_cons_succ]
            refine ty (v := ?_) 6 (fun w hSw => ?_) ?_
            rotate_left
            · (try dsimp only at hSw); go_simp; (try with_reducible rfl)
            try simp only [List.getElem_toArray, List.getElem_cons_succ, List.getElem_cons_zero, Act.put, List.setIfInBounds_toArray, List.set_cons_zero, List.set_cons_succ]
            refine ts 7 ?_
            try simp only [List.getElem_toArray, List.getElem_cons_succ, List.getElem_cons_zero, Act.put, List.setIfInBounds_toArray, List.set_cons_zero, List.set_cons_succ]
            refine ts 8 ?_
            try simp only [List.getElem_toArray, List.getElem_cons_succ, List.getElem_cons_zero, Act.put, List.setIfInBounds_toArray, List.set_cons_zero, List.set_cons_succ]
            refine ts 9 ?_
            try simp only [List.getElem_toArray, List.getElem_cons_succ, List.getElem_cons_zero, Act.put, List.setIfInBounds_toArray, List.set_cons_zero, List.set_cons_succ]
            refine ts 10 ?_
            try simp only [List.getElem_toArray, List.getElem_cons_succ, List.getElem_cons_zero, Act.put, List.setIfInBounds_toArray, List.set_cons_zero, List.set_cons_succ]
            refine ts 11 ?_
            try simp only [List.getElem_toArray, List.getElem_cons_succ, List.getElem_cons_zero, Act.put, List.setIfInBounds_toArray, List.set_cons_zero, List.set_cons_succ]
            refine ts 12 ?_
            try simp only [List.getElem_toArray, List.getElem_cons_succ, List.getElem_cons_zero, Act.put, List.setIfInBounds_toArray, List.set_cons_zero, List.set_cons_succ]
            refine ts 13 ?_
            try simp only [List.getElem_toArray, List.getElem_cons_succ, List.getElem_cons_zero, Act.put, List.setIfInBounds_toArray, List.set_cons_zero, List.set_cons_succ]
            refine ts 14 ?_
            try simp only [List.getElem_toArray, List.getElem_cons_succ, List.getElem_cons_zero, Act.put, List.setIfInBounds_toArray, List.set_cons_zero, List.set_cons_succ]
            refine ts 15 ?_
            try simp only [List.getElem_toArray, List.getElem_cons_succ, List.getElem_cons_zero, Act.put, List.setIfInBounds_toArray, List.set_cons_zero, List.set_cons_succ]
            refine ts 16 ?_
            try simp only [List.getElem_toArray, List.getElem_cons_succ, List.getElem_cons_zero, Act.put, List.setIfInBounds_toArray, List.set_cons_zero, List.set_cons_succ]
            refine ts 17 ?_
            try simp only [List.getElem_toArray, List.getElem_cons_succ, List.getElem_cons_zero, Act.put, List.setIfInBounds_toArray, List.set_cons_zero, List.set_cons_succ]
            refine ty (v := ?_) 18 (fun w hSw => ?_) ?_
            rotate_left
            · (try dsimp only at hSw); go_simp; (try with_reducible rfl)
            try simp only [List.getElem_toArray, List.getElem_cons_succ, List.getElem_cons_zero, Act.put, List.setIfInBounds_toArray, List.set_cons_zero, List.set_cons_succ]
            refine wpAnyH_done (by kernel_rfl) ?_ _
            go_wp2
            go_roundw
            case rel => exact ⟨t + 1, by omega, by go_num, HT3, Lib.hid (hb2.out.trans (DY3.out.mono hb2.out.size))⟩
            case measure => simp [intOf]; omega
          obtain rfl : f1 = j := HE1.out.trans hf
          obtain rfl : f2 = j2 := HE2.out.trans hf2
          obtain ⟨BR, offR, rfl, HCR⟩ : ∃ B' off', p = some ⟨B', off', none⟩ ∧ Hid (layG.In w B' off' rs) := hd.resolve_left (by rw [HN.out]; omega)
          obtain ⟨⟨⟨x1, x2⟩, q, ds, cs⟩, hx⟩ : ∃ t, layG.at rs j = t := ⟨_, rfl⟩
          obtain ⟨⟨⟨x3, x4⟩, q2, ds2, cs2⟩, hx2⟩ : ∃ t, layG.at rs j2 = t := ⟨_, rfl⟩
          obtain ⟨p1, k1, p2, k2, hr, -, -⟩ := rcdAt HCR.out hj hx
          obtain ⟨p3, k3, p4, k4, hr2, -, -⟩ := rcdAt HCR.out hj2 hx2
          have HR := Lib.hid hr
          have HR2 := Lib.hid hr2
          have hc1 : csG rs (y, z) = cs := by rw [cs_at hj hje hjn, hx]
          have hc2 : csG rs (y', z') = cs2 := by rw [cs_at hj2 hje2 hjn2, hx2]
          have hw1 : ∀ c ∈ cs, wfC c := by have := (HWF.out _ (layG.at_mem hj)).batch; rw [hx] at this; exact this
          have hw2 : ∀ c ∈ cs2, wfC c := by have := (HWF.out _ (layG.at_mem hj2)).batch; rw [hx2] at this; exact this
          have HT5 : Hid (bConf cs cs2 = false → ∀ c ∈ b.take (t + 1), bConf (csG rs (y, z)) (csG rs c) = false) := Lib.hid fun h => HT2.out (by rw [hc1, hc2]; exact h)
          clear HT2
          have HYES : Hid (bConf cs cs2 = true → confG rs a b = true) := Lib.hid fun h => confG_yes HZ.out.1 HZ'.out.1 (by rw [hc1, hc2]; exact h)
          have HS2 : Hid (∀ w', Below wr.heap.size wr w' → w'.cell? ⟨BR, offR + j * 5 + 2 + 1 + 1, none⟩ = some (.slice p2 cs.length k2) ∧ w'.cell? ⟨BR, offR + j2 * 5 + 2 + 1 + 1, none⟩ = some (.slice p4 cs2.length k4)) := Lib.hid fun w' hw => ⟨(HR.out.on (hb2.out.trans (hw.mono hb2.out.size))).c4, (HR2.out.on (hb2.out.trans (hw.mono hb2.out.size))).c4⟩
          have HC2 : Hid (∀ W, Below wr.heap.size wr W → Calls Tryz.prog 26 #[.slice p2 cs.length k2, .slice p4 cs2.length k4] W (RetBelow (.bool (bConf cs cs2)) W)) := Lib.hid fun W hw => refbconf_any _ _ cs cs2 W (HR.out.on (hb2.out.trans (hw.mono hb2.out.size))).rc (HR2.out.on (hb2.out.trans (hw.mono hb2.out.size))).rc hw1 hw2
          generalize bConf cs cs2 = r at HT5 HYES HC2
          have jn : (j : Int) < n := by rw [HN.out]; omega
          have j0 : (0 : Int) ≤ j := by omega
          have jn2 : (j2 : Int) < n := by rw [HN.out]; omega
          have j02 : (0 : Int) ≤ j2 := by omega
          clear hf hjm HE1 HE2 hd hj hje hjn hf2 hjm2 hj2 hje2 hjn2 hx hx2 hr hr2 hc1 hc2 hw1 hw2
          generalize cs.length = l1 at HS2 HC2
          generalize cs2.length = l2 at HS2 HC2
          go_wp2_with fail
          refine wp_region_held_drew (S := (fun w' => w'.cell? ⟨BR, offR + j * 5 + 2 + 1 + 1, none⟩ = some (.slice p2 l1 k2) ∧ w'.cell? ⟨BR, offR + j2 * 5 + 2 + 1 + 1, none⟩ = some (.slice p4 l2 k4))) (by kernel_rfl) (HS2.out _ DY3.out) (fun hHeld => ?_)
          generalize Y2.drew = Y3 at DY3 hHeld ⊢
          refine ty (v := ?_) 0 (fun w hSw => ?_) ?_
          rotate_left
          · (try dsimp only at hSw); go_simp; (try with_reducible rfl)
          try simp only [List.getElem_toArray, List.getElem_cons_succ, List.getElem_cons_zero, Act.put, List.setIfInBounds_toArray, List.set_cons_zero, List.set_cons_succ]
          refine ty (v := ?_) 1 (fun w hSw => ?_) ?_
          rotate_left
          · (try dsimp only at hSw); go_simp; (try with_reducible rfl)
          try simp only [List.getElem_toArray, List.getElem_cons_succ, List.getElem_cons_zero, Act.put, List.setIfInBounds_toArray, List.set_cons_zero, List.set_cons_succ]
          refine ty (v := ?_) 2 (fun w hSw => ?_) ?_
          rotate_left
          · (try dsimp only at hSw); go_simp; (try with_reducible rfl)
          try simp only [List.getElem_toArray, List.getElem_cons_succ, List.getElem_cons_zero, Act.put, List.setIfInBounds_toArray, List.set_cons_zero, List.set_cons_succ]
          refine ty (v := ?_) 3 (fun w hSw => ?_) ?_
          rotate_left
          · (try dsimp only at hSw); go_simp; (try with_reducible rfl)
          try simp only [List.getElem_toArray, List.getElem_cons_succ, List.getElem_cons_zero, Act.put, List.setIfInBounds_toArray, List.set_cons_zero, List.set_cons_succ]
          refine ty (v := ?_) 4 (fun w hSw => ?_) ?_
          rotate_left
          · (try dsimp only at hSw); go_simp; (try with_reducible rfl)
          try simp only [List.getElem_toArray, List.getElem_cons_succ, List.getElem_cons_zero, Act.put, List.setIfInBounds_toArray, List.set_cons_zero, List.set_cons_succ]
          refine ty (v := ?_) 5 (fun w hSw => ?_) ?_
          rotate_left
          · (try dsimp only at hSw); go_simp; (try with_reducible rfl)
          try simp only [List.getElem_toArray, List.getElem_cons_succ, List.getElem_cons_zero, Act.put, List.setIfInBounds_toArray, List.set_cons_zero, List.set_cons_succ]
          refine ty (v := ?_) 6 (fun w hSw => ?_) ?_
          rotate_left
          · (try dsimp only at hSw); go_simp; (try with_reducible rfl)
          try simp only [List.getElem_toArray, List.getElem_cons_succ, List.getElem_cons_zero, Act.put, List.setIfInBounds_toArray, List.set_cons_zero, List.set_cons_succ]
          refine ty (v := ?_) 7 (fun w hSw => ?_) ?_
          rotate_left
          · (try dsimp only at hSw); go_simp; (try with_reducible rfl)
          try simp only [List.getElem_toArray, List.getElem_cons_succ, List.getElem_cons_zero, Act.put, List.setIfInBounds_toArray, List.set_cons_zero, List.set_cons_succ]
          refine ty (v := ?_) 8 (fun w hSw => ?_) ?_
          rotate_left
          · (try dsimp only at hSw); go_simp; (try with_reducible rfl)
          try simp only [List.getElem_toArray, List.getElem_cons_succ, List.getElem_cons_zero, Act.put, List.setIfInBounds_toArray, List.set_cons_zero, List.set_cons_succ]
          refine ty (v := ?_) 9 (fun w hSw => ?_) ?_
          rotate_left
          · (try dsimp only at hSw); go_simp; (try with_reducible rfl)
          try simp only [List.getElem_toArray, List.getElem_cons_succ, List.getElem_cons_zero, Act.put, List.setIfInBounds_toArray, List.set_cons_zero, List.set_cons_succ]
          refine ty (v := ?_) 10 (fun w hSw => ?_) ?_
          rotate_left
          · (try dsimp only at hSw); go_simp; (try with_reducible rfl)
          try simp only [List.getElem_toArray, List.getElem_cons_succ, List.getElem_cons_zero, Act.put, List.setIfInBounds_toArray, List.set_cons_zero, List.set_cons_succ]
          refine ty (v := ?_) 11 (fun w hSw => ?_) ?_
          rotate_left
          · (try dsimp only at hSw); go_simp; (try with_reducible rfl)
          try simp only [List.getElem_toArray, List.getElem_cons_succ, List.getElem_cons_zero, Act.put, List.setIfInBounds_toArray, List.set_cons_zero, List.set_cons_succ]
          refine ty (v := ?_) 12 (fun w hSw => ?_) ?_
          rotate_left
          · (try dsimp only at hSw); go_simp; (try with_reducible rfl)
          try simp only [List.getElem_toArray, List.getElem_cons_succ, List.getElem_cons_zero, Act.put, List.setIfInBounds_toArray, List.set_cons_zero, List.set_cons_succ]
          refine ty (v := ?_) 13 (fun w hSw => ?_) ?_
          rotate_left
          · (try dsimp only at hSw); go_simp; (try with_reducible rfl)
          try simp only [List.getElem_toArray, List.getElem_cons_succ, List.getElem_cons_zero, Act.put, List.setIfInBounds_toArray, List.set_cons_zero, List.set_cons_succ]
          refine ty (v := ?_) 14 (fun w hSw => ?_) ?_
          rotate_left
          · (try dsimp only at hSw); go_simp; (try with_reducible rfl)
          try simp only [List.getElem_toArray, List.getElem_cons_succ, List.getElem_cons_zero, Act.put, List.setIfInBounds_toArray, List.set_cons_zero, List.set_cons_succ]
          refine ty (v := ?_) 15 (fun w hSw => ?_) ?_
          rotate_left
          · (try dsimp only at hSw); go_simp; (try with_reducible rfl)
          try simp only [List.getElem_toArray, List.getElem_cons_succ, List.getElem_cons_zero, Act.put, List.setIfInBounds_toArray, List.set_cons_zero, List.set_cons_succ]
          refine ty (v := ?_) 16 (fun w hSw => ?_) ?_
          rotate_left
          · (try dsimp only at hSw); go_simp; (try with_reducible rfl)
          try simp only [List.getElem_toArray, List.getElem_cons_succ, List.getElem_cons_zero, Act.put, List.setIfInBounds_toArray, List.set_cons_zero, List.set_cons_succ]
          refine tr 17 (fun K hK => ?_)
          go_simp
          (go_at_call 26; ((with_reducible refine (HC2.out _ DY3.out).mono ?_); rintro E Y4 ⟨rfl, hb⟩; have DY4 := Lib.hid (DY3.out.trans (hb.mono DY3.out.size)); clear hb))
          refine hK.out _ _ ?_ (fun hHeld => ?_)
          · exact HS2.out _ DY4.out
          clear hK K
          try simp only [List.getElem_toArray, List.getElem_cons_succ, List.getElem_cons_zero, Act.put, List.setIfInBounds_toArray, List.set_cons_zero, List.set_cons_succ]
          refine ty (v := ?_) 18 (fun w hSw => ?_) ?_
          rotate_left
          · (try dsimp only at hSw); go_simp; (try with_reducible rfl)
          try simp only [List.getElem_toArray, List.getElem_cons_succ, List.getElem_cons_zero, Act.put, List.setIfInBounds_toArray, List.set_cons_zero, List.set_cons_succ]
          refine wpAnyH_done (by kernel_rfl) ?_ _
          cases r with
          | true =>
            have HE : Hid (confG rs a b = true) := Lib.hid (HYES.out rfl)
            go_wp2
            go_ret
            exact ⟨ret_bool HE.out.symm, (hb2.out.trans (DY4.out.mono hb2.out.size))⟩
          | false =>
            have HT3 := Lib.hid (HT5.out rfl)
            go_wp2
            go_roundw
            case rel => exact ⟨t + 1, by omega, by go_num, HT3, Lib.hid (hb2.out.trans (DY4.out.mono hb2.out.size))⟩
            case measure => simp [intOf]; omega
        · have tl : ¬ (t : Int) < l := by omega
          have HS2 : Hid (∀ x ∈ a.take (k + 1), ∀ y ∈ b, bConf (csG rs x) (csG rs y) = false) := Lib.hid fun x hx c hc => by
            rw [HZ.out.2] at hx
            rcases List.mem_append.1 hx with hx | hx
            · exact hS.out x hx c hc
            · rw [List.mem_singleton.1 hx]
              exact hT.out c (by rw [List.take_of_length_le (by rw [← HL.out]; omega)]; exact hc)
          clear hdq hd
          go_wp2
          go_roundw
          case rel => exact ⟨k + 1, by omega, by go_num, hb2, HS2⟩
          case measure => simp [intOf]; omega
    · have km : ¬ (k : Int) < m := by omega
      have HE : Hid (confG rs a b = false) := Lib.hid (confG_no fun x hx => hS.out x (by rw [List.take_of_length_le (by rw [← HM.out]; omega)]; exact hx))
      clear hdo hd hdq
      go_wp2
      go_ret
      exact ⟨ret_bool HE.out.symm, hbW.out⟩
end Go.Proofs.YtlkndpofegemdaaGreat.Tra
