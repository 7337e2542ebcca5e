/- What the developers' Only gives (layer 14, fold). Conditions: those in each statement. -/
import Derived.Test.YtdnabghhjlhjoaaFolM
import Derived.Test.YtdnabghhjlhjoaaFolB
import Derived.Test.YtdnabghhjlhjoaaFolC
import Derived.Test.YtdnabghhjlhjoaaCelD
namespace Go.Proofs.Ytdnabghhjlhjoaa.Fol
open Go.RowKit F64 Cmd Bat Cel Wid Vau
set_option linter.unusedVariables false
set_option linter.unusedSimpArgs false

theorem foldC_snoc (zs : List Cmdn) (x : Cmdn) : foldC (zs ++ [x]) = (doC (foldC zs) x.1 x.2.1 x.2.2).1 := by unfold foldC; rw [List.foldl_append]; rfl
theorem boxC {W : World} {b : Nat} {k : Int} {v : Value} {x : Nat} {t : TypeId} (h : W.heap[b]? = some (.cells #[.int .i64 k, v, .float .f64 x] t (0, 0))) : W.cell? ⟨b, 0, none⟩ = some (.int .i64 k) ∧ W.cell? ⟨b, 1, none⟩ = some v ∧ W.cell? ⟨b, 2, none⟩ = some (.float .f64 x) := by
  refine ⟨?_, ?_, ?_⟩ <;> simp [World.cell?, h]
/-- The answer's box, the map of who is wanted. -/
structure Wanted (w : World) (N : Nat) (ws : List Wr) (W : World) : Prop where
  below : Below w.heap.size w W
  box : Bx w.heap.size false 0 W
  map : MapW W (w.heap.size + 1) N ws
section
variable {w W W' : World} {N M : Nat} {ws zs : List Wr}
theorem Wanted.on (h : Wanted w N ws W) (hb : Below W.heap.size W W') : Wanted w N ws W' := ⟨h.below.trans (hb.mono h.below.size), h.box.on hb, h.map.block (hb.block _ h.map.lt)⟩
theorem Wanted.start (w : World) : Wanted w 0 [] ((w.alloc (.cells #[.bool false, .float .f64 0] 30)).alloc (.map #[] 0)) := by
  have b1 := Cmd.below_one w (.cells #[.bool false, .float .f64 0] 30)
  refine ⟨b1.alloc b1.size _, (Bx.new w false 0).alloc _, ?_⟩
  have h := MapW.made (w.alloc (.cells #[.bool false, .float .f64 0] 30))
  rw [show (w.alloc (.cells #[.bool false, .float .f64 0] 30)).heap.size = w.heap.size + 1 by simp] at h
  exact h
theorem Wanted.turn (h : Wanted w N ws W) (ht : W.mapTurned W' (w.heap.size + 1)) (hm : MapW W' (w.heap.size + 1) M zs) : Wanted w M zs W' :=
  ⟨Below.grown h.below ht.grown h.below.size (fun k hk => by cases hk; omega), h.box.same (ht.grown.block _ h.box.lt (fun e => by injection e with e; omega)), hm⟩
theorem Wanted.far (h : Wanted w N ws W) {row : Option Nat} (hg : W.grownBy W' row) (hr : ∀ k, row = some k → w.heap.size + 2 ≤ k) : Wanted w N ws W' :=
  ⟨Below.grown h.below hg h.below.size (fun k hk => by have := hr k hk; omega), h.box.same (hg.block _ h.box.lt (fun e => by have := hr _ e.symm; omega)), h.map.block (hg.block _ h.map.lt (fun e => by have := hr _ e.symm; omega))⟩
end
set_option maxHeartbeats 32000000 in
set_option maxRecDepth 100000 in
theorem fonly_any (v u : Value) (xs : List Itm) (s : List UInt8) (ws : List Wr) (w : World) (h : layT.Row w v xs) (hu : layW.Row w u ws) (hw : ∀ x ∈ xs, wfT x) (ha : ∀ x ∈ xs, wfA x) (hwu : ∀ x ∈ ws, wfW x) (hl : xs.length ≤ 1000) (hs : s.length ≤ 140737488351232) (hq : ws.length ≤ 100000) : Calls Try.prog 17 #[v, .string (str s), u] w (GivesFold (onlyOf (okOf xs) s ws) w) := by
  obtain ⟨p, cap, rfl, h1, hd⟩ := h.parts
  obtain ⟨pu, capu, rfl, u1, ud⟩ := hu.parts
  obtain ⟨n, hn⟩ : ∃ n, n = xs.length := ⟨_, rfl⟩
  obtain ⟨q, hq'⟩ : ∃ q, q = ws.length := ⟨_, rfl⟩
  rw [← hn] at h1 hd hl ⊢
  rw [← hq'] at u1 ud hq ⊢
  have HW := Lib.hid hw
  have HAI := Lib.hid ha
  have HWU := Lib.hid hwu
  have HN := Lib.hid hn
  have HQ := Lib.hid hq'
  have HLN := Lib.hid hl
  have HLQ := Lib.hid hq
  have HT : Hid (onlyOf (okOf (xs.take n)) s ws = onlyOf (okOf xs) s ws) := Lib.hid (by rw [hn, List.take_length])
  have HTQ : Hid (ws.take q = ws) := Lib.hid (by rw [hq', List.take_length])
  have hmm := run_makeW (q : Int)
  have X0 := Lib.hid (Wanted.start w)
  clear h hw hn hu hq hq' hl hs ha hwu
  go_enter Try.func17, Try.ntmps17
  go_wp2_with fail
  go_loopw [20] (fun j wr => ∃ k : Nat, j = .int .i64 k ∧ k ≤ q ∧ Hid (Wanted w k (ws.take k) wr)) (fun j _ => q - (intOf j).toNat)
  case atStart => exact ⟨0, rfl, Nat.zero_le _, X0⟩
  case round =>
    obtain ⟨k, rfl, hk, HX⟩ := hrel
    have k0 : (0 : Int) ≤ k := by omega
    by_cases hkq : k < q
    · have kn : (k : Int) < q := by omega
      obtain ⟨B, off, rfl, HC⟩ := ud.resolve_left (by omega)
      have hix : k < ws.length := by rw [← HQ.out]; exact hkq
      obtain ⟨a, b, c, hx⟩ : ∃ a b c, layW.at ws k = ((a, b), c) := ⟨_, _, _, rfl⟩
      have HWF : Hid (wfW ((a, b), c)) := Lib.hid (by rw [← hx]; exact HWU.out _ (layW.at_mem hix))
      have HTK : Hid (ws.take (k + 1) = ws.take k ++ [((a, b), c)]) := Lib.hid (by rw [layW.take hix, hx])
      have hb1 := Cmd.below_one wr (.cells #[.int .i64 a, .int .i64 b, .int .i64 c] 63)
      have HX1 := heap_alloc_new wr (.cells #[.int .i64 a, .int .i64 b, .int .i64 c] 63)
      obtain ⟨c0, c1, c2⟩ := cellW (HC.out.on HX.out.below) hix hx
      obtain ⟨W1, hW1⟩ : ∃ W1, W1 = wr.alloc (.cells #[.int .i64 a, .int .i64 b, .int .i64 c] 63) := ⟨_, rfl⟩
      rw [← hW1] at hb1 HX1
      have H1 := Lib.hid (HX.out.on hb1)
      obtain ⟨e0, e1, e2⟩ := box3 HX1
      obtain ⟨W2, hst, hm2, ht2⟩ := H1.out.map.store HWF.out (by have := HLQ.out; unfold maxLen; omega)
      have H2 : Hid (Wanted w (k + 1) (ws.take (k + 1)) W2) := Lib.hid (by rw [HTK.out]; exact H1.out.turn ht2 hm2)
      clear hx hix hb1 HX1 hm2 ht2 hd ud
      go_upto_region 5 with fail
      rw [← hW1]
      clear hW1 c0 c1 c2
      go_wp2_with fail
      go_roundw
      case rel => exact ⟨k + 1, by go_num, by omega, H2⟩
      case measure => simp [intOf]; omega
    · obtain rfl : k = q := by omega
      have kn : ¬ (k : Int) < k := by omega
      have HXQ : Hid (Wanted w k ws wr) := Lib.hid (by have := HX.out; rw [HTQ.out] at this; exact this)
      obtain ⟨wm, hwm⟩ : ∃ wm, wm = wr := ⟨_, rfl⟩
      subst hwm
      clear ud
      go_wp2_with fail
      go_loopw [10, 29] (fun told idx wr => ∃ (i : Nat) (zs : List Cmdn), i ≤ n ∧ idx = .int .i64 i ∧ Hid (Wanted w k ws wr) ∧ Hid (wdC.Own 48 wr (w.heap.size + 2) told zs) ∧ Hid (foldC zs = onlyOf (okOf (xs.take i)) s ws) ∧ Hid (∀ x ∈ zs, wfC x) ∧ Hid (zs.length ≤ 8 * i)) (fun _ idx _ => n - (intOf idx).toNat)
      case atStart => exact ⟨0, [], Nat.zero_le _, rfl, HXQ, Lib.hid (Wd.Own.void _ _ _), Lib.hid rfl, Lib.hid (fun x hx => by cases hx), Lib.hid (Nat.le_refl _)⟩
      case round =>
        obtain ⟨i, zs, hi, rfl, HY, HO, HF, HWZ, HZL⟩ := hrel
        have i00 : (0 : Int) ≤ i := by omega
        by_cases hin : i < n
        · have kin : (i : Int) < n := by omega
          obtain ⟨B, off, rfl, HC⟩ := hd.resolve_left (by omega)
          have hix : i < xs.length := by rw [← HN.out]; exact hin
          obtain ⟨a1, a2, cs, hx⟩ : ∃ a b cs, layT.at xs i = ((a, b), cs) := ⟨_, _, _, rfl⟩
          have hwf := HW.out _ (layT.at_mem hix)
          rw [hx] at hwf
          have HWC := Lib.hid hwf
          have HAC : Hid (wfN a1 ∧ wfN a2) := Lib.hid (by have := HAI.out _ (layT.at_mem hix); rw [hx] at this; exact this)
          have HTK : Hid (xs.take (i + 1) = xs.take i ++ [((a1, a2), cs)]) := Lib.hid (by rw [layT.take hix, hx])
          obtain ⟨p', cap', hp2, hm1, hm2, hd'⟩ := partT HC.out hix hx
          have HRC : Hid (∀ X, Below w.heap.size w X → layC.Row X (.slice p' cs.length cap') cs) := Lib.hid fun X hb => by
            obtain ⟨-, -, v, e1, e2⟩ := cellT (HC.out.on hb) hix hx
            have e3 := (hb.cell (p := ⟨B, off + i * 3 + 2, none⟩) HC.out.lt).trans hp2
            rw [e1] at e3
            cases e3; exact e2
          have CK : Hid (∀ X, Below w.heap.size w X → Calls Try.prog 27 #[.slice p' cs.length cap'] X (RetBelow (.int .i64 (bErr cs)) X)) := Lib.hid fun X hb => bcheck_any _ cs X (HRC.out X hb) hwf
          obtain ⟨m, hm⟩ : ∃ m, m = cs.length := ⟨_, rfl⟩
          rw [← hm] at hp2 hm1 hd' CK
          have HM := Lib.hid hm
          have hb1 := Cmd.below_one wr (.cells #[.int .i64 a1, .int .i64 a2, .slice p' m cap'] 51)
          have HX9 := Lib.hid (heap_alloc_new wr (.cells #[.int .i64 a1, .int .i64 a2, .slice p' m cap'] 51))
          obtain ⟨s0, s1, -⟩ := cellT (HC.out.on HY.out.below) hix hx
          have s2 := (HY.out.below.cell (p := ⟨B, off + i * 3 + 2, none⟩) HC.out.lt).trans hp2
          obtain ⟨W1, hW1⟩ : ∃ W1, W1 = wr.alloc (.cells #[.int .i64 a1, .int .i64 a2, .slice p' m cap'] 51) := ⟨_, rfl⟩
          rw [← hW1] at hb1 HX9
          have HXW := Lib.hid (HY.out.on hb1)
          have HOW : Hid (wdC.Own 48 W1 (w.heap.size + 2) u10 zs) := Lib.hid (Wd.Own.below HO.out hb1)
          have HAW : Hid (∀ j, u10.ownBlock = some j → j ≠ wr.heap.size) := Lib.hid fun j hj => by have := (World.ownsRow.lt HO.out j hj).2; omega
          obtain ⟨e0, e1, e2⟩ := box3 HX9.out
          have CK1 := Lib.hid (CK.out W1 HXW.out.below)
          clear hx hd hwf hix hm hp2 hb1
          go_upto_region 11 with fail
          rw [← hW1]
          clear hW1 s0 s1 s2
          by_cases he : bErr cs = 0
          · have HOK : Hid (okOf (xs.take (i + 1)) = okOf (xs.take i) ++ [((a1, a2), cs)]) := Lib.hid (by rw [HTK.out]; exact okOf_snoc_ok he)
            have HM8 : Hid (m ≤ 8) := Lib.hid (by rw [HM.out]; exact (berr_parts he).1)
            have HE := Lib.hid he
            clear he
            go_upto_region 12 with (first
              | (go_at_call 27; ((with_reducible refine CK1.out.mono ?_); rintro E w3 ⟨rfl, hb⟩; rw [HE.out]; have X3 := Lib.hid (HXW.out.on hb); have O3 := Lib.hid (Wd.Own.below HOW.out hb); have N3 : Hid (w3.heap[wr.heap.size]? = some (.cells #[.int .i64 a1, .int .i64 a2, .slice p' m cap'] 51 (0, 0))) := Lib.hid ((hb.block _ (Array.getElem?_eq_some_iff.1 HX9.out).1).trans HX9.out); clear hb)))
            obtain ⟨e3, e4, e5⟩ := box3 N3.out
            clear HXW CK1 CK HX9 HOW e0 e1 e2
            obtain ⟨wq, hwq⟩ : ∃ wq, wq = wr := ⟨_, rfl⟩
            subst hwq
            go_wp2_with fail
            go_loopw [10, 40] (fun told j wr => ∃ (c : Nat) (ys : List Cmdn), j = .int .i64 c ∧ c ≤ m ∧ Hid (Wanted w k ws wr) ∧ Hid (wr.heap[wq.heap.size]? = some (.cells #[.int .i64 a1, .int .i64 a2, .slice p' m cap'] 51 (0, 0))) ∧ Hid (wdC.Own 48 wr (w.heap.size + 2) told ys) ∧ Hid (∀ j, told.ownBlock = some j → j ≠ wq.heap.size) ∧ Hid (foldC ys = onlyB s ws (a1, a2) 0 (onlyOf (okOf (xs.take i)) s ws) (cs.take c)) ∧ Hid (∀ x ∈ ys, wfC x) ∧ Hid (ys.length ≤ zs.length + c)) (fun _ j _ => m - (intOf j).toNat)
            case atStart => exact ⟨0, zs, rfl, Nat.zero_le _, X3, N3, O3, HAW, HF, HWZ, Lib.hid (Nat.le_refl _)⟩
            case round =>
              obtain ⟨c, ys, rfl, hc, HZ, HNB, HP, HPA, HG, HWY, HYL⟩ := hrel
              have c00 : (0 : Int) ≤ c := by omega
              by_cases hcm : c < m
              · have cm : (c : Int) < m := by omega
                obtain ⟨B', off', rfl, HD⟩ := hd'.resolve_left (by omega)
                have hcx : c < cs.length := by rw [← HM.out]; exact hcm
                obtain ⟨a, t, x, hx⟩ : ∃ a t x, layC.at cs c = (a, t, x) := ⟨_, _, _, rfl⟩
                have HWX : Hid (wfC (a, t, x)) := Lib.hid (by rw [← hx]; exact HWC.out _ (layC.at_mem hcx))
                obtain ⟨c0, c1, c2⟩ := cellC (HD.out.on HZ.out.below) hcx hx
                have hb2 := Cmd.below_one wr (.cells #[.int .i64 a, .string (str t), .float .f64 x] 48)
                have HXC := heap_alloc_new wr (.cells #[.int .i64 a, .string (str t), .float .f64 x] 48)
                obtain ⟨W2, hW2⟩ : ∃ W2, W2 = wr.alloc (.cells #[.int .i64 a, .string (str t), .float .f64 x] 48) := ⟨_, rfl⟩
                rw [← hW2] at hb2 HXC
                have Z2 := Lib.hid (HZ.out.on hb2)
                have P2 := Lib.hid (Wd.Own.below HP.out hb2)
                have hN2 : W2.heap[wq.heap.size]? = some (.cells #[.int .i64 a1, .int .i64 a2, .slice (some ⟨B', off', none⟩) m cap'] 51 (0, 0)) := (hb2.block _ (Array.getElem?_eq_some_iff.1 HNB.out).1).trans HNB.out
                have N2 := Lib.hid hN2
                have C2 := Lib.hid HXC
                obtain ⟨g0, g1, g2⟩ := box3 N2.out
                obtain ⟨m0, m1, m2⟩ := boxC C2.out
                have hlk := Z2.out.map.look (x1 := a1) (x2 := a2) (x3 := (c : Int)) ⟨HAC.out.1, HAC.out.2, by have := HM8.out; exact ⟨by show -9223372036854775808 ≤ (c : Int); omega, by show (c : Int) ≤ 9223372036854775807; omega⟩⟩
                have he := str_dec t s
                have HNO : Hid ((decide (((a1, a2), (c : Int)) ∈ ws) && decide (t = s)) = false → foldC ys = onlyB s ws (a1, a2) 0 (onlyOf (okOf (xs.take i)) s ws) (cs.take (c + 1))) := Lib.hid fun hno => by
                  rw [onlyB_step hcx, hx, stepO_no hno]; exact HG.out
                have HYE : Hid (decide (((a1, a2), (c : Int)) ∈ ws) = true → decide (t = s) = true → foldC (ys ++ [(a, t, x)]) = onlyB s ws (a1, a2) 0 (onlyOf (okOf (xs.take i)) s ws) (cs.take (c + 1))) := Lib.hid fun h1 h2 => by
                  rw [onlyB_step hcx, hx, foldC_snoc, HG.out]
                  unfold stepO
                  rw [if_pos ⟨h1, of_decide_eq_true h2⟩]
                generalize decide (((a1, a2), (c : Int)) ∈ ws) = r1 at hlk HNO HYE
                generalize decide (t = s) = r2 at he HNO HYE
                clear hx hcx hd' hb2 HXC hN2
                go_upto_region 15 with fail
                rw [← hW2]
                clear hW2 c0 c1 c2
                cases r2
                · go_wp2_with fail
                  go_roundw
                  case rel => exact ⟨c + 1, ys, by go_num, by omega, Z2, N2, P2, HPA, Lib.hid (HNO.out (by cases r1 <;> rfl)), HWY, Lib.hid (by have := HYL.out; omega)⟩
                  case measure => simp [intOf]; omega
                · cases r1
                  · go_wp2_with fail
                    go_roundw
                    case rel => exact ⟨c + 1, ys, by go_num, by omega, Z2, N2, P2, HPA, Lib.hid (HNO.out (by first | exact rfl | trivial)), HWY, Lib.hid (by have := HYL.out; omega)⟩
                    case measure => simp [intOf]; omega
                  · have hb3 := Cmd.below_one W2 (.cells #[.int .i64 a, .string (str t), .float .f64 x] 48)
                    have HU : Hid (layC.Row (W2.alloc (.cells #[.int .i64 a, .string (str t), .float .f64 x] 48)) (.slice (some ⟨W2.heap.size, 0, none⟩) 1 1) [(a, t, x)]) := Lib.hid (wdC.lone 48 W2 (a, t, x) #[.int .i64 a, .string (str t), .float .f64 x] rfl)
                    have Z3 := Lib.hid (Z2.out.on hb3)
                    have P3 : Hid (wdC.Own 48 (W2.alloc (.cells #[.int .i64 a, .string (str t), .float .f64 x] 48)) (w.heap.size + 2) u10 ys) := Lib.hid (Wd.Own.below P2.out hb3)
                    have N3 := Lib.hid ((hb3.block _ (Array.getElem?_eq_some_iff.1 N2.out).1).trans N2.out)
                    have HBS : Hid (w.heap.size + 2 ≤ (W2.alloc (.cells #[.int .i64 a, .string (str t), .float .f64 x] 48)).heap.size) := Lib.hid (by have := Z3.out.map.lt; omega)
                    have HYL6 : Hid (ys.length + 1 ≤ 1000000) := Lib.hid (by have h1 := HYL.out; have h2 := HZL.out; have h3 := HLN.out; have h4 := HM8.out; omega)
                    clear hb3
                    go_wp2_with (first
                      | (at_builtin; refine push_wp wtC rfl _ _ rfl (w.heap.size + 2) _ _ rfl P3.out HBS.out _ _ rfl HU.out HYL6.out ?_; intro v5 w5 HO5 HG5 HN5; have Z5 := Lib.hid (Z3.out.far HG5.out (fun j hj => (World.ownsRow.lt P3.out j hj).1)); have N5 := Lib.hid ((HG5.out.block _ (Array.getElem?_eq_some_iff.1 N3.out).1 (fun e => HPA.out _ e.symm rfl)).trans N3.out); have A5 : Hid (∀ j, v5.ownBlock = some j → j ≠ wq.heap.size) := Lib.hid (fun j hj => (by rcases HN5.out with e | e; rw [e] at hj; exact HPA.out j hj; rw [e] at hj; cases hj; have := (Array.getElem?_eq_some_iff.1 N3.out).1; omega))))
                    go_roundw
                    case rel => exact ⟨c + 1, ys ++ [(a, t, x)], by go_num, by omega, Z5, N5, HO5, A5, Lib.hid (HYE.out (by first | exact rfl | trivial) (by first | exact rfl | trivial)), Lib.hid (fun y hy => by rcases List.mem_append.1 hy with h1 | h1; exact HWY.out y h1; rw [List.mem_singleton.1 h1]; exact HWX.out), Lib.hid (by have := HYL.out; rw [List.length_append, List.length_singleton]; omega)⟩
                    case measure => simp [intOf]; omega
              · obtain rfl : c = m := by omega
                have cm : ¬ (c : Int) < c := by omega
                have HF2 : Hid (foldC ys = onlyOf (okOf (xs.take (i + 1))) s ws) := Lib.hid (by rw [HOK.out, onlyOf_snoc]; have := HG.out; rw [HM.out, List.take_length] at this; exact this)
                have HL2 : Hid (ys.length ≤ 8 * (i + 1)) := Lib.hid (by have h1 := HYL.out; have h2 := HZL.out; have h3 := HM8.out; omega)
                clear hd'
                go_wp2_with fail
                go_roundw
                case rel => exact ⟨i + 1, ys, by omega, by go_num, HZ, HP, HF2, HWY, HL2⟩
                case measure => simp [intOf]; omega
          · have HOK : Hid (okOf (xs.take (i + 1)) = okOf (xs.take i)) := Lib.hid (by rw [HTK.out]; exact okOf_snoc_no he)
            obtain ⟨ee, hee⟩ : ∃ ee, ee = bErr cs := ⟨_, rfl⟩
            have hq0 : (ee == (0 : Int)) = false := beq_eq_false_iff_ne.2 (by omega)
            have hq1 : ee ≠ 0 := by omega
            have hq2 : (ee != (0 : Int)) = true := by rw [bne, hq0]; rfl
            rw [← hee] at CK1
            clear he hee
            go_wp2_with (first
              | (go_at_call 27; ((with_reducible refine CK1.out.mono ?_); rintro E w3 ⟨rfl, hb⟩; have X3 := Lib.hid (HXW.out.on hb); have O3 := Lib.hid (Wd.Own.below HOW.out hb); clear hb)))
            rw [← HOK.out] at HF
            go_roundw
            case rel => exact ⟨i + 1, zs, by omega, by go_num, X3, O3, HF, HWZ, Lib.hid (by have := HZL.out; omega)⟩
            case measure => simp [intOf]; omega
        · obtain rfl : i = n := by omega
          have kn : ¬ (i : Int) < i := by omega
          have CF := Lib.hid (dfold_any u10 zs wr (Wd.Own.row HO.out) HWZ.out)
          rw [HF.out, HT.out] at CF
          clear hd
          go_wp2_with (first
            | (go_at_call 28; ((with_reducible refine CF.out.mono ?_); rintro E w4 ⟨f, z, rfl, hf, hb⟩; have F4 := Lib.hid hf; have X4 := Lib.hid (HY.out.on hb); obtain ⟨b0, b1, b2, b3⟩ := X4.out.box.facts; have P := Lib.hid (boxed_put X4.out.below X4.out.box f z); clear hf hb)))
          exact bodyPost_ret (cell_result rfl _ rfl P.out.2.facts.1 P.out.2.facts.2.1) rfl ⟨f, z, rfl, F4.out, P.out.1⟩
end Go.Proofs.Ytdnabghhjlhjoaa.Fol
