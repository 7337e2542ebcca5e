/- What the developers' walk through a vault gives (layer 14, fold). Conditions: the items lie in memory as their cells say; numbers' words of 64 bits; texts of a length that Go reads; lists not longer than 1000. -/
import Derived.Test.YtdnabghhjlhjoaaFolG
import Derived.Test.YtdnabghhjlhjoaaFolM
namespace Go.Proofs.Ytdnabghhjlhjoaa.Fol
open Go.RowKit F64 Cmd Bat Cel Wid Vau Go.Maps Go.WideElems Go.ChangeMaps Go.Sort
set_option linter.unusedVariables false
set_option linter.unusedSimpArgs false

def GivesAll (xs : List Itm) (w : World) (E : Ending) (w' : World) : Prop := ∃ (g : Nat) (F : Nat → Prop) (cnt : Int) (u : Value) (ys : List Rs), E = .returned (.tuple #[.pointer (some ⟨g, 0, none⟩), u]) ∧ Fv w.heap.size w g xs.length F xs cnt w' ∧ layR.Row w' u ys ∧ Fits ys (resOf (okOf xs))
theorem ownR_far {e : TypeId} {W W' : World} {base : Nat} {v : Value} {qs : List Rs} {F : Nat → Prop} (h : wdR.Own e W base v qs) (ho : Only F W W') (hn : ∀ k, v.ownBlock = some k → ¬ F k) : wdR.Own e W' base v qs :=
  ⟨h.1, h.2.imp id fun ⟨g, cap, cur, h1, h2, h3, h4⟩ => ⟨g, cap, cur, h1, h2, (ho.block g (Array.getElem?_eq_some_iff.1 h3).1 (hn g (by rw [h1]; rfl))).trans h3, h4⟩⟩
theorem stR_len (C : Key → Cell2) (id : Int × Int) (cs : List Cmdn) : (stR C id cs).length ≤ 8 := by
  unfold stR
  split
  · rename_i he; rw [resQ_len]; exact (berr_parts he).1
  · exact Nat.zero_le _
set_option maxHeartbeats 16000000 in
set_option maxRecDepth 100000 in
theorem fall_any (v : Value) (xs : List Itm) (w : World) (h : layT.Row w v xs) (hw : ∀ x ∈ xs, wfT x) (hl : xs.length ≤ 1000) : Calls Try.prog 22 #[v] w (GivesAll xs w) := by
  obtain ⟨p, cap, rfl, h1, hd⟩ := h.parts
  obtain ⟨n, hn⟩ : ∃ n, n = xs.length := ⟨_, rfl⟩
  rw [← hn] at h1 hd hl
  have HN := Lib.hid hn
  have HWX := Lib.hid hw
  have KN := Lib.hid hl
  have HT : Hid (xs.take n = xs) := Lib.hid (by rw [hn, List.take_length])
  rw [← hn]
  have CN : Hid (Calls Try.prog 30 #[] w (fun E w' => ∃ g, E = .returned (.pointer (some ⟨g, 0, none⟩)) ∧ VP w' w.heap.size (More (fun _ => False) w.heap.size w'.heap.size) g noC noL 0 0 ∧ Below w.heap.size w w')) := Lib.hid (vnew_any w w.heap.size (Nat.le_refl _))
  clear h hw hn hl
  go_enter Try.func22, Try.ntmps22
  go_wp2_with (first
    | (go_at_call 30; ((with_reducible refine CN.out.mono ?_); rintro E w1 ⟨g, rfl, hv, hb⟩; have F0 : Hid (Fv w.heap.size w g 0 (More (fun _ => False) w.heap.size w1.heap.size) [] 0 w1) := Lib.hid ⟨hv, fun s => Nat.zero_le _, by omega, by omega, hb, hb.size⟩; clear hv hb)))
  go_loopw [5, 13] (fun told idx wr => ∃ (i : Nat) (G : Nat → Prop) (cnt : Int) (ys : List Rs), i ≤ n ∧ idx = .int .i64 i ∧ Hid (Fv w.heap.size w g i G (xs.take i) cnt wr) ∧ Hid (wdR.Own 67 wr w.heap.size told ys) ∧ Hid (Fits ys (resOf (okOf (xs.take i)))) ∧ Hid (∀ k, told.ownBlock = some k → ¬ G k)) (fun _ idx _ => n - (intOf idx).toNat)
  case atStart => exact ⟨0, _, 0, [], Nat.zero_le _, rfl, F0, Lib.hid (Wd.Own.void _ _ _), Lib.hid Fits.nil, Lib.hid fun k hk => by cases hk⟩
  case round =>
    obtain ⟨i, G, cnt, ys, hi, rfl, HF, HO, HY, HA⟩ := hrel
    have i00 : (0 : Int) ≤ i := by omega
    by_cases hin : i < n
    · have kin : (i : Int) < n := by omega
      obtain ⟨B, off, rfl, HC⟩ := hd.resolve_left (by omega)
      have hix : i < xs.length := by rw [← HN.out]; exact hin
      obtain ⟨x1, x2, cs, hx⟩ : ∃ a b cs, layT.at xs i = ((a, b), cs) := ⟨_, _, _, rfl⟩
      have HWC := HWX.out _ (layT.at_mem hix)
      rw [hx] at HWC
      obtain ⟨p', cap2, hp2, -, -, -⟩ := partT HC.out hix hx
      obtain ⟨m', hm'⟩ : ∃ m', m' = cs.length := ⟨_, rfl⟩
      rw [← hm'] at hp2
      have HS : Hid (∀ X, Below w.heap.size w X → X.cell? ⟨B, off + i * 3, none⟩ = some (.int .i64 x1) ∧ X.cell? ⟨B, off + i * 3 + 1, none⟩ = some (.int .i64 x2) ∧ X.cell? ⟨B, off + i * 3 + 2, none⟩ = some (.slice p' m' cap2)) := Lib.hid fun X hb => by
        obtain ⟨c0, c1, -⟩ := cellT (HC.out.on hb) hix hx
        exact ⟨c0, c1, (hb.cell (p := ⟨B, off + i * 3 + 2, none⟩) HC.out.lt).trans hp2⟩
      have HRC : Hid (∀ X, Below w.heap.size w X → layC.Row X (.slice p' m' cap2) cs) := Lib.hid fun X hb => by
        obtain ⟨-, -, v, e1, e2⟩ := cellT (HC.out.on hb) hix hx
        have e3 := (hb.cell (p := ⟨B, off + i * 3 + 2, none⟩) HC.out.lt).trans hp2
        rw [e1] at e3
        cases e3; exact e2
      have HTK : Hid (xs.take (i + 1) = xs.take i ++ [((x1, x2), cs)]) := Lib.hid (by rw [layT.take hix, hx])
      have hb1 := Cmd.below_one wr (.cells #[.int .i64 x1, .int .i64 x2, .slice p' m' cap2] 51)
      have HX := heap_alloc_new wr (.cells #[.int .i64 x1, .int .i64 x2, .slice p' m' cap2] 51)
      obtain ⟨W1, hW1⟩ : ∃ W1, W1 = wr.alloc (.cells #[.int .i64 x1, .int .i64 x2, .slice p' m' cap2] 51) := ⟨_, rfl⟩
      obtain ⟨s0, s1, s2⟩ := HS.out wr HF.out.below
      have HF1 : Hid (Fv w.heap.size w g i G (xs.take i) cnt W1) := Lib.hid (by rw [hW1]; exact HF.out.on hb1)
      have HO1 : Hid (wdR.Own 67 W1 w.heap.size u5 ys) := Lib.hid (by rw [hW1]; exact Wd.Own.below HO.out hb1)
      obtain ⟨e0, e1, e2⟩ := box3 (by rw [← hW1] at HX; exact HX)
      have CA := Lib.hid (HF1.out.call x1 x2 _ cs HRC.out HWC (by have := KN.out; omega))
      have HYL : Hid (ys.length + 8 ≤ 1000000) := Lib.hid (by have h1 := HY.out.len; have h2 := resOf_okOf_len (xs.take i); rw [List.length_take] at h2; have := KN.out; omega)
      clear hix hx hp2 hm' HWC hd hb1 HX
      go_upto_region 6 with fail
      rw [← hW1]
      clear hW1 s0 s1 s2
      go_upto_region 7 with (first
        | (go_at_call 31; ((with_reducible refine CA.out.mono ?_); rintro E w3 ⟨t, zs, G', c', rfl, ht, hfit, hv, ho, hG, htk, hc'⟩; have HF3 := Lib.hid (HF1.out.next hv ho hc'); have HO3 : Hid (wdR.Own 67 w3 w.heap.size u5 ys) := Lib.hid (ownR_far HO1.out ho HA.out); have HA3 : Hid (∀ k, u5.ownBlock = some k → ¬ G' k) := Lib.hid (fun k hk hg => (hG k hg).elim (HA.out k hk) (fun e => by have := (World.ownsRow.lt HO1.out k hk).2; omega)); have HT3 := Lib.hid ht.row; have HZ3 : Hid (Fits (ys ++ zs) (resOf (okOf (xs.take i ++ [((x1, x2), cs)])))) := Lib.hid (by rw [stR_okOf]; exact HY.out.app hfit); have HZL : Hid (ys.length + zs.length ≤ 1000000) := Lib.hid (by have h1 := hfit.len; have h2 := stR_len (cellOf (okOf (xs.take i))) (x1, x2) cs; have := HYL.out; omega); clear ht hfit hv ho hG htk hc')))
      rw [← HTK.out] at HF3 HZ3
      go_wp2_with (first
        | (at_builtin; refine row_wp wtR rfl _ _ rfl w.heap.size _ _ rfl HO3.out HF3.out.size _ _ rfl HT3.out HZL.out ?_; intro v5 w5 HO5 HG5 HN5; have HF5 := Lib.hid (HF3.out.far (Only.row HG5.out (fun k hk => hk)) (fun j hj e => HA3.out j e hj) (fun j hj => (World.ownsRow.lt HO3.out j hj).1)); have HA5 : Hid (∀ k, v5.ownBlock = some k → ¬ G' k) := Lib.hid (fun k hk hg => (by rcases HN5.out with e | e; rw [e] at hk; exact HA3.out k hk hg; rw [e] at hk; cases hk; have := (HF3.out.vp.foot _ hg).2; omega))))
      go_roundw
      case rel => exact ⟨i + 1, _, _, _, by omega, by go_num, HF5, HO5, HZ3, HA5⟩
      case measure => simp [intOf]; omega
    · obtain rfl : i = n := by omega
      have kin : ¬ (i : Int) < i := by omega
      rw [HT.out] at HF HY
      clear hd
      go_wp2_with fail
      go_ret2
      exact ⟨g, G, cnt, _, ys, rfl, (by have := HF.out; rw [HN.out] at this; exact this), Wd.Own.row HO.out, HY.out⟩
/-! ### The calls that stand on it -/
set_option maxRecDepth 100000 in
theorem fcell_any (v : Value) (xs : List Itm) (s : List UInt8) (w : World) (h : layT.Row w v xs) (hw : ∀ x ∈ xs, wfT x) (hl : xs.length ≤ 1000) (hs : s.length ≤ 140737488351232) : Calls Try.prog 9 #[v, .string (str s)] w (GivesFold (cellOf (okOf xs) s) w) := by
  have hb0 := Cmd.below_one w (.cells #[.bool false, .float .f64 0] 30)
  have B0 := Lib.hid hb0
  have X0 := Lib.hid (Bx.new w false 0)
  have CA := Lib.hid (fall_any v xs _ (h.on hb0) hw hl)
  have HSZ := Lib.hid hs
  obtain ⟨p, cap, rfl, -⟩ := id h
  clear h hw hl hs hb0
  go_enter Try.func9, Try.ntmps9
  go_wp2_with (first
    | (go_at_call 22; ((with_reducible refine CA.out.mono ?_); rintro E w1 ⟨g, F, cnt, u, ys, rfl, hf, hr, hy⟩; have X1 := Lib.hid (X0.out.on hf.below); have B1 := Lib.hid (B0.out.trans (hf.below.mono B0.out.size)); have CG : Hid (Calls Try.prog 23 #[.pointer (some ⟨g, 0, none⟩), .string (str s)] w1 (GivesFold (cellOf (okOf xs) s) w1)) := Lib.hid (vget_any hf.vp s HSZ.out); clear hf hr hy))
    | (go_at_call 23; ((with_reducible refine CG.out.mono ?_); rintro E w2 ⟨f, z, rfl, hf, hb⟩; have F2 := Lib.hid hf; have B2 := Lib.hid (B1.out.trans (hb.mono B1.out.size)); have X2 := Lib.hid (X1.out.on hb); obtain ⟨b0, b1, b2, b3⟩ := X2.out.facts; have P := Lib.hid (boxed_put B2.out X2.out f z); clear hf hb)))
  exact bodyPost_ret (cell_result rfl _ rfl P.out.2.facts.1 P.out.2.facts.2.1) rfl ⟨f, z, rfl, F2.out, P.out.1⟩
set_option maxRecDepth 100000 in
theorem fwriters_any (v : Value) (xs : List Itm) (s : List UInt8) (w : World) (h : layT.Row w v xs) (hw : ∀ x ∈ xs, wfT x) (hl : xs.length ≤ 1000) (hs : s.length ≤ 140737488351232) : Calls Try.prog 12 #[v, .string (str s)] w (layW.Gives (logOf (okOf xs) s) w) := by
  have CA := Lib.hid (fall_any v xs w h hw hl)
  have HSZ := Lib.hid hs
  have HLL : Hid ((logOf (okOf xs) s).length ≤ 100000) := Lib.hid (by have h1 := logOf_le s (okOf xs); have h2 := okOf_cmds xs; omega)
  obtain ⟨p, cap, rfl, -⟩ := id h
  clear h hw hl hs
  go_enter Try.func12, Try.ntmps12
  go_wp2_with (first
    | (go_at_call 22; ((with_reducible refine CA.out.mono ?_); rintro E w1 ⟨g, F, cnt, u, ys, rfl, hf, hr, hy⟩; have B1 := Lib.hid hf.below; have CG : Hid (Calls Try.prog 25 #[.pointer (some ⟨g, 0, none⟩), .string (str s)] w1 (GivesL (logOf (okOf xs) s) w1)) := Lib.hid (vlog_any hf.vp s HSZ.out HLL.out); clear hf hr hy))
    | (go_at_call 25; ((with_reducible refine CG.out.mono ?_); rintro E w2 ⟨v2, rfl, ho, hb⟩; have R2 := Lib.hid (Wd.Own.row ho); have B2 := Lib.hid (B1.out.trans (hb.mono B1.out.size)); clear ho hb)))
  go_ret
  exact ⟨v2, rfl, R2.out, B2.out⟩
set_option maxRecDepth 100000 in
theorem fresults_any (v : Value) (xs : List Itm) (w : World) (h : layT.Row w v xs) (hw : ∀ x ∈ xs, wfT x) (hl : xs.length ≤ 1000) : Calls Try.prog 15 #[v] w (GivesRes (resOf (okOf xs)) w) := by
  have CA := Lib.hid (fall_any v xs w h hw hl)
  obtain ⟨p, cap, rfl, -⟩ := id h
  clear h hw hl
  go_enter Try.func15, Try.ntmps15
  go_wp2_with (first
    | (go_at_call 22; ((with_reducible refine CA.out.mono ?_); rintro E w1 ⟨g, F, cnt, u, ys, rfl, hf, hr, hy⟩; have B1 := Lib.hid hf.below; have R1 := Lib.hid hr; have Y1 := Lib.hid hy; clear hf hr hy)))
  go_ret
  exact ⟨u, ys, rfl, R1.out, Y1.out, B1.out⟩
end Go.Proofs.Ytdnabghhjlhjoaa.Fol
