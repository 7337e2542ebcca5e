/- The statement's function of layer 3 (ident) on a list and an id: it returns true. Conditions: the list lies in memory as its cells say; the library's tables and errors as they are laid (Env). -/
import Derived.Test.YtnjaoohgmfphgaaDoorIdW
import Derived.Test.YtnjaoohgmfphgaaDoorIdG
namespace Go.Proofs.YtnjaoohgmfphgaaDoor
open Go.RowKit Go.Lib
set_option linter.unusedVariables false

theorem RowAt.cells {w : World} {v : Value} {zs : List Idn} (h : RowAt w v zs) (hz : zs ≠ []) : ∃ ad cap, v = .slice (some ad) zs.length cap ∧ (flat zs).length = zs.length * 2 ∧ (∀ j u, (flat zs)[j]? = some u → w.cell? (ad.add j) = some u) := by
  obtain ⟨p, cap, rfl, h1, h2, -, h3⟩ := h
  obtain ⟨B, off, rfl, hlt, hc⟩ := h3 hz
  refine ⟨_, cap, rfl, flat_len zs, fun j u hu => ?_⟩
  have hj : j / 2 < zs.length := by
    have := (List.getElem?_eq_some_iff.1 hu).1
    rw [flat_len] at this; omega
  have h4 := hc _ hj
  have h5 := flat_at zs _ hj
  have ha : ((⟨B, off, none⟩ : Addr).add j) = ⟨B, off + j, none⟩ := Addr.add_lit _ _ _
  rw [ha]
  rcases Nat.mod_two_eq_zero_or_one j with h2 | h2
  · have e : j / 2 * 2 = j := by omega
    rw [e] at h4 h5
    rw [h5.1] at hu
    rw [h4.1, ← hu]
  · have e : j / 2 * 2 + 1 = j := by omega
    rw [Nat.add_assoc, e] at h4
    rw [e] at h5
    rw [h5.2] at hu
    rw [h4.2, ← hu]
theorem flat_one (zs : List Idn) : ∀ u ∈ flat zs, u.oneCell' = true := fun u hu => by
  unfold flat at hu
  rw [List.mem_flatMap] at hu
  obtain ⟨x, _, hx⟩ := hu
  simp [ids] at hx
  rcases hx with rfl | rfl <;> rfl
/-- append of a list of ids to an empty slice of the call's own. -/
theorem wpList_append_ids {w : World} {ops : Array Oper} {rest : List Oper} {o : Oper} {a : Act} {Q : Exit → Act → World → Prop} (hgd : o.guard = none) (s x : Operand)
    (ho : o.op = .call { callee := .builtin .append, args := #[s, x], argTypes := #[35, 35] }) (base : Nat) (v0 v : Value) (zs : List Idn) (hs : a.eval s = v0) (hown : w.ownsRow base 23 2 v0 0 []) (hx : a.eval x = v) (hrow : RowAt w v zs) (hl : zs.length ≤ 100000) (hbase : base ≤ w.heap.size)
    (h : ∀ v' w', Owns w' base v' zs → w.grownBy w' v0.ownBlock → wpList Tryd.prog ops Q rest (a.put o.dst v') w') : wpList Tryd.prog ops Q (o :: rest) a w := by
  obtain ⟨i0, hi, hz0, hz1, hz2⟩ := info_parts info_id
  by_cases hz : zs = []
  · subst hz
    obtain ⟨p, cap, rfl, h1, h2, h0, h3⟩ := hrow
    cases p with
    | none =>
      have hc := h0 rfl
      subst hc
      exact wpList_append_own_none hgd s x 35 ho base 23 i0 2 Tryd.underlying35 hi v0 0 [] hs hown hx (h v0 w hown ⟨rfl, rfl, rfl, Nat.le_refl _, fun _ _ _ => rfl⟩)
    | some ad =>
      exact wpList_append_own w hgd s x 35 ho base 23 i0 (.agg #[.int .i64 0, .int .i64 0]) 2 16 Tryd.underlying35 hi hz0 hz1 hz2 rfl (by decide) v0 0 [] hs hown ad 0 cap [] hx rfl (fun j u hu => by simp at hu) (fun u hu => by simp at hu) (by unfold maxLen; omega) (by omega) hbase fun v' w' h1 h2 _ => h v' w' h1 h2
  · obtain ⟨ad, cap, rfl, hf, hn⟩ := hrow.cells hz
    refine wpList_append_own w hgd s x 35 ho base 23 i0 (.agg #[.int .i64 0, .int .i64 0]) 2 16 Tryd.underlying35 hi hz0 hz1 hz2 rfl (by decide) v0 0 [] hs hown ad zs.length cap (flat zs) hx hf hn (flat_one zs) (by unfold maxLen; omega) (by omega) hbase fun v' w' h1 h2 _ => h v' w' ?_ h2
    rw [Nat.zero_add, List.nil_append] at h1
    exact h1

/-- What the statement's call has: the id's box, the list, its copy, and the sorted one. -/
structure Lst (w : World) (a b : Int) (v u t : Value) (zs ys : List Idn) (W : World) : Prop where
  left : Left w W
  size : w.heap.size < W.heap.size
  a0 : W.cell? ⟨w.heap.size, 0, none⟩ = some (.int .i64 a)
  a1 : W.cell? ⟨w.heap.size, 1, none⟩ = some (.int .i64 b)
  rv : RowAt W v zs
  ru : RowAt W u zs
  rt : RowAt W t ys
theorem Lst.on {w W W' : World} {a b : Int} {v u t : Value} {zs ys : List Idn} (h : Lst w a b v u t zs ys W) (hb : Below W.heap.size W W') : Lst w a b v u t zs ys W' :=
  ⟨h.left.trans (.of h.left.env hb), Nat.lt_of_lt_of_le h.size hb.size, (hb.cell (p := ⟨w.heap.size, 0, none⟩) h.size).trans h.a0, (hb.cell (p := ⟨w.heap.size, 1, none⟩) h.size).trans h.a1, h.rv.on hb, h.ru.on hb, h.rt.on hb⟩

def RetB (v : Value) (w : World) (e : Ending) (w' : World) : Prop := e = .returned v ∧ Below w.heap.size w w'
theorem same_b (v u : Value) (zs : List Idn) (w : World) (h : RowAt w v zs) (g : RowAt w u zs) : Calls Tryd.prog 15 #[v, u] w (RetB (.bool true) w) := by
  have := same_any v u zs zs w h g
  rw [decide_eq_true rfl] at this
  exact this

set_option maxHeartbeats 8000000 in
set_option maxRecDepth 100000 in
theorem lists_any (v : Value) (zs : List Idn) (a b : Int) (w : World) (hE : Env w) (h : RowAt w v zs) : Calls Tryd.prog 5 #[v, .agg #[.int .i64 a, .int .i64 b]] w (GivesTrue w) := by
  have HWK := Lib.hid works_any
  have HR := Lib.hid h
  have hv : ∃ p cap, v = .slice p zs.length cap := by obtain ⟨p, cap, e, _⟩ := h; exact ⟨p, cap, e⟩
  obtain ⟨p, cap, hv⟩ := hv
  obtain ⟨n, hn⟩ : ∃ n, zs.length = n := ⟨_, rfl⟩
  have HB := Lib.hid (Boxed.start w a b)
  have HE0 := Lib.hid (Left.of hE (below_one w (cells a b)))
  have HN := Lib.hid hn
  subst hv
  rw [hn] at HR ⊢
  clear h hn hE
  by_cases hl : 200 < n
  · have h1 : 200 < (n : Int) := by omega
    have HE1 : Hid (Env (w.alloc (.cells #[.int .i64 a, .int .i64 b] 23))) := Lib.hid HE0.out.env
    go_enter Tryd.func5, Tryd.ntmps5
    go_wp2_with (go_at_call 10; (with_reducible refine (HWK.out _ HE1.out).mono ?_); rintro e w4 ⟨rfl, hL4⟩; have HL4 := Lib.hid hL4; clear hL4)
    go_ret
    exact ⟨rfl, HE0.out.trans HL4.out⟩
  · have h1 : ¬ 200 < (n : Int) := by omega
    have hb0 : Below w.heap.size w ((w.alloc (.cells #[.int .i64 a, .int .i64 b] 23)).alloc (.cells #[] 23)) := (below_one w _).trans ((below_one _ _).mono (by simp))
    have HRW := Lib.hid (HR.out.on hb0)
    have HOW : Hid (((w.alloc (.cells #[.int .i64 a, .int .i64 b] 23)).alloc (.cells #[] 23)).ownsRow (w.heap.size + 1) 23 2 (.slice (some ⟨w.heap.size + 1, 0, none⟩) 0 0) 0 []) := Lib.hid (by
      have := World.ownsRow_made (base := w.heap.size + 1) (e := 23) (size := 2) (w.alloc (.cells #[.int .i64 a, .int .i64 b] 23)) #[] 0 (by simp) (by decide) rfl
      simpa using this)
    have HLE : Hid (zs.length ≤ 100000) := Lib.hid (by rw [HN.out]; omega)
    clear hb0
    go_enter Tryd.func5, Tryd.ntmps5
    go_wp2_with (first
      | (at_builtin; refine wpList_append_ids rfl _ _ rfl (w.heap.size + 1) _ _ zs rfl HOW.out rfl HRW.out HLE.out (by simp) ?_; intro u w1 hown1 hgrow1; refine Hid.out ?_))
    have hb1 : Below (w.heap.size + 1) (w.alloc (cells a b)) w1 := Below.grown ((Below.refl _ (w.alloc (cells a b))).alloc (by simp) _) hgrow1 (by simp) (fun k hk => (World.ownsRow.lt HOW.out k hk).1)
    have hbx := HB.out.on (hb1.mono (by simp))
    have HT1 : Hid (Lst w a b (.slice p n cap) u u zs zs w1) := Lib.hid ⟨.of HE0.out.env (hb1.mono (by simp)) |> HE0.out.trans, hbx.lt, hbx.fst, hbx.snd, HR.out.on hbx.below, Owns.row hown1, Owns.row hown1⟩
    have HSO := Lib.hid (sorted_any u zs w1 HT1.out.ru HLE.out)
    clear hown1 hgrow1 hb1 hbx HRW HOW HB HE0 HR
    refine Lib.hid ?_
    go_wp2_with (first
      | (go_at_call 14; (with_reducible refine HSO.out.mono ?_); rintro e w2 ⟨t, rfl, ht, hb⟩; have HT2 : Hid (Lst w a b (.slice p n cap) u t zs (srt zs) w2) := Lib.hid (by have q := HT1.out.on hb; exact ⟨q.left, q.size, q.a0, q.a1, q.rv, q.ru, ht⟩); clear ht hb; refine Hid.out ?_))
    obtain ⟨r, hr⟩ : ∃ r, rises zs = r := ⟨_, rfl⟩
    obtain ⟨m, hm⟩ : ∃ m, decide ((a, b) ∈ zs) = m := ⟨_, rfl⟩
    have C1 : Hid (∀ W, RowAt W u zs → RowAt W (.slice p n cap) zs → Calls Tryd.prog 15 #[u, .slice p n cap] W (RetB (.bool true) W)) := Lib.hid fun W h1 h2 => same_b _ _ zs W h1 h2
    have C2 : Hid (∀ W, RowAt W (.slice p n cap) zs → Calls Tryd.prog 16 #[.slice p n cap] W (RetB (.bool r) W)) := Lib.hid fun W h => by have := rising_any _ zs W h; rw [hr] at this; exact this
    have C3 : Hid (∀ W, RowAt W (.slice p n cap) zs → Calls Tryd.prog 17 #[.slice p n cap] W (RetB (.bool r) W)) := Lib.hid fun W h => by have := refrising_any _ zs W h; rw [hr] at this; exact this
    have C4 : Hid (∀ W, RowAt W (.slice p n cap) zs → Calls Tryd.prog 18 #[.slice p n cap] W (GivesRow (srt zs) W)) := Lib.hid fun W h => refsorted_any _ zs W h HLE.out
    have C5 : Hid (∀ W q, RowAt W t (srt zs) → RowAt W q (srt zs) → Calls Tryd.prog 15 #[t, q] W (RetB (.bool true) W)) := Lib.hid fun W q h1 h2 => same_b _ _ (srt zs) W h1 h2
    have C6 : Hid (∀ W, RowAt W t (srt zs) → Calls Tryd.prog 16 #[t] W (RetB (.bool true) W)) := Lib.hid fun W h => by have := rising_any _ (srt zs) W h; rw [rises_rise.2 (srt_rise zs)] at this; exact this
    have C7 : Hid (∀ W, RowAt W (.slice p n cap) zs → Calls Tryd.prog 19 #[.slice p n cap, .agg #[.int .i64 a, .int .i64 b]] W (RetB (.bool m) W)) := Lib.hid fun W h => by have := has_any _ zs a b W h; rw [hm] at this; exact this
    have C8 : Hid (∀ W, RowAt W (.slice p n cap) zs → Calls Tryd.prog 20 #[.slice p n cap, .agg #[.int .i64 a, .int .i64 b]] W (RetB (.bool m) W)) := Lib.hid fun W h => by have := refhas_any _ zs a b W h; rw [hm] at this; exact this
    have er : ∀ w, (binOp .eql 4 (.bool r) (.bool r)).run Tryd.prog w = .ok (.bool true) w := fun w => by rw [run_eql_bool _ _ _ _ Tryd.underlying4]; simp
    have em : ∀ w, (binOp .eql 4 (.bool m) (.bool m)).run Tryd.prog w = .ok (.bool true) w := fun w => by rw [run_eql_bool _ _ _ _ Tryd.underlying4]; simp
    have HD := Lib.hid (HT2.out.on (Below.refl w2.heap.size w2).drew)
    have d0 := HT2.out.a0
    have d1 := HT2.out.a1
    clear hr hm HSO HT1 HLE HN
    refine Lib.hid ?_
    go_wp2
    go_region_held3 (fun w' => w'.cell? ⟨w.heap.size, 0, none⟩ = some (.int .i64 a) ∧ w'.cell? ⟨w.heap.size, 1, none⟩ = some (.int .i64 b))
      (first
        | exact ⟨HD.out.a0, HD.out.a1⟩
        | exact ⟨D1.out.a0, D1.out.a1⟩
        | exact ⟨D2.out.a0, D2.out.a1⟩
        | exact ⟨D3.out.a0, D3.out.a1⟩
        | exact ⟨D4.out.a0, D4.out.a1⟩
        | exact ⟨D5.out.a0, D5.out.a1⟩
        | exact ⟨D6.out.a0, D6.out.a1⟩
        | exact ⟨D7.out.a0, D7.out.a1⟩
        | exact ⟨D8.out.a0, D8.out.a1⟩
        | exact ⟨D9.out.a0, D9.out.a1⟩
        | go_keep)
      (first
        | (go_at_call 15; (with_reducible refine (C1.out _ HD.out.ru HD.out.rv).mono ?_); rintro e x1 ⟨rfl, hb⟩; have D1 := Lib.hid (HD.out.on hb); clear hb)
        | (go_at_call 16; (with_reducible refine (C2.out _ D1.out.rv).mono ?_); rintro e x2 ⟨rfl, hb⟩; have D2 := Lib.hid (D1.out.on hb); clear hb)
        | (go_at_call 17; (with_reducible refine (C3.out _ D2.out.rv).mono ?_); rintro e x3 ⟨rfl, hb⟩; have D3 := Lib.hid (D2.out.on hb); clear hb)
        | (go_at_call 18; (with_reducible refine (C4.out _ D3.out.rv).mono ?_); rintro e x4 ⟨q, rfl, hq, hb⟩; have D4 := Lib.hid (D3.out.on hb); have HQ := Lib.hid hq; clear hb hq)
        | (go_at_call 15; (with_reducible refine (C5.out _ _ D4.out.rt HQ.out).mono ?_); rintro e x5 ⟨rfl, hb⟩; have D5 := Lib.hid (D4.out.on hb); clear hb)
        | (go_at_call 16; (with_reducible refine (C6.out _ D5.out.rt).mono ?_); rintro e x6 ⟨rfl, hb⟩; have D6 := Lib.hid (D5.out.on hb); clear hb)
        | (go_at_call 19; (with_reducible refine (C7.out _ D6.out.rv).mono ?_); rintro e x7 ⟨rfl, hb⟩; have D7 := Lib.hid (D6.out.on hb); clear hb)
        | (go_at_call 20; (with_reducible refine (C8.out _ D7.out.rv).mono ?_); rintro e x8 ⟨rfl, hb⟩; have D8 := Lib.hid (D7.out.on hb); clear hb)
        | (go_at_call 10; (with_reducible refine (HWK.out _ D8.out.left.env).mono ?_); rintro e x9 ⟨rfl, hL⟩; have D9 := Lib.hid (D8.out.on hL.below); clear hL))
    go_wp2
    go_ret
    exact ⟨rfl, D9.out.left⟩
end Go.Proofs.YtnjaoohgmfphgaaDoor
