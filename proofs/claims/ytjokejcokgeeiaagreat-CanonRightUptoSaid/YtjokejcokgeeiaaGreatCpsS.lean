/- What the document's Sorted gives (layer 17, comps): ids that are there, in the order of their records. Conditions: the rows lie in memory as their cells say; not more than 50000 ids. (Written by tools/gen_cpss.py.) -/
import Derived.Test.YtjokejcokgeeiaaGreatReg
import Derived.Test.YtjokejcokgeeiaaGreatCpsA
import Derived.Maps.AppendAt
import Derived.Test.YtjokejcokgeeiaaGreatSls
namespace Go.Proofs.YtjokejcokgeeiaaGreat.Cps
open Go.RowKit Cmd Bat Ids Rec Wid Gra Rea
set_option linter.unusedVariables false
set_option linter.unusedSimpArgs false

set_option maxRecDepth 100000 in
/-- append of one id to a row of the call's own. -/
theorem push_id {ops : Array Oper} {rest : List Oper} {o : Oper} {a : Act} {Q : Exit → Act → World → Prop} {w : World} (hgd : o.guard = none) (s x : Operand) (ho : o.op = .call { callee := .builtin .append, args := #[s, x], argTypes := #[38, 38] })
    (base : Nat) (v : Value) (zs : List Idn) (hs : a.eval s = v) (hv : Owns w base v zs) (hb : base ≤ w.heap.size) (eb : Nat) (y z : Int) (hx : a.eval x = .slice (some ⟨eb, 0, none⟩) 1 1) (he : w.heap[eb]? = some (.cells #[.int .i64 y, .int .i64 z] 43 (0, 0))) (hl : zs.length + 1 ≤ 1000000)
    (hK : ∀ v' w', Hid (Owns w' base v' (zs ++ [(y, z)])) → Hid (Below base w w') → wpList Tryz.prog ops Q rest (a.put o.dst v') w') : wpList Tryz.prog ops Q (o :: rest) a w := by
  obtain ⟨i0, hi, hz0, hz1, hz2⟩ := info_parts info_id
  have hc : ∀ j u, [Value.int .i64 y, Value.int .i64 z][j]? = some u → w.cell? ((⟨eb, 0, none⟩ : Addr).add j) = some u := fun j u hu => by
    rw [Bat.add_lit]
    match j, hu with
    | 0, hu => injection hu with hu; subst hu; exact cell_row he rfl
    | 1, hu => injection hu with hu; subst hu; exact cell_row he rfl
    | j + 2, hu => simp at hu
  refine wpList_append_own w hgd s x 38 ho base 43 i0 (.agg #[.int .i64 0, .int .i64 0]) 2 16 Tryz.underlying38 hi hz0 hz1 hz2 rfl (by decide) v zs.length (flat zs) hs hv ⟨eb, 0, none⟩ 1 1 [.int .i64 y, .int .i64 z] hx rfl hc (by simp [Value.oneCell']) (by unfold maxLen; omega) (by omega) hb fun v' w' h1 h2 _ => hK v' w' (Lib.hid (Owns.snoc h1)) (Lib.hid (below_grown (Below.refl base w) (Nat.le_refl _) hv hb h2))
theorem half_len (rs : List Rcd) (x : Idn) (l : List Idn) : (half rs x l).1.length ≤ l.length + 1 := by
  have h := congrArg List.length (half_done rs x l)
  rw [insR_len] at h
  split at h
  · omega
  · rw [List.length_append] at h; simp at h; omega
theorem rec_cells {w : World} {B off : Nat} {rs : List Rcd} (h : layG.In w B off rs) {j : Nat} {a b : Int} (hj : j < rs.length) (hx : (layG.at rs j).1 = (a, b)) (hn : ∀ i, i < j → (layG.at rs i).1 ≠ (a, b)) : ∃ (p1 : Option Addr) (n1 k1 : Nat) (p2 : Option Addr) (n2 k2 : Nat), ∀ W, Below w.heap.size w W →
    W.cell? ⟨B, off + j * 5, none⟩ = some (.int .i64 a) ∧ W.cell? ⟨B, off + j * 5 + 1, none⟩ = some (.int .i64 b) ∧ W.cell? ⟨B, off + j * 5 + 2, none⟩ = some (.int .i64 (seqG rs (a, b))) ∧ W.cell? ⟨B, off + j * 5 + 3, none⟩ = some (.slice p1 n1 k1) ∧ W.cell? ⟨B, off + j * 5 + 4, none⟩ = some (.slice p2 n2 k2) := by
  obtain ⟨q, ds, cs, hq⟩ : ∃ q ds cs, layG.at rs j = ((a, b), q, ds, cs) := ⟨_, _, _, by rw [← hx]⟩
  obtain ⟨p, cap, p', cap', hr, -, -⟩ := rcdAt h hj hq
  have hs : seqG rs (a, b) = q := by rw [seq_at hj hx hn, hq]
  exact ⟨p, _, cap, p', _, cap', fun W hb => ⟨(hb.cell (p := ⟨B, off + j * 5, none⟩) hr.lt).trans hr.c0, (hb.cell (p := ⟨B, off + j * 5 + 1, none⟩) hr.lt).trans hr.c1, by rw [hs]; exact (hb.cell (p := ⟨B, off + j * 5 + 2, none⟩) hr.lt).trans hr.c2, (hb.cell (p := ⟨B, off + j * 5 + 3, none⟩) hr.lt).trans hr.c3, (hb.cell (p := ⟨B, off + j * 5 + 4, none⟩) hr.lt).trans hr.c4⟩⟩
theorem own_on {w w' : World} {base : Nat} {v : Value} {zs : List Idn} (h : Owns w base v zs) (hb : Below w.heap.size w w') : Owns w' base v zs := Bat.own_below h hb
/-- A result that is a row of ids of the call's own. -/
def GivesOwn (zs : List Idn) (w : World) : Ending → World → Prop := fun e W => ∃ v, e = .returned v ∧ Owns W w.heap.size v zs ∧ Below w.heap.size w W
theorem void_own (w : World) : Owns (w.alloc (.cells #[] 43)) w.heap.size (.slice (some ⟨w.heap.size, 0, none⟩) 0 0) [] := World.ownsRow_made w #[] 0 (Nat.le_refl _) (by decide) rfl
set_option maxRecDepth 100000 in
set_option maxHeartbeats 16000000 in
theorem refsorto_any (v u : Value) (rs : List Rcd) (l : List Idn) (w : World) (h : layG.Row w v rs) (g : RowAt w u l) (hl : l.length ≤ 50000) : Calls Tryz.prog 57 #[v, u] w (GivesOwn (sortR rs l) w) := by
  obtain ⟨p, cap, rfl, h1, hd⟩ := h.parts
  obtain ⟨pu, cu, rfl, hlu, hdu⟩ := Rec.RowAt.parts g
  have HV := Lib.hid h
  obtain ⟨n, hn⟩ : ∃ n, n = rs.length := ⟨_, rfl⟩
  obtain ⟨m, hm⟩ : ∃ m, m = l.length := ⟨_, rfl⟩
  rw [← hn] at h1 hd HV ⊢
  rw [← hm] at hlu hdu hl ⊢
  have HN := Lib.hid hn
  have HM := Lib.hid hm
  have O0 := Lib.hid (void_own w)
  have B0 := Lib.hid (Cmd.below_one w (.cells #[] 43))
  clear h g hn hm
  go_enter Tryz.func57, Tryz.ntmps57
  go_wp2
  go_loopw [5, 6] (fun o i wr => ∃ k : Nat, k ≤ m ∧ i = .int .i64 k ∧ Hid (Below w.heap.size w wr) ∧ Hid (Owns wr w.heap.size o (sortR rs (l.take k)))) (fun _ i _ => m - (intOf i).toNat)
  case atStart => exact ⟨0, Nat.zero_le _, rfl, B0, O0⟩
  case round =>
    obtain ⟨k, hk, rfl, hb, hrow⟩ := hrel
    have k0 : (0 : Int) ≤ k := by omega
    by_cases hkm : k < m
    · have km : (k : Int) < m := by omega
      obtain ⟨B, off, rfl, HC⟩ := hdu.resolve_left (by omega)
      have hkl : k < l.length := by rw [← HM.out]; exact hkm
      obtain ⟨⟨x, y⟩, hxy⟩ : ∃ z, nth l k = z := ⟨_, rfl⟩
      have hrc := HC.out.on hb.out
      have c0 := hrc.fst k hkl
      have c1 := hrc.snd k hkl
      rw [hxy] at c0 c1
      have HST : Hid (sortR rs (l.take (k + 1)) = if (x, y) ∈ idsG rs ∧ (x, y) ∉ sortR rs (l.take k) then insR rs (x, y) (sortR rs (l.take k)) else sortR rs (l.take k)) := Lib.hid (by rw [take_nth hkl, hxy, sortR_snoc])
      have HFn := Lib.hid (find_any _ rs x y wr (HV.out.on hb.out))
      have HLT := Lib.hid hrc.lt
      have C01 := Lib.hid (And.intro c0 c1)
      rcases find_cases rs (x, y) with ⟨j, hj, hje, hjn, hf, hjm⟩ | ⟨hf, hjm⟩
      · rw [hf] at HFn
        have dj0 : decide ((j : Int) < 0) = false := decide_eq_false (by omega)
        have HH := Lib.hid (fun W (hw : Below wr.heap.size wr W) o (ho : RowAt wr o (sortR rs (l.take k))) => refhas_any o _ x y W (ho.on hw))
        by_cases hin : (x, y) ∈ sortR rs (l.take k)
        · rw [decide_eq_true hin] at HH
          have HE : Hid (sortR rs (l.take (k + 1)) = sortR rs (l.take k)) := Lib.hid (by rw [HST.out, if_neg (fun h => h.2 hin)])
          clear hd hdu hxy hkl hf hjm hje hjn hj hin hrc
          go_wp2_with (first
            | (go_at_call 20; ((with_reducible refine HFn.out.mono ?_); rintro e w2 ⟨rfl, hb2⟩; have B2 := Lib.hid hb2; have e0 := (hb2.cell (p := ⟨B, off + k * 2, none⟩) HLT.out).trans C01.out.1; have e1 := (hb2.cell (p := ⟨B, off + k * 2 + 1, none⟩) HLT.out).trans C01.out.2; have H2 := Lib.hid (HH.out w2 hb2 _ hrow.out.row); clear hb2))
            | (go_at_call 34; ((with_reducible refine H2.out.mono ?_); rintro e w3 ⟨rfl, hb3⟩; have B3 := Lib.hid (B2.out.trans (hb3.mono B2.out.size)); clear hb3)))
          go_roundw
          case rel => exact ⟨k + 1, by omega, by go_num, Lib.hid (hb.out.trans (B3.out.mono hb.out.size)), Lib.hid (by rw [HE.out]; exact own_on hrow.out B3.out)⟩
          case measure => simp [intOf]; omega
        · rw [decide_eq_false hin] at HH
          have HO := Lib.hid (half_done rs (x, y) (sortR rs (l.take k)))
          have HE : Hid (sortR rs (l.take (k + 1)) = insR rs (x, y) (sortR rs (l.take k))) := Lib.hid (by rw [HST.out, if_pos ⟨hjm, hin⟩])
          obtain ⟨out, hout⟩ : ∃ out, out = sortR rs (l.take k) := ⟨_, rfl⟩
          rw [← hout] at HO HE HH hrow
          have HL : Hid (out.length ≤ 50000) := Lib.hid (by rw [hout]; exact Nat.le_trans (sortR_len _ _) (by rw [List.length_take]; omega))
          have HM2 : Hid (∀ z ∈ out, z ∈ idsG rs) := Lib.hid (fun z hz => by rw [hout] at hz; exact (sortR_mem.1 hz).2)
          obtain ⟨po, co, rfl, hlo, hdo⟩ := Rec.RowAt.parts hrow.out.row
          obtain ⟨nq, hnq⟩ : ∃ nq, nq = out.length := ⟨_, rfl⟩
          have HNQ := Lib.hid hnq
          obtain ⟨B', off', rfl, HR⟩ := hd.resolve_left (by have := HN.out; omega)
          obtain ⟨p1, n1, k1, p2, n2, k2, HX⟩ := rec_cells HR.out hj hje hjn
          have HX := Lib.hid HX
          have jn : (j : Int) < n := by have := HN.out; omega
          have j0 : (0 : Int) ≤ j := by omega
          rw [← hnq] at hlo hdo hrow ⊢
          clear hxy hkl hf hjm hje hjn hj hin hrc hout HST hnq
          go_wp2_with (first
            | (go_at_call 20; ((with_reducible refine HFn.out.mono ?_); rintro e w2 ⟨rfl, hb2⟩; have B2 := Lib.hid hb2; have e0 := (hb2.cell (p := ⟨B, off + k * 2, none⟩) HLT.out).trans C01.out.1; have e1 := (hb2.cell (p := ⟨B, off + k * 2 + 1, none⟩) HLT.out).trans C01.out.2; have H2 := Lib.hid (HH.out w2 hb2 _ hrow.out.row); clear hb2))
            | (go_at_call 34; ((with_reducible refine H2.out.mono ?_); rintro e w3 ⟨rfl, hb3⟩; have B3 := Lib.hid (B2.out.trans (hb3.mono B2.out.size)); clear hb3)))
          have HB3 := Lib.hid (hb.out.trans (B3.out.mono hb.out.size))
          have HR3 := Lib.hid (fun j a b (h1 : j < rs.length) (h2 : (layG.at rs j).1 = (a, b)) (h3 : ∀ i, i < j → (layG.at rs i).1 ≠ (a, b)) => rec_cells HR.out h1 h2 h3)
          have HV3 := Lib.hid (HV.out.on HB3.out)
          have HLL := Lib.hid (Nat.lt_of_lt_of_le HLT.out B3.out.size)
          have CL3 := Lib.hid (And.intro ((B3.out.cell (p := ⟨B, off + k * 2, none⟩) HLT.out).trans C01.out.1) ((B3.out.cell (p := ⟨B, off + k * 2 + 1, none⟩) HLT.out).trans C01.out.2))
          clear e0 e1 c0 c1 HFn H2 HH HLT C01 B2 HC hdu
          go_loopw [8, 9, 10] (fun nx dn kk W => ∃ t : Nat, t ≤ nq ∧ kk = .int .i64 t ∧ dn = .bool (half rs (x, y) (out.take t)).2 ∧ Hid (Below w3.heap.size w3 W) ∧ Hid (Owns W w3.heap.size nx (half rs (x, y) (out.take t)).1)) (fun _ _ kk _ => nq - (intOf kk).toNat)
          case atStart => exact ⟨0, Nat.zero_le _, rfl, rfl, Lib.hid (Cmd.below_one _ _), Lib.hid (void_own w3)⟩
          case round =>
            obtain ⟨t, ht, rfl, rfl, hb9, ho9⟩ := hrel
            have t0 : (0 : Int) ≤ t := by omega
            have HLZ : Hid ((half rs (x, y) (out.take t)).1.length ≤ t + 1) := Lib.hid (by have h := half_len rs (x, y) (out.take t); rw [List.length_take] at h; omega)
            have HNL : Hid (nq ≤ 50000) := Lib.hid (by have h1 := HL.out; have h2 := HNQ.out; omega)
            by_cases htn : t < nq
            · have tn : (t : Int) < nq := by omega
              obtain ⟨BO, offO, rfl, HCO⟩ := hdo.resolve_left (by omega)
              have htl : t < out.length := by rw [← HNQ.out]; exact htn
              obtain ⟨⟨x2, y2⟩, hz⟩ : ∃ z, nth out t = z := ⟨_, rfl⟩
              have hro := HCO.out.on B3.out
              have o0 := hro.fst t htl
              have o1 := hro.snd t htl
              rw [hz] at o0 o1
              have HLO := Lib.hid hro.lt
              have COUT := Lib.hid (And.intro o0 o1)
              have hzm : (x2, y2) ∈ out := by rw [← hz]; exact nth_mem htl
              have HT := Lib.hid (half_snoc rs (x, y) (out.take t) (x2, y2))
              rw [← hz, ← take_nth htl, hz] at HT
              rcases find_cases rs (x2, y2) with ⟨j2, hj2, hje2, hjn2, hf2, -⟩ | ⟨-, hno⟩
              rotate_left
              · exact absurd (HM2.out _ hzm) hno
              obtain ⟨p3, n3, k3, p4, n4, k4, HX2⟩ := rec_cells HR.out hj2 hje2 hjn2
              have j2n : (j2 : Int) < n := by have := HN.out; omega
              have j20 : (0 : Int) ≤ j2 := by omega
              have HFd := Lib.hid (fun W (hb : Below wr.heap.size wr W) => find_any _ rs x2 y2 W (HV3.out.on (hb9.out.trans (hb.mono hb9.out.size))))
              rw [hf2] at HFd
              have HS : Hid (∀ w', Below wr.heap.size wr w' → w'.cell? ⟨B', off' + j * 5, none⟩ = some (.int .i64 x) ∧ w'.cell? ⟨B', off' + j * 5 + 1, none⟩ = some (.int .i64 y) ∧ w'.cell? ⟨B', off' + j * 5 + 2, none⟩ = some (.int .i64 (seqG rs (x, y))) ∧ w'.cell? ⟨B', off' + j * 5 + 3, none⟩ = some (.slice p1 n1 k1) ∧ w'.cell? ⟨B', off' + j * 5 + 4, none⟩ = some (.slice p2 n2 k2) ∧ w'.cell? ⟨B', off' + j2 * 5, none⟩ = some (.int .i64 x2) ∧ w'.cell? ⟨B', off' + j2 * 5 + 1, none⟩ = some (.int .i64 y2) ∧ w'.cell? ⟨B', off' + j2 * 5 + 2, none⟩ = some (.int .i64 (seqG rs (x2, y2))) ∧ w'.cell? ⟨B', off' + j2 * 5 + 3, none⟩ = some (.slice p3 n3 k3) ∧ w'.cell? ⟨B', off' + j2 * 5 + 4, none⟩ = some (.slice p4 n4 k4) ∧ w'.cell? ⟨BO, offO + t * 2, none⟩ = some (.int .i64 x2) ∧ w'.cell? ⟨BO, offO + t * 2 + 1, none⟩ = some (.int .i64 y2)) := Lib.hid (fun w' hw => by
                have hw3 := hb9.out.trans (hw.mono hb9.out.size)
                have hw0 := HB3.out.trans (hw3.mono HB3.out.size)
                obtain ⟨a0, a1, a2, a3, a4⟩ := HX.out w' hw0
                obtain ⟨b0, b1, b2, b3, b4⟩ := HX2 w' hw0
                exact ⟨a0, a1, a2, a3, a4, b0, b1, b2, b3, b4, (hw3.cell (p := ⟨BO, offO + t * 2, none⟩) HLO.out).trans o0, (hw3.cell (p := ⟨BO, offO + t * 2 + 1, none⟩) HLO.out).trans o1⟩)
              have HLs := Lib.hid (fun W => refless_r x y (seqG rs (x, y)) (.slice p1 n1 k1) (.slice p2 n2 k2) x2 y2 (seqG rs (x2, y2)) (.slice p3 n3 k3) (.slice p4 n4 k4) W)
              have hlt : rLess x y (seqG rs (x, y)) x2 y2 (seqG rs (x2, y2)) = ltR rs (x, y) (x2, y2) := rfl
              rw [hlt] at HLs
              have DY0 : Hid (Below wr.heap.size wr wr.drew) := Lib.hid (Below.refl _ _).drew
              generalize ltR rs (x, y) (x2, y2) = lt at HLs HT
              generalize half rs (x, y) (out.take t) = hh at HT ho9 HLZ
              obtain ⟨zs, dn⟩ := hh
              generalize seqG rs (x, y) = q at HS HLs
              generalize seqG rs (x2, y2) = q2 at HS HLs
              clear hz o0 o1 hro hzm hj2 hje2 hjn2 hf2 HX2 HCO hdo hlt htl
              cases dn with
              | true =>
                simp only [Bool.not_true, Bool.false_and, Bool.false_eq_true, if_false] at HT
                go_wp2_with fail
                refine wp_region_held_drew (S := (fun w' => w'.cell? ⟨B', off' + j * 5, none⟩ = some (.int .i64 x) ∧ w'.cell? ⟨B', off' + j * 5 + 1, none⟩ = some (.int .i64 y) ∧ w'.cell? ⟨B', off' + j * 5 + 2, none⟩ = some (.int .i64 q) ∧ w'.cell? ⟨B', off' + j * 5 + 3, none⟩ = some (.slice p1 n1 k1) ∧ w'.cell? ⟨B', off' + j * 5 + 4, none⟩ = some (.slice p2 n2 k2) ∧ w'.cell? ⟨B', off' + j2 * 5, none⟩ = some (.int .i64 x2) ∧ w'.cell? ⟨B', off' + j2 * 5 + 1, none⟩ = some (.int .i64 y2) ∧ w'.cell? ⟨B', off' + j2 * 5 + 2, none⟩ = some (.int .i64 q2) ∧ w'.cell? ⟨B', off' + j2 * 5 + 3, none⟩ = some (.slice p3 n3 k3) ∧ w'.cell? ⟨B', off' + j2 * 5 + 4, none⟩ = some (.slice p4 n4 k4) ∧ w'.cell? ⟨BO, offO + t * 2, none⟩ = some (.int .i64 x2) ∧ w'.cell? ⟨BO, offO + t * 2 + 1, none⟩ = some (.int .i64 y2))) (by kernel_rfl) (HS.out _ DY0.out) (fun hHeld => ?_)
                generalize wr.drew = Y0 at DY0 hHeld ⊢
                refine ty (v := ?_) 0 (fun w hSw => ?_) ?_
                rotate_left
                · (try dsimp only at hSw); go_simp; (try with_reducible rfl)
                try simp only [List.getElem_toArray, List.getElem_cons_succ, List.getElem_cons_zero, Act.put, List.setIfInBounds_toArray, List.set_cons_zero, List.set_cons_succ]
                refine ty (v := ?_) 1 (fun w hSw => ?_) ?_
                rotate_left
                · (try dsimp only at hSw); go_simp; (try with_reducible rfl)
                try simp only [List.getElem_toArray, List.getElem_cons_succ, List.getElem_cons_zero, Act.put, List.setIfInBounds_toArray, List.set_cons_zero, List.set_cons_succ]
                refine ty (v := ?_) 2 (fun w hSw => ?_) ?_
                rotate_left
                · (try dsimp only at hSw); go_simp; (try with_reducible rfl)
                try simp only [List.getElem_toArray, List.getElem_cons_succ, List.getElem_cons_zero, Act.put, List.setIfInBounds_toArray, List.set_cons_zero, List.set_cons_succ]
                refine ts 3 ?_
                try simp only [List.getElem_toArray, List.getElem_cons_succ, List.getElem_cons_zero, Act.put, List.setIfInBounds_toArray, List.set_cons_zero, List.set_cons_succ]
                refine ts 4 ?_
                try simp only [List.getElem_toArray, List.getElem_cons_succ, List.getElem_cons_zero, Act.put, List.setIfInBounds_toArray, List.set_cons_zero, List.set_cons_succ]
                refine ts 5 ?_
                try simp only [List.getElem_toArray, List.getElem_cons_succ, List.getElem_cons_zero, Act.put, List.setIfInBounds_toArray, List.set_cons_zero, List.set_cons_succ]
                refine ts 6 ?_
                try simp only [List.getElem_toArray, List.getElem_cons_succ, List.getElem_cons_zero, Act.put, List.setIfInBounds_toArray, List.set_cons_zero, List.set_cons_succ]
                refine ts 7 ?_
                try simp only [List.getElem_toArray, List.getElem_cons_succ, List.getElem_cons_zero, Act.put, List.setIfInBounds_toArray, List.set_cons_zero, List.set_cons_succ]
                refine ts 8 ?_
                try simp only [List.getElem_toArray, List.getElem_cons_succ, List.getElem_cons_zero, Act.put, List.setIfInBounds_toArray, List.set_cons_zero, List.set_cons_succ]
                refine ts 9 ?_
                try simp only [List.getElem_toArray, List.getElem_cons_succ, List.getElem_cons_zero, Act.put, List.setIfInBounds_toArray, List.set_cons_zero, List.set_cons_succ]
                refine ts 10 ?_
                try simp only [List.getElem_toArray, List.getElem_cons_succ, List.getElem_cons_zero, Act.put, List.setIfInBounds_toArray, List.set_cons_zero, List.set_cons_succ]
                refine ts 11 ?_
                try simp only [List.getElem_toArray, List.getElem_cons_succ, List.getElem_cons_zero, Act.put, List.setIfInBounds_toArray, List.set_cons_zero, List.set_cons_succ]
                refine ts 12 ?_
                try simp only [List.getElem_toArray, List.getElem_cons_succ, List.getElem_cons_zero, Act.put, List.setIfInBounds_toArray, List.set_cons_zero, List.set_cons_succ]
                refine ts 13 ?_
                try simp only [List.getElem_toArray, List.getElem_cons_succ, List.getElem_cons_zero, Act.put, List.setIfInBounds_toArray, List.set_cons_zero, List.set_cons_succ]
                refine ts 14 ?_
                try simp only [List.getElem_toArray, List.getElem_cons_succ, List.getElem_cons_zero, Act.put, List.setIfInBounds_toArray, List.set_cons_zero, List.set_cons_succ]
                refine ts 15 ?_
                try simp only [List.getElem_toArray, List.getElem_cons_succ, List.getElem_cons_zero, Act.put, List.setIfInBounds_toArray, List.set_cons_zero, List.set_cons_succ]
                refine ts 16 ?_
                try simp only [List.getElem_toArray, List.getElem_cons_succ, List.getElem_cons_zero, Act.put, List.setIfInBounds_toArray, List.set_cons_zero, List.set_cons_succ]
                refine ty (v := ?_) 17 (fun w hSw => ?_) ?_
                rotate_left
                · (try dsimp only at hSw); go_simp; (try with_reducible rfl)
                try simp only [List.getElem_toArray, List.getElem_cons_succ, List.getElem_cons_zero, Act.put, List.setIfInBounds_toArray, List.set_cons_zero, List.set_cons_succ]
                refine wpAnyH_done (by kernel_rfl) ?_ _
                have DZ := Lib.hid (hb9.out.trans (DY0.out.mono hb9.out.size))
                have OZ := Lib.hid (own_on ho9.out DY0.out)
                have f0 := (DZ.out.cell (p := ⟨BO, offO + t * 2, none⟩) HLO.out).trans COUT.out.1
                have f1 := (DZ.out.cell (p := ⟨BO, offO + t * 2 + 1, none⟩) HLO.out).trans COUT.out.2
                go_wp2_with (at_builtin; refine push_id rfl _ _ rfl w3.heap.size _ _ rfl (own_on OZ.out (Cmd.below_one _ _)) (by have := DZ.out.size; simp; omega) _ x2 y2 rfl (heap_alloc_new _ _) (by have := HLZ.out; have := HNL.out; omega) ?_; intro v6 w6 o6 b6; have Ow6 := Lib.hid o6.out; have Dw6 := Lib.hid ((DZ.out.trans ((Cmd.below_one _ _).mono DZ.out.size)).trans b6.out); clear OZ o6 b6)
                go_roundw
                case rel => exact ⟨t + 1, by omega, by go_num, by rw [HT.out], Dw6, Lib.hid (by rw [HT.out]; exact Ow6.out)⟩
                case measure => simp [intOf]; omega
              | false =>
                cases lt with
                | true =>
                  simp only [Bool.not_false, Bool.true_and, if_true] at HT
                  go_wp2_with fail
                  refine wp_region_held_drew (S := (fun w' => w'.cell? ⟨B', off' + j * 5, none⟩ = some (.int .i64 x) ∧ w'.cell? ⟨B', off' + j * 5 + 1, none⟩ = some (.int .i64 y) ∧ w'.cell? ⟨B', off' + j * 5 + 2, none⟩ = some (.int .i64 q) ∧ w'.cell? ⟨B', off' + j * 5 + 3, none⟩ = some (.slice p1 n1 k1) ∧ w'.cell? ⟨B', off' + j * 5 + 4, none⟩ = some (.slice p2 n2 k2) ∧ w'.cell? ⟨B', off' + j2 * 5, none⟩ = some (.int .i64 x2) ∧ w'.cell? ⟨B', off' + j2 * 5 + 1, none⟩ = some (.int .i64 y2) ∧ w'.cell? ⟨B', off' + j2 * 5 + 2, none⟩ = some (.int .i64 q2) ∧ w'.cell? ⟨B', off' + j2 * 5 + 3, none⟩ = some (.slice p3 n3 k3) ∧ w'.cell? ⟨B', off' + j2 * 5 + 4, none⟩ = some (.slice p4 n4 k4) ∧ w'.cell? ⟨BO, offO + t * 2, none⟩ = some (.int .i64 x2) ∧ w'.cell? ⟨BO, offO + t * 2 + 1, none⟩ = some (.int .i64 y2))) (by kernel_rfl) (HS.out _ DY0.out) (fun hHeld => ?_)
                  generalize wr.drew = Y0 at DY0 hHeld ⊢
                  refine ty (v := ?_) 0 (fun w hSw => ?_) ?_
                  rotate_left
                  · (try dsimp only at hSw); go_simp; (try with_reducible rfl)
                  try simp only [List.getElem_toArray, List.getElem_cons_succ, List.getElem_cons_zero, Act.put, List.setIfInBounds_toArray, List.set_cons_zero, List.set_cons_succ]
                  refine ty (v := ?_) 1 (fun w hSw => ?_) ?_
                  rotate_left
                  · (try dsimp only at hSw); go_simp; (try with_reducible rfl)
                  try simp only [List.getElem_toArray, List.getElem_cons_succ, List.getElem_cons_zero, Act.put, List.setIfInBounds_toArray, List.set_cons_zero, List.set_cons_succ]
                  refine ty (v := ?_) 2 (fun w hSw => ?_) ?_
                  rotate_left
                  · (try dsimp only at hSw); go_simp; (try with_reducible rfl)
                  try simp only [List.getElem_toArray, List.getElem_cons_succ, List.getElem_cons_zero, Act.put, List.setIfInBounds_toArray, List.set_cons_zero, List.set_cons_succ]
                  refine ty (v := ?_) 3 (fun w hSw => ?_) ?_
                  rotate_left
                  · (try dsimp only at hSw); go_simp; (try with_reducible rfl)
                  try simp only [List.getElem_toArray, List.getElem_cons_succ, List.getElem_cons_zero, Act.put, List.setIfInBounds_toArray, List.set_cons_zero, List.set_cons_succ]
                  refine ty (v := ?_) 4 (fun w hSw => ?_) ?_
                  rotate_left
                  · (try dsimp only at hSw); go_simp; (try with_reducible rfl)
                  try simp only [List.getElem_toArray, List.getElem_cons_succ, List.getElem_cons_zero, Act.put, List.setIfInBounds_toArray, List.set_cons_zero, List.set_cons_succ]
                  refine ty (v := ?_) 5 (fun w hSw => ?_) ?_
                  rotate_left
                  · (try dsimp only at hSw); go_simp; (try with_reducible rfl)
                  try simp only [List.getElem_toArray, List.getElem_cons_succ, List.getElem_cons_zero, Act.put, List.setIfInBounds_toArray, List.set_cons_zero, List.set_cons_succ]
                  refine ty (v := ?_) 6 (fun w hSw => ?_) ?_
                  rotate_left
                  · (try dsimp only at hSw); go_simp; (try with_reducible rfl)
                  try simp only [List.getElem_toArray, List.getElem_cons_succ, List.getElem_cons_zero, Act.put, List.setIfInBounds_toArray, List.set_cons_zero, List.set_cons_succ]
                  refine ty (v := ?_) 7 (fun w hSw => ?_) ?_
                  rotate_left
                  · (try dsimp only at hSw); go_simp; (try with_reducible rfl)
                  try simp only [List.getElem_toArray, List.getElem_cons_succ, List.getElem_cons_zero, Act.put, List.setIfInBounds_toArray, List.set_cons_zero, List.set_cons_succ]
                  refine ty (v := ?_) 8 (fun w hSw => ?_) ?_
                  rotate_left
                  · (try dsimp only at hSw); go_simp; (try with_reducible rfl)
                  try simp only [List.getElem_toArray, List.getElem_cons_succ, List.getElem_cons_zero, Act.put, List.setIfInBounds_toArray, List.set_cons_zero, List.set_cons_succ]
                  refine ty (v := ?_) 9 (fun w hSw => ?_) ?_
                  rotate_left
                  · (try dsimp only at hSw); go_simp; (try with_reducible rfl)
                  try simp only [List.getElem_toArray, List.getElem_cons_succ, List.getElem_cons_zero, Act.put, List.setIfInBounds_toArray, List.set_cons_zero, List.set_cons_succ]
                  refine ty (v := ?_) 10 (fun w hSw => ?_) ?_
                  rotate_left
                  · (try dsimp only at hSw); go_simp; (try with_reducible rfl)
                  try simp only [List.getElem_toArray, List.getElem_cons_succ, List.getElem_cons_zero, Act.put, List.setIfInBounds_toArray, List.set_cons_zero, List.set_cons_succ]
                  refine ty (v := ?_) 11 (fun w hSw => ?_) ?_
                  rotate_left
                  · (try dsimp only at hSw); go_simp; (try with_reducible rfl)
                  try simp only [List.getElem_toArray, List.getElem_cons_succ, List.getElem_cons_zero, Act.put, List.setIfInBounds_toArray, List.set_cons_zero, List.set_cons_succ]
                  refine ty (v := ?_) 12 (fun w hSw => ?_) ?_
                  rotate_left
                  · (try dsimp only at hSw); go_simp; (try with_reducible rfl)
                  try simp only [List.getElem_toArray, List.getElem_cons_succ, List.getElem_cons_zero, Act.put, List.setIfInBounds_toArray, List.set_cons_zero, List.set_cons_succ]
                  refine tr 13 (fun K hK => ?_)
                  go_simp
                  (go_at_call 20; ((with_reducible refine (HFd.out _ DY0.out).mono ?_); rintro E Y1 ⟨rfl, hb⟩; have DY1 := Lib.hid (DY0.out.trans (hb.mono DY0.out.size)); clear hb))
                  refine hK.out _ _ ?_ (fun hHeld => ?_)
                  · exact HS.out _ DY1.out
                  clear hK K
                  try simp only [List.getElem_toArray, List.getElem_cons_succ, List.getElem_cons_zero, Act.put, List.setIfInBounds_toArray, List.set_cons_zero, List.set_cons_succ]
                  refine ty (v := ?_) 14 (fun w hSw => ?_) ?_
                  rotate_left
                  · (try dsimp only at hSw); go_simp; (try with_reducible rfl)
                  try simp only [List.getElem_toArray, List.getElem_cons_succ, List.getElem_cons_zero, Act.put, List.setIfInBounds_toArray, List.set_cons_zero, List.set_cons_succ]
                  refine ty (v := ?_) 15 (fun w hSw => ?_) ?_
                  rotate_left
                  · (try dsimp only at hSw); go_simp; (try with_reducible rfl)
                  try simp only [List.getElem_toArray, List.getElem_cons_succ, List.getElem_cons_zero, Act.put, List.setIfInBounds_toArray, List.set_cons_zero, List.set_cons_succ]
                  refine tr 16 (fun K hK => ?_)
                  go_simp
                  (go_at_call 92; ((with_reducible refine (HLs.out _).mono ?_); rintro E Y2 ⟨rfl, hb⟩; have DY2 := Lib.hid (DY1.out.trans (hb.mono DY1.out.size)); clear hb))
                  refine hK.out _ _ ?_ (fun hHeld => ?_)
                  · exact HS.out _ DY2.out
                  clear hK K
                  try simp only [List.getElem_toArray, List.getElem_cons_succ, List.getElem_cons_zero, Act.put, List.setIfInBounds_toArray, List.set_cons_zero, List.set_cons_succ]
                  refine ty (v := ?_) 17 (fun w hSw => ?_) ?_
                  rotate_left
                  · (try dsimp only at hSw); go_simp; (try with_reducible rfl)
                  try simp only [List.getElem_toArray, List.getElem_cons_succ, List.getElem_cons_zero, Act.put, List.setIfInBounds_toArray, List.set_cons_zero, List.set_cons_succ]
                  refine wpAnyH_done (by kernel_rfl) ?_ _
                  have DZ := Lib.hid (hb9.out.trans (DY2.out.mono hb9.out.size))
                  have OZ := Lib.hid (own_on ho9.out DY2.out)
                  have g0 := (DZ.out.cell (p := ⟨B, off + k * 2, none⟩) HLL.out).trans CL3.out.1
                  have g1 := (DZ.out.cell (p := ⟨B, off + k * 2 + 1, none⟩) HLL.out).trans CL3.out.2
                  go_wp2_with (first
                    | (at_builtin; refine push_id rfl _ _ rfl w3.heap.size _ _ rfl (own_on OZ.out (Cmd.below_one _ _)) (by have := DZ.out.size; simp; omega) _ x y rfl (heap_alloc_new _ _) (by have := HLZ.out; have := HNL.out; omega) ?_; intro v5 w5 o5 b5; have Ow5 := Lib.hid o5.out; have Dw5 := Lib.hid ((DZ.out.trans ((Cmd.below_one _ _).mono DZ.out.size)).trans b5.out); have f0 := (Dw5.out.cell (p := ⟨BO, offO + t * 2, none⟩) HLO.out).trans COUT.out.1; have f1 := (Dw5.out.cell (p := ⟨BO, offO + t * 2 + 1, none⟩) HLO.out).trans COUT.out.2; clear OZ o5 b5)
                    | (at_builtin; refine push_id rfl _ _ rfl w3.heap.size _ _ rfl (own_on Ow5.out (Cmd.below_one _ _)) (by have := Dw5.out.size; simp; omega) _ x2 y2 rfl (heap_alloc_new _ _) (by rw [List.length_append, List.length_singleton]; have := HLZ.out; have := HNL.out; omega) ?_; intro v6 w6 o6 b6; have Ow6 := Lib.hid o6.out; have Dw6 := Lib.hid ((Dw5.out.trans ((Cmd.below_one _ _).mono Dw5.out.size)).trans b6.out); clear Ow5 o6 b6))
                  go_roundw
                  case rel => exact ⟨t + 1, by omega, by go_num, by rw [HT.out], Dw6, Lib.hid (by rw [HT.out]; have := Ow6.out; rw [List.append_assoc] at this; exact this)⟩
                  case measure => simp [intOf]; omega
                | false =>
                  simp only [Bool.not_false, Bool.true_and, Bool.false_eq_true, if_false] at HT
                  go_wp2_with fail
                  refine wp_region_held_drew (S := (fun w' => w'.cell? ⟨B', off' + j * 5, none⟩ = some (.int .i64 x) ∧ w'.cell? ⟨B', off' + j * 5 + 1, none⟩ = some (.int .i64 y) ∧ w'.cell? ⟨B', off' + j * 5 + 2, none⟩ = some (.int .i64 q) ∧ w'.cell? ⟨B', off' + j * 5 + 3, none⟩ = some (.slice p1 n1 k1) ∧ w'.cell? ⟨B', off' + j * 5 + 4, none⟩ = some (.slice p2 n2 k2) ∧ w'.cell? ⟨B', off' + j2 * 5, none⟩ = some (.int .i64 x2) ∧ w'.cell? ⟨B', off' + j2 * 5 + 1, none⟩ = some (.int .i64 y2) ∧ w'.cell? ⟨B', off' + j2 * 5 + 2, none⟩ = some (.int .i64 q2) ∧ w'.cell? ⟨B', off' + j2 * 5 + 3, none⟩ = some (.slice p3 n3 k3) ∧ w'.cell? ⟨B', off' + j2 * 5 + 4, none⟩ = some (.slice p4 n4 k4) ∧ w'.cell? ⟨BO, offO + t * 2, none⟩ = some (.int .i64 x2) ∧ w'.cell? ⟨BO, offO + t * 2 + 1, none⟩ = some (.int .i64 y2))) (by kernel_rfl) (HS.out _ DY0.out) (fun hHeld => ?_)
                  generalize wr.drew = Y0 at DY0 hHeld ⊢
                  refine ty (v := ?_) 0 (fun w hSw => ?_) ?_
                  rotate_left
                  · (try dsimp only at hSw); go_simp; (try with_reducible rfl)
                  try simp only [List.getElem_toArray, List.getElem_cons_succ, List.getElem_cons_zero, Act.put, List.setIfInBounds_toArray, List.set_cons_zero, List.set_cons_succ]
                  refine ty (v := ?_) 1 (fun w hSw => ?_) ?_
                  rotate_left
                  · (try dsimp only at hSw); go_simp; (try with_reducible rfl)
                  try simp only [List.getElem_toArray, List.getElem_cons_succ, List.getElem_cons_zero, Act.put, List.setIfInBounds_toArray, List.set_cons_zero, List.set_cons_succ]
                  refine ty (v := ?_) 2 (fun w hSw => ?_) ?_
                  rotate_left
                  · (try dsimp only at hSw); go_simp; (try with_reducible rfl)
                  try simp only [List.getElem_toArray, List.getElem_cons_succ, List.getElem_cons_zero, Act.put, List.setIfInBounds_toArray, List.set_cons_zero, List.set_cons_succ]
                  refine ty (v := ?_) 3 (fun w hSw => ?_) ?_
                  rotate_left
                  · (try dsimp only at hSw); go_simp; (try with_reducible rfl)
                  try simp only [List.getElem_toArray, List.getElem_cons_succ, List.getElem_cons_zero, Act.put, List.setIfInBounds_toArray, List.set_cons_zero, List.set_cons_succ]
                  refine ty (v := ?_) 4 (fun w hSw => ?_) ?_
                  rotate_left
                  · (try dsimp only at hSw); go_simp; (try with_reducible rfl)
                  try simp only [List.getElem_toArray, List.getElem_cons_succ, List.getElem_cons_zero, Act.put, List.setIfInBounds_toArray, List.set_cons_zero, List.set_cons_succ]
                  refine ty (v := ?_) 5 (fun w hSw => ?_) ?_
                  rotate_left
                  · (try dsimp only at hSw); go_simp; (try with_reducible rfl)
                  try simp only [List.getElem_toArray, List.getElem_cons_succ, List.getElem_cons_zero, Act.put, List.setIfInBounds_toArray, List.set_cons_zero, List.set_cons_succ]
                  refine ty (v := ?_) 6 (fun w hSw => ?_) ?_
                  rotate_left
                  · (try dsimp only at hSw); go_simp; (try with_reducible rfl)
                  try simp only [List.getElem_toArray, List.getElem_cons_succ, List.getElem_cons_zero, Act.put, List.setIfInBounds_toArray, List.set_cons_zero, List.set_cons_succ]
                  refine ty (v := ?_) 7 (fun w hSw => ?_) ?_
                  rotate_left
                  · (try dsimp only at hSw); go_simp; (try with_reducible rfl)
                  try simp only [List.getElem_toArray, List.getElem_cons_succ, List.getElem_cons_zero, Act.put, List.setIfInBounds_toArray, List.set_cons_zero, List.set_cons_succ]
                  refine ty (v := ?_) 8 (fun w hSw => ?_) ?_
                  rotate_left
                  · (try dsimp only at hSw); go_simp; (try with_reducible rfl)
                  try simp only [List.getElem_toArray, List.getElem_cons_succ, List.getElem_cons_zero, Act.put, List.setIfInBounds_toArray, List.set_cons_zero, List.set_cons_succ]
                  refine ty (v := ?_) 9 (fun w hSw => ?_) ?_
                  rotate_left
                  · (try dsimp only at hSw); go_simp; (try with_reducible rfl)
                  try simp only [List.getElem_toArray, List.getElem_cons_succ, List.getElem_cons_zero, Act.put, List.setIfInBounds_toArray, List.set_cons_zero, List.set_cons_succ]
                  refine ty (v := ?_) 10 (fun w hSw => ?_) ?_
                  rotate_left
                  · (try dsimp only at hSw); go_simp; (try with_reducible rfl)
                  try simp only [List.getElem_toArray, List.getElem_cons_succ, List.getElem_cons_zero, Act.put, List.setIfInBounds_toArray, List.set_cons_zero, List.set_cons_succ]
                  refine ty (v := ?_) 11 (fun w hSw => ?_) ?_
                  rotate_left
                  · (try dsimp only at hSw); go_simp; (try with_reducible rfl)
                  try simp only [List.getElem_toArray, List.getElem_cons_succ, List.getElem_cons_zero, Act.put, List.setIfInBounds_toArray, List.set_cons_zero, List.set_cons_succ]
                  refine ty (v := ?_) 12 (fun w hSw => ?_) ?_
                  rotate_left
                  · (try dsimp only at hSw); go_simp; (try with_reducible rfl)
                  try simp only [List.getElem_toArray, List.getElem_cons_succ, List.getElem_cons_zero, Act.put, List.setIfInBounds_toArray, List.set_cons_zero, List.set_cons_succ]
                  refine tr 13 (fun K hK => ?_)
                  go_simp
                  (go_at_call 20; ((with_reducible refine (HFd.out _ DY0.out).mono ?_); rintro E Y1 ⟨rfl, hb⟩; have DY1 := Lib.hid (DY0.out.trans (hb.mono DY0.out.size)); clear hb))
                  refine hK.out _ _ ?_ (fun hHeld => ?_)
                  · exact HS.out _ DY1.out
                  clear hK K
                  try simp only [List.getElem_toArray, List.getElem_cons_succ, List.getElem_cons_zero, Act.put, List.setIfInBounds_toArray, List.set_cons_zero, List.set_cons_succ]
                  refine ty (v := ?_) 14 (fun w hSw => ?_) ?_
                  rotate_left
                  · (try dsimp only at hSw); go_simp; (try with_reducible rfl)
                  try simp only [List.getElem_toArray, List.getElem_cons_succ, List.getElem_cons_zero, Act.put, List.setIfInBounds_toArray, List.set_cons_zero, List.set_cons_succ]
                  refine ty (v := ?_) 15 (fun w hSw => ?_) ?_
                  rotate_left
                  · (try dsimp only at hSw); go_simp; (try with_reducible rfl)
                  try simp only [List.getElem_toArray, List.getElem_cons_succ, List.getElem_cons_zero, Act.put, List.setIfInBounds_toArray, List.set_cons_zero, List.set_cons_succ]
                  refine tr 16 (fun K hK => ?_)
                  go_simp
                  (go_at_call 92; ((with_reducible refine (HLs.out _).mono ?_); rintro E Y2 ⟨rfl, hb⟩; have DY2 := Lib.hid (DY1.out.trans (hb.mono DY1.out.size)); clear hb))
                  refine hK.out _ _ ?_ (fun hHeld => ?_)
                  · exact HS.out _ DY2.out
                  clear hK K
                  try simp only [List.getElem_toArray, List.getElem_cons_succ, List.getElem_cons_zero, Act.put, List.setIfInBounds_toArray, List.set_cons_zero, List.set_cons_succ]
                  refine ty (v := ?_) 17 (fun w hSw => ?_) ?_
                  rotate_left
                  · (try dsimp only at hSw); go_simp; (try with_reducible rfl)
                  try simp only [List.getElem_toArray, List.getElem_cons_succ, List.getElem_cons_zero, Act.put, List.setIfInBounds_toArray, List.set_cons_zero, List.set_cons_succ]
                  refine wpAnyH_done (by kernel_rfl) ?_ _
                  have DZ := Lib.hid (hb9.out.trans (DY2.out.mono hb9.out.size))
                  have OZ := Lib.hid (own_on ho9.out DY2.out)
                  have f0 := (DZ.out.cell (p := ⟨BO, offO + t * 2, none⟩) HLO.out).trans COUT.out.1
                  have f1 := (DZ.out.cell (p := ⟨BO, offO + t * 2 + 1, none⟩) HLO.out).trans COUT.out.2
                  go_wp2_with (at_builtin; refine push_id rfl _ _ rfl w3.heap.size _ _ rfl (own_on OZ.out (Cmd.below_one _ _)) (by have := DZ.out.size; simp; omega) _ x2 y2 rfl (heap_alloc_new _ _) (by have := HLZ.out; have := HNL.out; omega) ?_; intro v6 w6 o6 b6; have Ow6 := Lib.hid o6.out; have Dw6 := Lib.hid ((DZ.out.trans ((Cmd.below_one _ _).mono DZ.out.size)).trans b6.out); clear OZ o6 b6)
                  go_roundw
                  case rel => exact ⟨t + 1, by omega, by go_num, by rw [HT.out], Dw6, Lib.hid (by rw [HT.out]; exact Ow6.out)⟩
                  case measure => simp [intOf]; omega
            · have tn : ¬ (t : Int) < nq := by omega
              have HTK : Hid (out.take t = out) := Lib.hid (List.take_of_length_le (by rw [← HNQ.out]; omega))
              rw [HTK.out] at ho9 HLZ
              rw [HTK.out]
              generalize half rs (x, y) out = hh at HO ho9 HLZ
              obtain ⟨zs, dn⟩ := hh
              cases dn with
              | true =>
                simp only [if_true] at HO
                clear hdo
                go_wp2
                go_roundw
                case rel => exact ⟨k + 1, by omega, by go_num, Lib.hid (HB3.out.trans (hb9.out.mono HB3.out.size)), Lib.hid (by rw [HE.out, ← HO.out]; exact own_mono ho9.out HB3.out.size)⟩
                case measure => simp [intOf]; omega
              | false =>
                simp only [Bool.false_eq_true, if_false] at HO
                clear hdo
                have g0 := (hb9.out.cell (p := ⟨B, off + k * 2, none⟩) HLL.out).trans CL3.out.1
                have g1 := (hb9.out.cell (p := ⟨B, off + k * 2 + 1, none⟩) HLL.out).trans CL3.out.2
                go_wp2_with (at_builtin; refine push_id rfl _ _ rfl w3.heap.size _ _ rfl (own_on ho9.out (Cmd.below_one _ _)) (by have := hb9.out.size; simp; omega) _ x y rfl (heap_alloc_new _ _) (by have := HLZ.out; have := HNL.out; omega) ?_; intro v6 w6 o6 b6; have Ow6 := Lib.hid o6.out; have Dw6 := Lib.hid ((hb9.out.trans ((Cmd.below_one _ _).mono hb9.out.size)).trans b6.out); clear ho9 o6 b6)
                go_roundw
                case rel => exact ⟨k + 1, by omega, by go_num, Lib.hid (HB3.out.trans (Dw6.out.mono HB3.out.size)), Lib.hid (by rw [HE.out, ← HO.out]; exact own_mono Ow6.out HB3.out.size)⟩
                case measure => simp [intOf]; omega
      · rw [hf] at HFn
        have HE : Hid (sortR rs (l.take (k + 1)) = sortR rs (l.take k)) := Lib.hid (by rw [HST.out, if_neg (fun h => hjm h.1)])
        clear hd hdu hxy hkl hf hjm hrc
        go_wp2_with (first
          | (go_at_call 20; ((with_reducible refine HFn.out.mono ?_); rintro e w2 ⟨rfl, hb2⟩; have B2 := Lib.hid hb2; clear hb2)))
        go_roundw
        case rel => exact ⟨k + 1, by omega, by go_num, Lib.hid (hb.out.trans (B2.out.mono hb.out.size)), Lib.hid (by rw [HE.out]; exact own_on hrow.out B2.out)⟩
        case measure => simp [intOf]; omega
    · have km : ¬ (k : Int) < m := by omega
      have HE : Hid (sortR rs (l.take k) = sortR rs l) := Lib.hid (by rw [List.take_of_length_le (by rw [← HM.out]; omega)])
      clear hd hdu
      go_wp2
      go_ret
      exact ⟨_, rfl, by rw [← HE.out]; exact hrow.out, hb.out⟩
end Go.Proofs.YtjokejcokgeeiaaGreat.Cps

/- What the document's Of gives (layer 17, comps): all components. Conditions: the records lie in memory as their cells say; not more than 25000 of them, nor of their Deps. -/
namespace Go.Proofs.YtjokejcokgeeiaaGreat.Cps
open Go.RowKit Cmd Bat Ids Rec Wid Gra Rea
set_option linter.unusedVariables false
set_option linter.unusedSimpArgs false

/-! ### Lists of lists that grow -/
/-- A list of lists of the call's own: its blocks, and the rows that they hold. -/
structure Lists (W : World) (base : Nat) (v : Value) (L : List (List Idn)) : Prop where
  own : ∃ qs : List Slc, qs.length = L.length ∧ wdSl.Own 38 W base v qs ∧ ∀ j, j < L.length → Owns W base (sliceOf (qs.getD j (none, 0, 0))) (L.getD j [])
theorem Lists.row {W : World} {base : Nat} {v : Value} {L : List (List Idn)} (h : Lists W base v L) : layLL.Row W v L := by
  obtain ⟨qs, hl, ho, hr⟩ := h.own
  obtain ⟨p, cap, rfl, h1, h2, h3⟩ := Wd.Own.row ho
  refine ⟨p, cap, by rw [hl], by rw [← hl]; exact h1, h2, fun hz => ?_⟩
  obtain ⟨B, off, rfl, hi⟩ := h3 (fun e => hz (by rw [e] at hl; exact List.eq_nil_of_length_eq_zero hl.symm))
  exact ⟨B, off, rfl, hi.lt, fun j hj => ⟨_, hi.cell j (by rw [hl]; exact hj), (hr j hj).row⟩⟩
theorem Lists.on {W W' : World} {base : Nat} {v : Value} {L : List (List Idn)} (h : Lists W base v L) (hb : Below W.heap.size W W') : Lists W' base v L := by
  obtain ⟨qs, hl, ho, hr⟩ := h.own
  exact ⟨qs, hl, Wd.Own.below ho hb, fun j hj => own_on (hr j hj) hb⟩
theorem Lists.snoc {w w' : World} {base : Nat} {v v' : Value} {L : List (List Idn)} {qs : List Slc} {q : Slc} {c : List Idn} (hl : qs.length = L.length) (ho : wdSl.Own 38 w base v qs) (hr : ∀ j, j < L.length → Owns w base (sliceOf (qs.getD j (none, 0, 0))) (L.getD j [])) (hc : Owns w base (sliceOf q) c)
    (h1 : wdSl.Own 38 w' base v' (qs ++ [q])) (hg : w.grownBy w' v.ownBlock) : Lists w' base v' (L ++ [c]) := by
  have keep : ∀ {u : Value} {d : List Idn}, Owns w base u d → Owns w' base u d := fun hu => World.ownsRow.kept hu hg (by
    rcases own_other hu ho with e | e
    · exact .inl e
    · exact .inr e.symm)
  refine ⟨qs ++ [q], by simp [hl], h1, fun j hj => ?_⟩
  rw [List.length_append, List.length_singleton] at hj
  by_cases hjl : j < L.length
  · have e1 : (qs ++ [q]).getD j (none, 0, 0) = qs.getD j (none, 0, 0) := by rw [List.getD_eq_getElem?_getD, List.getElem?_append_left (by omega), ← List.getD_eq_getElem?_getD]
    have e2 : (L ++ [c]).getD j [] = L.getD j [] := by rw [List.getD_eq_getElem?_getD, List.getElem?_append_left hjl, ← List.getD_eq_getElem?_getD]
    rw [e1, e2]; exact keep (hr j hjl)
  · obtain rfl : j = L.length := by omega
    have e1 : (qs ++ [q]).getD L.length (none, 0, 0) = q := by rw [← hl, List.getD_eq_getElem?_getD]; simp
    have e2 : (L ++ [c]).getD L.length [] = c := by rw [List.getD_eq_getElem?_getD]; simp
    rw [e1, e2]; exact keep hc
theorem Lists.void (W : World) : Lists (W.alloc (.cells #[] 38)) W.heap.size (.slice (some ⟨W.heap.size, 0, none⟩) 0 0) [] := ⟨[], rfl, Wd.Own.made _ W (Nat.le_refl _), fun j hj => absurd hj (Nat.not_lt_zero _)⟩
theorem closed_in {rs : List Rcd} {x : Idn} (h : x ∈ closedG rs) : x ∈ idsG rs := closed_mem.1 h x (.here x)
theorem closed_len (rs : List Rcd) : (closedG rs).length ≤ rs.length := by
  unfold closedG
  refine Nat.le_trans (srt_length _) (Nat.le_trans (List.length_filter_le _ _) ?_)
  unfold idsG; rw [List.length_map]; exact Nat.le_refl _
theorem allR_in {rs : List Rcd} {x : Idn} (h : x ∈ allR rs) : x ∈ idsG rs := (sortR_mem.1 h).2
theorem allR_nodup (rs : List Rcd) : (allR rs).Nodup := riseR_nodup (sortR_rise rs _)
theorem allR_len (rs : List Rcd) : (allR rs).length ≤ rs.length := by
  have h := nodup_lenI (allR_nodup rs) fun z hz => allR_in hz
  unfold idsG at h
  rw [List.length_map] at h; exact h
theorem ofL_len (rs : List Rcd) (all : List Idn) : ∀ k, (ofL rs all k).length ≤ k
  | 0 => Nat.le_refl _
  | k + 1 => by
    have h := ofL_len rs all k
    unfold ofL
    split
    · omega
    · rw [List.length_append, List.length_singleton]; omega
theorem ofL_yes {rs : List Rcd} {all : List Idn} {k : Nat} (h : 0 ≤ atL (ofL rs all k) (nth all k)) : ofL rs all (k + 1) = ofL rs all k := if_pos h
theorem ofL_no {rs : List Rcd} {all : List Idn} {k : Nat} (h : ¬ 0 ≤ atL (ofL rs all k) (nth all k)) : ofL rs all (k + 1) = ofL rs all k ++ [(all.drop k).filter fun y => mutG rs (nth all k) y] := if_neg h
theorem part_snoc {all : List Idn} {k t : Nat} (f : Idn → Bool) (hk : k ≤ t) (ht : t < all.length) : ((all.take (t + 1)).drop k).filter f = ((all.take t).drop k).filter f ++ (if f (nth all t) then [nth all t] else []) := by
  rw [take_nth ht, List.drop_append_of_le_length (by rw [List.length_take]; omega), List.filter_append]
  cases h : f (nth all t) <;> simp [h]
theorem part_none {all : List Idn} {k : Nat} (f : Idn → Bool) : ((all.take k).drop k).filter f = [] := by rw [List.drop_eq_nil_of_le (by rw [List.length_take]; omega)]; rfl
theorem part_all {all : List Idn} {k : Nat} (f : Idn → Bool) : ((all.take all.length).drop k).filter f = (all.drop k).filter f := by rw [List.take_of_length_le (Nat.le_refl _)]
theorem part_len {all : List Idn} {k t : Nat} (f : Idn → Bool) : (((all.take t).drop k).filter f).length ≤ all.length := Nat.le_trans (List.length_filter_le _ _) (by rw [List.length_drop, List.length_take]; omega)
set_option maxRecDepth 100000 in
set_option maxHeartbeats 16000000 in
theorem refof_any (v : Value) (rs : List Rcd) (w : World) (h : layG.Row w v rs) (hl : (depsG rs).length ≤ 25000) (hl' : rs.length ≤ 25000) : Calls Tryz.prog 28 #[v] w (fun e W => ∃ v', e = .returned v' ∧ layLL.Row W v' (ofG rs) ∧ Below w.heap.size w W) := by
  obtain ⟨p, cap, rfl, h1, hd⟩ := h.parts
  have HV := Lib.hid h
  have HL := Lib.hid hl
  have HL' := Lib.hid hl'
  generalize rs.length = n at h1 hd HV
  have HCl := Lib.hid (fun W (hb : Below w.heap.size w W) => refclosed_any _ rs W (HV.out.on hb) (by omega) (by omega))
  have HSo := Lib.hid (fun W (hb : Below w.heap.size w W) u (hu : RowAt W u (closedG rs)) => refsorto_any _ u rs (closedG rs) W (HV.out.on hb) hu (by have := closed_len rs; omega))
  have HMu := Lib.hid (fun W (hb : Below w.heap.size w W) a b c d => refmut_any _ rs a b c d W (HV.out.on hb) (by omega))
  have B0 := Lib.hid (Cmd.below_one w (.cells #[] 38))
  have L0 := Lib.hid (Lists.void w)
  have HAL : Hid ((allR rs).length ≤ 25000) := Lib.hid (Nat.le_trans (allR_len rs) hl')
  clear h hd hl hl'
  go_enter Tryz.func28, Tryz.ntmps28
  go_wp2_with (first
    | (go_at_call 58; ((with_reducible refine (HCl.out _ B0.out).mono ?_); rintro E w1 ⟨v1, rfl, hr, hb⟩; have B1 := Lib.hid (B0.out.trans (hb.mono B0.out.size)); have L1 := Lib.hid (L0.out.on hb); have C1 := Lib.hid (HSo.out _ B1.out _ hr); clear hr hb HCl L0))
    | (go_at_call 57; ((with_reducible refine C1.out.mono ?_); rintro E w2 ⟨v2, rfl, hr, hb⟩; have B2 := Lib.hid (B1.out.trans (hb.mono B1.out.size)); have L2 := Lib.hid (L1.out.on hb); have R2 : Hid (Owns w2 w.heap.size v2 (sortR rs (closedG rs))) := Lib.hid (own_mono hr B1.out.size); clear hr hb C1 HSo L1 B1)))
  obtain ⟨pa, ca, rfl, hla, -⟩ := Rec.RowAt.parts R2.out.row
  obtain ⟨all, hall⟩ : ∃ all, all = allR rs := ⟨_, rfl⟩
  have HALL := Lib.hid hall
  have R2 : Hid (Owns w2 w.heap.size (.slice pa (sortR rs (closedG rs)).length ca) all) := Lib.hid (by rw [hall]; exact R2.out)
  rw [show sortR rs (closedG rs) = all from hall.symm] at R2 hla ⊢
  rw [← hall] at HAL
  clear hall
  obtain ⟨m, hm⟩ : ∃ m, m = all.length := ⟨_, rfl⟩
  have HM := Lib.hid hm
  rw [← hm] at R2 hla HAL ⊢
  clear hm
  have HM25 : m ≤ 25000 := HAL.out
  go_loopw [3, 5] (fun o i W => ∃ k : Nat, k ≤ m ∧ i = .int .i64 k ∧ Hid (Below w.heap.size w W) ∧ Hid (Lists W w.heap.size o (ofL rs all k)) ∧ Hid (Owns W w.heap.size (.slice pa m ca) all)) (fun _ i _ => m - (intOf i).toNat)
  case atStart => exact ⟨0, Nat.zero_le _, rfl, B2, L2, R2⟩
  case round =>
    obtain ⟨k, hk, rfl, hb, ho, hra⟩ := hrel
    have k0 : (0 : Int) ≤ k := by omega
    by_cases hkm : k < m
    · have km : (k : Int) < m := by omega
      have hkl : k < all.length := by rw [← HM.out]; exact hkm
      obtain ⟨pa', ca', ea, -, hda⟩ := Rec.RowAt.parts hra.out.row
      injection ea with e1 e2 e3
      subst e1; subst e3; clear e2
      obtain ⟨B, off, rfl, HC⟩ := hda.resolve_left (by omega)
      obtain ⟨⟨x, y⟩, hxy⟩ : ∃ z, nth all k = z := ⟨_, rfl⟩
      have c0 := HC.out.fst k hkl
      have c1 := HC.out.snd k hkl
      rw [hxy] at c0 c1
      have HLT := Lib.hid HC.out.lt
      have C01 := Lib.hid (And.intro c0 c1)
      have HAt := Lib.hid (refat_any _ (ofL rs all k) x y wr ho.out.row (by have := ofL_len rs all k; omega))
      rcases atL_cases (ofL rs all k) (x, y) with ⟨j, -, -, -, hj⟩ | ⟨hj, -⟩
      · have HE : Hid (ofL rs all (k + 1) = ofL rs all k) := Lib.hid (ofL_yes (by rw [hxy, hj]; omega))
        rw [hj] at HAt
        have gj : decide (0 ≤ (j : Int)) = true := decide_eq_true (by omega)
        clear hxy hkl hj hda
        go_wp2_with (go_at_call 59; ((with_reducible refine HAt.out.mono ?_); rintro e w3 ⟨rfl, hb3⟩; have B3 := Lib.hid hb3; clear hb3))
        go_roundw
        case rel => (exact ⟨k + 1, by omega, by go_num, Lib.hid (hb.out.trans (B3.out.mono hb.out.size)), Lib.hid (by rw [HE.out]; exact ho.out.on B3.out), Lib.hid (own_on hra.out B3.out)⟩)
        case measure => simp [intOf]; omega
      · have HE : Hid (ofL rs all (k + 1) = ofL rs all k ++ [(all.drop k).filter fun y => mutG rs (nth all k) y]) := Lib.hid (ofL_no (by rw [hxy, hj]; omega))
        rw [hxy] at HE
        rw [hj] at HAt
        clear hkl hj hda
        go_wp2_with (go_at_call 59; ((with_reducible refine HAt.out.mono ?_); rintro e w3 ⟨rfl, hb3⟩; have B3 := Lib.hid hb3; clear hb3))
        have HB3 := Lib.hid (hb.out.trans (B3.out.mono hb.out.size))
        have HLO3 := Lib.hid (ho.out.on B3.out)
        have HRA3 : Hid (Owns w3 w.heap.size (.slice (some ⟨B, off, none⟩) m ca) all) := Lib.hid (own_on hra.out B3.out)
        have HC3 := Lib.hid (HC.out.on B3.out)
        have HLT3 := Lib.hid HC3.out.lt
        have CX := Lib.hid (And.intro ((B3.out.cell (p := ⟨B, off + k * 2, none⟩) HLT.out).trans C01.out.1) ((B3.out.cell (p := ⟨B, off + k * 2 + 1, none⟩) HLT.out).trans C01.out.2))
        clear c0 c1 HAt HC HLT C01
        go_loopw [6, 7] (fun on kk W => ∃ t : Nat, k ≤ t ∧ t ≤ m ∧ kk = .int .i64 t ∧ Hid (Below w3.heap.size w3 W) ∧ Hid (Owns W w3.heap.size on (((all.take t).drop k).filter fun z => mutG rs (x, y) z))) (fun _ kk _ => m - (intOf kk).toNat)
        case atStart => exact ⟨k, Nat.le_refl _, by omega, rfl, Lib.hid (Cmd.below_one _ _), Lib.hid (by rw [part_none]; exact void_own w3)⟩
        case round =>
          obtain ⟨t, hkt, ht, rfl, hb9, ho9⟩ := hrel
          have t0 : (0 : Int) ≤ t := by omega
          by_cases htm : t < m
          · have tm : (t : Int) < m := by omega
            have htl : t < all.length := by rw [← HM.out]; exact htm
            obtain ⟨⟨x2, y2⟩, hz⟩ : ∃ z, nth all t = z := ⟨_, rfl⟩
            have o0 := HC3.out.fst t htl
            have o1 := HC3.out.snd t htl
            rw [hz] at o0 o1
            have HP := Lib.hid (part_snoc (all := all) (k := k) (fun z => mutG rs (x, y) z) hkt htl)
            rw [hz] at HP
            have HLn := Lib.hid (part_len (all := all) (k := k) (t := t) (fun z => mutG rs (x, y) z))
            have HX : Hid (∀ W, Below wr.heap.size wr W → W.cell? ⟨B, off + k * 2, none⟩ = some (.int .i64 x) ∧ W.cell? ⟨B, off + k * 2 + 1, none⟩ = some (.int .i64 y) ∧ W.cell? ⟨B, off + t * 2, none⟩ = some (.int .i64 x2) ∧ W.cell? ⟨B, off + t * 2 + 1, none⟩ = some (.int .i64 y2)) := Lib.hid (fun W hw => by
              have hw3 := hb9.out.trans (hw.mono hb9.out.size)
              exact ⟨(hw3.cell (p := ⟨B, off + k * 2, none⟩) HLT3.out).trans CX.out.1, (hw3.cell (p := ⟨B, off + k * 2 + 1, none⟩) HLT3.out).trans CX.out.2, (hw3.cell (p := ⟨B, off + t * 2, none⟩) HLT3.out).trans o0, (hw3.cell (p := ⟨B, off + t * 2 + 1, none⟩) HLT3.out).trans o1⟩)
            have CMu := Lib.hid (fun W (hw : Below wr.heap.size wr W) => HMu.out W (HB3.out.trans ((hb9.out.trans (hw.mono hb9.out.size)).mono HB3.out.size)) x y x2 y2)
            have D0 := Lib.hid (Below.refl wr.heap.size wr)
            generalize ((all.take t).drop k).filter (fun z => mutG rs (x, y) z) = zs at ho9 HP HLn
            have kl : (k : Int) < m := km
            clear hz o0 o1 htl
            cases hmu : mutG rs (x, y) (x2, y2) with
            | true =>
              rw [hmu] at CMu
              have HP2 : Hid (((all.take (t + 1)).drop k).filter (fun z => mutG rs (x, y) z) = zs ++ [(x2, y2)]) := Lib.hid (by have := HP.out; rw [hmu] at this; exact this)
              clear hmu HP
              go_wp2_with fail
              go_region_held3 (fun w' => w'.cell? ⟨B, off + k * 2, none⟩ = some (.int .i64 x) ∧ w'.cell? ⟨B, off + k * 2 + 1, none⟩ = some (.int .i64 y) ∧ w'.cell? ⟨B, off + t * 2, none⟩ = some (.int .i64 x2) ∧ w'.cell? ⟨B, off + t * 2 + 1, none⟩ = some (.int .i64 y2))
                (first
                  | exact HX.out _ D1.out
                  | exact HX.out _ D0.out
                  | exact HX.out _ D0.out.drew)
                (first
                  | (go_at_call 60; (with_reducible refine (CMu.out _ D0.out.drew).mono ?_); rintro e w5 ⟨rfl, hb5⟩; have D1 := Lib.hid (D0.out.drew.trans (hb5.mono D0.out.drew.size)); clear hb5))
              obtain ⟨-, -, g0, g1⟩ := HX.out _ D1.out
              have OZ := Lib.hid (own_on ho9.out D1.out)
              have DZ := Lib.hid (hb9.out.trans (D1.out.mono hb9.out.size))
              go_wp2_with (at_builtin; refine push_id rfl _ _ rfl w3.heap.size _ _ rfl (own_on OZ.out (Cmd.below_one _ _)) (by have := DZ.out.size; simp; omega) _ x2 y2 rfl (heap_alloc_new _ _) (by have := HLn.out; have := HM.out; omega) ?_; intro v6 w6 o6 b6; have Ow6 := Lib.hid o6.out; have Dw6 := Lib.hid ((DZ.out.trans ((Cmd.below_one _ _).mono DZ.out.size)).trans b6.out); clear OZ o6 b6)
              go_roundw
              case rel => exact ⟨t + 1, by omega, by omega, by go_num, Dw6, Lib.hid (by rw [HP2.out]; exact Ow6.out)⟩
              case measure => simp [intOf]; omega
            | false =>
              rw [hmu] at CMu
              have HP2 : Hid (((all.take (t + 1)).drop k).filter (fun z => mutG rs (x, y) z) = zs) := Lib.hid (by have := HP.out; rw [hmu] at this; simpa using this)
              clear hmu HP
              go_wp2_with fail
              go_region_held3 (fun w' => w'.cell? ⟨B, off + k * 2, none⟩ = some (.int .i64 x) ∧ w'.cell? ⟨B, off + k * 2 + 1, none⟩ = some (.int .i64 y) ∧ w'.cell? ⟨B, off + t * 2, none⟩ = some (.int .i64 x2) ∧ w'.cell? ⟨B, off + t * 2 + 1, none⟩ = some (.int .i64 y2))
                (first
                  | exact HX.out _ D1.out
                  | exact HX.out _ D0.out
                  | exact HX.out _ D0.out.drew)
                (first
                  | (go_at_call 60; (with_reducible refine (CMu.out _ D0.out.drew).mono ?_); rintro e w5 ⟨rfl, hb5⟩; have D1 := Lib.hid (D0.out.drew.trans (hb5.mono D0.out.drew.size)); clear hb5))
              go_wp2
              go_roundw
              case rel => exact ⟨t + 1, by omega, by omega, by go_num, Lib.hid (hb9.out.trans (D1.out.mono hb9.out.size)), Lib.hid (by rw [HP2.out]; exact own_on ho9.out D1.out)⟩
              case measure => simp [intOf]; omega
          · have tm : ¬ (t : Int) < m := by omega
            have et : t = m := by omega
            have HP : Hid (((all.take t).drop k).filter (fun z => mutG rs (x, y) z) = (all.drop k).filter fun z => mutG rs (x, y) z) := Lib.hid (by rw [et, HM.out]; exact part_all _)
            rw [HP.out] at ho9
            obtain ⟨q1, q2, q3, rfl⟩ := own_is ho9.out
            have HOW : Hid (Owns wr w.heap.size (sliceOf (q1, q2, q3)) ((all.drop k).filter fun z => mutG rs (x, y) z)) := Lib.hid (own_mono ho9.out HB3.out.size)
            have HLW := Lib.hid (HLO3.out.on hb9.out)
            have HRW : Hid (Owns wr w.heap.size (.slice (some ⟨B, off, none⟩) m ca) all) := Lib.hid (own_on HRA3.out hb9.out)
            have HBW := Lib.hid (HB3.out.trans (hb9.out.mono HB3.out.size))
            have HBA := Lib.hid (Cmd.below_one wr (.cells #[.slice q1 q2 q3] 38))
            obtain ⟨qs, hql, hqo, hqr⟩ := (HLW.out.on HBA.out).own
            have HQ := Lib.hid hqo
            have HSN := Lib.hid (fun w' v' (h1 : wdSl.Own 38 w' w.heap.size v' (qs ++ [(q1, q2, q3)])) hg => Lists.snoc hql hqo hqr (own_on HOW.out HBA.out) h1 hg)
            have HKP := Lib.hid (fun w' hg => own_kept (w' := w') (own_on HRW.out HBA.out : Owns _ w.heap.size _ all) hqo hg)
            have HQL : Hid (qs.length ≤ 25000) := Lib.hid (by have := ofL_len rs all k; omega)
            clear hqo hqr hql et
            go_wp2_with (at_builtin; refine wp_wide wtSl rfl _ _ rfl w.heap.size _ qs rfl HQ.out (by have := HBW.out.size; simp; omega) _ [(q1, q2, q3)] rfl (Wd.lone (D := wdSl) _ wr (q1, q2, q3) _ rfl) (by simp; have := HQL.out; omega) ?_; intro v6 w6 o6 b6 g6; have LN := Lib.hid (HSN.out _ _ o6.out g6.out); have RN := Lib.hid (HKP.out _ g6.out); have DN := Lib.hid ((HBW.out.trans (HBA.out.mono HBW.out.size)).trans b6.out); clear o6 b6 g6 HQ HSN HKP)
            go_roundw
            case rel => exact ⟨k + 1, by omega, by go_num, DN, Lib.hid (by rw [HE.out]; exact LN.out), RN⟩
            case measure => simp [intOf]; omega
    · have km : ¬ (k : Int) < m := by omega
      obtain rfl : k = m := by omega
      have HE : Hid (ofL rs all k = ofG rs) := Lib.hid (by unfold ofG; rw [← HALL.out, ← HM.out])
      go_wp2
      go_ret
      exact ⟨_, rfl, by rw [← HE.out]; exact ho.out.row, hb.out⟩
end Go.Proofs.YtjokejcokgeeiaaGreat.Cps
