/- The statement's function PremiseTells of layer 20: it returns true, whatever way graphs are kept (under Graphs and Premise) and where the play returns true. Conditions: the records and the list of ids lie in memory as their cells say; numbers' words of 64 bits; texts of a length that Go reads. -/
import Derived.Test.YtomidcbpnaajeaaGreatPreG
import Derived.Test.YtomidcbpnaajeaaGreatReg
namespace Go.Proofs.YtomidcbpnaajeaaGreat.Pre
open Go.RowKit Cmd Bat Ids Rec Wid Gra Cps Vau
set_option linter.unusedVariables false
set_option linter.unusedSimpArgs false

/-! ### Items -/
theorem items_take {rs : List Rcd} {xs : List Idn} {k : Nat} (h : k < xs.length) : itemsG rs (xs.take (k + 1)) = itemsG rs (xs.take k) ++ (if nth xs k ∈ idsG rs then [(nth xs k, (rcG rs (nth xs k)).2.2.2)] else []) := by
  have e : xs.take (k + 1) = xs.take k ++ [nth xs k] := by
    rw [List.take_succ_eq_append_getElem h]
    unfold nth
    rw [List.getD_eq_getElem?_getD, List.getElem?_eq_getElem h]; rfl
  unfold itemsG
  rw [e, List.filter_append, List.map_append]
  by_cases hm : nth xs k ∈ idsG rs
  · rw [if_pos hm]; simp [hm]
  · rw [if_neg hm]; simp [hm]
theorem items_len (rs : List Rcd) (xs : List Idn) : (itemsG rs xs).length ≤ xs.length := by
  unfold itemsG; rw [List.length_map]; exact List.length_filter_le _ _
theorem items_in {rs : List Rcd} {xs : List Idn} {x : Itm} (h : x ∈ itemsG rs xs) : ∃ r ∈ rs, x.2 = r.2.2.2 := by
  unfold itemsG at h
  obtain ⟨y, hy, rfl⟩ := List.mem_map.1 h
  exact ⟨_, (rcG_in (of_decide_eq_true (List.mem_filter.1 hy).2)).1, rfl⟩
theorem cmds_few : ∀ l : List Itm, (∀ x ∈ l, x.2.length ≤ 20) → (cmdsOf l).length ≤ l.length * 20
  | [], _ => by simp [cmdsOf]
  | x :: l, h => by
    have h1 := cmds_few l fun y hy => h y (List.mem_cons_of_mem _ hy)
    have h2 := h x List.mem_cons_self
    show (x.2 ++ cmdsOf l).length ≤ _
    rw [List.length_append, List.length_cons, Nat.add_mul]
    omega
theorem match_row {w : World} {v : Value} {qs : List Qt} {xs : List Itm} (h : layQ.Row w v qs) (m : Match w qs xs) : layT.Row w v xs := by
  obtain ⟨p, cap, rfl, h1, h2, h3⟩ := h
  refine ⟨p, cap, by rw [m.len], by rw [← m.len]; exact h1, h2, fun hz => ?_⟩
  obtain ⟨b, off, rfl, hi⟩ := h3 (fun e => hz (List.eq_nil_of_length_eq_zero (by rw [← m.len, e]; rfl)))
  refine ⟨b, off, rfl, hi.lt, fun j hj => ?_⟩
  have hj' : j < qs.length := by rw [m.len]; exact hj
  obtain ⟨c0, c1, c2⟩ := hi.cell j hj'
  exact ⟨by rw [← m.id j hj']; exact c0, by rw [← m.id j hj']; exact c1, _, c2, m.row j hj'⟩
theorem match_snoc {w : World} {qs : List Qt} {xs : List Itm} (m : Match w qs xs) {q : Qt} {x : Itm} (h1 : q.1 = x.1) (h2 : layC.Row w (sl q.2) x.2) : Match w (qs ++ [q]) (xs ++ [x]) := by
  refine ⟨by rw [List.length_append, List.length_append, m.len]; rfl, fun j hj => ?_, fun j hj => ?_⟩
  all_goals
    rw [at_snocL, at_snocL, m.len]
    rw [List.length_append, List.length_singleton, m.len] at hj
    by_cases e : j = xs.length
    · rw [if_pos e, if_pos e]; assumption
    · rw [if_neg e, if_neg e]
      first
        | exact m.id j (by rw [m.len]; omega)
        | exact m.row j (by rw [m.len]; omega)

/-- Two boxes of ids, made one behind the other. -/
structure Boxes (w W : World) (a b a' b' : Int) : Prop where
  low : Below w.heap.size w W
  fst : W.heap[w.heap.size]? = some (.cells #[.int .i64 a, .int .i64 b] 32 (0, 0))
  snd : W.heap[w.heap.size + 1]? = some (.cells #[.int .i64 a', .int .i64 b'] 32 (0, 0))
theorem two_boxes (w : World) (a b a' b' : Int) : Boxes w ((w.alloc (.cells #[.int .i64 a, .int .i64 b] 32)).alloc (.cells #[.int .i64 a', .int .i64 b'] 32)) a b a' b' := by
  have h1 := Cmd.below_one w (.cells #[.int .i64 a, .int .i64 b] 32)
  have n1 := heap_alloc_new w (.cells #[.int .i64 a, .int .i64 b] 32)
  have h2 := Cmd.below_one (w.alloc (.cells #[.int .i64 a, .int .i64 b] 32)) (.cells #[.int .i64 a', .int .i64 b'] 32)
  have n2 := heap_alloc_new (w.alloc (.cells #[.int .i64 a, .int .i64 b] 32)) (.cells #[.int .i64 a', .int .i64 b'] 32)
  rw [show (w.alloc (.cells #[.int .i64 a, .int .i64 b] 32)).heap.size = w.heap.size + 1 by simp] at n2
  exact ⟨h1.trans (h2.mono h1.size), (h2.block w.heap.size (by simp)).trans n1, n2⟩
theorem Boxes.on {w W X : World} {a b a' b' : Int} (h : Boxes w W a b a' b') (hb : Below W.heap.size W X) : Boxes w X a b a' b' := ⟨h.low.trans (hb.mono h.low.size), (hb.block _ (Array.getElem?_eq_some_iff.1 h.fst).1).trans h.fst, (hb.block _ (Array.getElem?_eq_some_iff.1 h.snd).1).trans h.snd⟩

/-! ### PremiseTells -/
set_option maxRecDepth 100000 in
theorem ptell_few (CP : ∀ w, Calls Tryz.prog 7 #[] w (RetBelow (.bool true) w)) (v u : Value) (px : Option Addr) (mx cx : Nat) (rs : List Rcd) (w : World) (h : layG.Row w v rs) (hl : fewG rs 14 = false) : Calls Tryz.prog 3 #[v, .slice px mx cx, u] w (RetBelow (.bool true) w) := by
  have HP := Lib.hid CP
  have CF : Hid (Calls Tryz.prog 5 #[v, .int .i64 14] w (RetBelow (.bool false) w)) := Lib.hid (by have := few_any v rs 14 (by decide) w h; rw [hl] at this; exact this)
  clear h hl CP
  go_enter Tryz.func3, Tryz.ntmps3
  go_wp2_with (first
    | (go_at_call 5; ((with_reducible refine CF.out.mono ?_); rintro E w1 ⟨rfl, hb⟩; have B1 := Lib.hid hb; clear hb))
    | (go_at_call 7; ((with_reducible refine (HP.out _).mono ?_); rintro E w2 ⟨rfl, hb⟩; have B2 := Lib.hid (B1.out.trans (hb.mono B1.out.size)); clear hb)))
  go_ret
  exact ⟨rfl, B2.out⟩
set_option maxRecDepth 100000 in
theorem ptell_long (CP : ∀ w, Calls Tryz.prog 7 #[] w (RetBelow (.bool true) w)) (v u : Value) (px : Option Addr) (mx cx : Nat) (rs : List Rcd) (w : World) (h : layG.Row w v rs) (hl : fewG rs 14 = true) (hm : 14 < mx) : Calls Tryz.prog 3 #[v, .slice px mx cx, u] w (RetBelow (.bool true) w) := by
  have HP := Lib.hid CP
  have CF : Hid (Calls Tryz.prog 5 #[v, .int .i64 14] w (RetBelow (.bool true) w)) := Lib.hid (by have := few_any v rs 14 (by decide) w h; rw [hl] at this; exact this)
  have q1 : decide ((14 : Int) < mx) = true := decide_eq_true (by omega)
  clear h hl CP
  go_enter Tryz.func3, Tryz.ntmps3
  go_wp2_with (first
    | (go_at_call 5; ((with_reducible refine CF.out.mono ?_); rintro E w1 ⟨rfl, hb⟩; have B1 := Lib.hid hb; clear hb))
    | (go_at_call 7; ((with_reducible refine (HP.out _).mono ?_); rintro E w2 ⟨rfl, hb⟩; have B2 := Lib.hid (B1.out.trans (hb.mono B1.out.size)); clear hb)))
  go_ret
  exact ⟨rfl, B2.out⟩
set_option maxRecDepth 100000 in
theorem ptell_bad (CP : ∀ w, Calls Tryz.prog 7 #[] w (RetBelow (.bool true) w)) (v u : Value) (px : Option Addr) (mx cx : Nat) (rs : List Rcd) (w : World) (h : layG.Row w v rs) (hw : ∀ x ∈ rs, wfG x) (hl : fewG rs 14 = true) (hm : ¬ 14 < mx) (he : gErr rs ≠ 0) : Calls Tryz.prog 3 #[v, .slice px mx cx, u] w (RetBelow (.bool true) w) := by
  have HP := Lib.hid CP
  have CF : Hid (Calls Tryz.prog 5 #[v, .int .i64 14] w (RetBelow (.bool true) w)) := Lib.hid (by have := few_any v rs 14 (by decide) w h; rw [hl] at this; exact this)
  have CC := Lib.hid (fun W (hb : Below w.heap.size w W) => refgerr_any v rs W (h.on hb) hw)
  have q1 : decide ((14 : Int) < mx) = false := decide_eq_false (by omega)
  generalize gErr rs = e at CC he
  have q2 : (e != (0 : Int)) = true := by rw [bne, beq_eq_false_iff_ne.2 he]; rfl
  clear h hl CP hw
  go_enter Tryz.func3, Tryz.ntmps3
  go_wp2_with (first
    | (go_at_call 5; ((with_reducible refine CF.out.mono ?_); rintro E w1 ⟨rfl, hb⟩; have B1 := Lib.hid hb; have C1 := Lib.hid (CC.out w1 hb); clear hb))
    | (go_at_call 6; ((with_reducible refine C1.out.mono ?_); rintro E w2 ⟨rfl, hb⟩; have B2 := Lib.hid (B1.out.trans (hb.mono B1.out.size)); clear hb))
    | (go_at_call 7; ((with_reducible refine (HP.out _).mono ?_); rintro E w3 ⟨rfl, hb⟩; have B3 := Lib.hid (B2.out.trans (hb.mono B2.out.size)); clear hb)))
  go_ret
  exact ⟨rfl, B3.out⟩
set_option maxRecDepth 100000 in
set_option maxHeartbeats 16000000 in
theorem ptell_ok {G : Nat → Nat → List Rcd → World → Prop} (HG : Graphs G) (PG : Premise G) (CP : ∀ w, Calls Tryz.prog 7 #[] w (RetBelow (.bool true) w)) (pv : Option Addr) (nv cv : Nat) (px : Option Addr) (mx cx : Nat) (s : List UInt8) (rs : List Rcd) (w : World) (h : layG.Row w (.slice pv nv cv) rs) (xs : List Idn) (hw : ∀ x ∈ rs, wfG x) (hx : RowAt w (.slice px mx cx) xs) (hxw : ∀ x ∈ xs, wfId x) (hl : fewG rs 14 = true) (hm : ¬ 14 < mx) (he : gErr rs = 0) : Calls Tryz.prog 3 #[.slice pv nv cv, .slice px mx cx, .string (str s)] w (RetBelow (.bool true) w) := by
  have HP := Lib.hid CP
  have HPG := Lib.hid PG
  have HGG := Lib.hid HG
  have HWF := Lib.hid hw
  have CF : Hid (Calls Tryz.prog 5 #[.slice pv nv cv, .int .i64 14] w (RetBelow (.bool true) w)) := Lib.hid (by have := few_any (.slice pv nv cv) rs 14 (by decide) w h; rw [hl] at this; exact this)
  have CC := Lib.hid (fun W (hb : Below w.heap.size w W) => refgerr_any (.slice pv nv cv) rs W (h.on hb) hw)
  rw [he] at CC
  have hfew := few_out hl
  have CN := Lib.hid (fun W (hb : Below w.heap.size w W) => pnew_ok HG (h.on hb) (plot_few hw hl (by decide)) he)
  have CR := Lib.hid (fun W (hb : Below w.heap.size w W) => refholds_any (.slice pv nv cv) rs W (h.on hb) (by omega) hw)
  have HLo : Hid (∀ r ∈ rs, r.2.2.2.length ≤ 20) := Lib.hid fun r hr => (hfew.2 r hr).2
  have HXR := Lib.hid hx
  have HXW := Lib.hid hxw
  have HVR := Lib.hid h
  obtain ⟨p'', c'', e'', -, hdv⟩ := h.parts
  have env : nv = rs.length := by injection e''
  have epv : pv = p'' := by injection e''
  subst epv
  have HNV : Hid (nv = rs.length) := Lib.hid env
  have DV : Hid (nv = 0 ∨ ∃ B off, pv = some ⟨B, off, none⟩ ∧ Hid (layG.In w B off rs)) := Lib.hid (by rw [env]; exact hdv)
  obtain ⟨p', c', e', -, hdx⟩ := Rec.RowAt.parts hx
  have emx : mx = xs.length := by injection e'
  have epx : px = p' := by injection e'
  subst epx
  have HXL : Hid (mx = xs.length) := Lib.hid emx
  have HM14 : mx ≤ 14 := by omega
  have DX := Lib.hid hdx
  have q1 : decide ((14 : Int) < mx) = false := decide_eq_false (by omega)
  clear h hw hl he CP e'' hdv env hfew e' hdx emx hx hxw HG PG
  go_enter Tryz.func3, Tryz.ntmps3
  go_upto_region 6 with (first
    | (go_at_call 5; ((with_reducible refine CF.out.mono ?_); rintro E w1 ⟨rfl, hb⟩; have B1 := Lib.hid hb; have C1 := Lib.hid (CC.out w1 hb); clear hb))
    | (go_at_call 6; ((with_reducible refine C1.out.mono ?_); rintro E w2 ⟨rfl, hb⟩; have B2 := Lib.hid (B1.out.trans (hb.mono B1.out.size)); have N2 := Lib.hid (CN.out w2 B2.out); clear hb))
    | (go_at_call 8; ((with_reducible refine N2.out.mono ?_); rintro E w3 ⟨g, rfl, hg, hb⟩; have B3 := Lib.hid (B2.out.trans (hb.mono B2.out.size)); have G3 := Lib.hid hg; have H3 := Lib.hid (HPG.out.holds hg); clear hb hg))
    | (go_at_call 9; ((with_reducible refine H3.out.mono ?_); rintro E w5 ⟨a, b, a', b', ok, rfl, hh, hb⟩; have HH := Lib.hid hh; have B35 := Lib.hid hb; have B5 := Lib.hid (B3.out.trans (hb.mono B3.out.size)); have X5 := Lib.hid (two_boxes w5 a b a' b'); have R5 := Lib.hid (CR.out _ (B5.out.trans (X5.out.low.mono B5.out.size))); clear hb hh))
    | (go_at_call 10; ((with_reducible refine R5.out.mono ?_); rintro E w8 ⟨c, d, c', d', ok', rfl, hh, hb⟩; obtain ⟨e1, e2, rfl⟩ := hlds_one hh HH.out; obtain ⟨rfl, rfl⟩ := Prod.mk.inj e1; obtain ⟨rfl, rfl⟩ := Prod.mk.inj e2; have B58 := Lib.hid (X5.out.low.trans (hb.mono X5.out.low.size)); have X58 := Lib.hid (X5.out.on hb); have X8 := Lib.hid (two_boxes w8 c d c' d'); clear hb hh e1 e2)))
  have HB10 := Lib.hid (B5.out.trans ((B58.out.trans (X8.out.low.mono B58.out.size)).mono B5.out.size))
  have X510 := Lib.hid (X58.out.on X8.out.low)
  have G10 := Lib.hid (HGG.out.on G3.out (by have h1 := B35.out.trans ((B58.out.trans (X8.out.low.mono B58.out.size)).mono B35.out.size); exact h1.mono (HGG.out.le G3.out)))
  obtain ⟨w10, hw10⟩ : ∃ W, W = (w8.alloc (.cells #[.int .i64 c, .int .i64 d] 32)).alloc (.cells #[.int .i64 c', .int .i64 d'] 32) := ⟨_, rfl⟩
  rw [← hw10] at HB10 X510 G10 X8 ⊢
  clear hw10 R5 N2 C1 H3 CN CR CC CF
  have f0 := cell_row (i := 0) X510.out.fst rfl
  have f1 := cell_row (i := 1) X510.out.fst rfl
  have f2 := cell_row (i := 0) X510.out.snd rfl
  have f3 := cell_row (i := 1) X510.out.snd rfl
  have f4 := cell_row (i := 0) X8.out.fst rfl
  have f5 := cell_row (i := 1) X8.out.fst rfl
  have f6 := cell_row (i := 0) X8.out.snd rfl
  have f7 := cell_row (i := 1) X8.out.snd rfl
  go_wp2_with fail
  clear f0 f1 f2 f3 f4 f5 f6 f7
  go_loopw [15, 16] (fun o i wr => ∃ (k : Nat) (qs : List Qt), k ≤ mx ∧ i = .int .i64 k ∧ Hid (Below w10.heap.size w10 wr) ∧ Hid (wdQ.Own 44 wr w10.heap.size o qs ∧ Match w qs (itemsG rs (xs.take k)))) (fun _ i _ => mx - (intOf i).toNat)
  case atStart => exact ⟨0, [], Nat.zero_le _, rfl, Lib.hid (Cmd.below_one w10 _), Lib.hid ⟨Wd.Own.made _ w10 (Nat.le_refl _), Match.nil w⟩⟩
  case round =>
    obtain ⟨k, qs, hk, rfl, HB, HO⟩ := hrel
    have k0 : (0 : Int) ≤ k := by omega
    have HW := Lib.hid (HB10.out.trans (HB.out.mono HB10.out.size))
    by_cases hkm : k < mx
    · have km : (k : Int) < mx := by omega
      have m0 : (0 : Int) < mx := by omega
      have m1 : 0 < mx := by omega
      have hkx : k < xs.length := by rw [← HXL.out]; exact hkm
      have h0x : 0 < xs.length := by omega
      obtain ⟨B, off, rfl, HC⟩ := DX.out.resolve_left (by omega)
      have HIT := Lib.hid (items_take (rs := rs) hkx)
      have HWY := HXW.out _ (nth_memP h0x)
      have HWY' := HXW.out _ (nth_memP hkx)
      obtain ⟨⟨y, z⟩, hxy⟩ : ∃ q, nth xs 0 = q := ⟨_, rfl⟩
      obtain ⟨⟨y', z'⟩, hxy'⟩ : ∃ q, nth xs k = q := ⟨_, rfl⟩
      rw [hxy'] at HIT HWY'
      rw [hxy] at HWY
      have HS : Hid (∀ w', Below w.heap.size w w' → w'.cell? ⟨B, off, none⟩ = some (.int .i64 y) ∧ w'.cell? ⟨B, off + 1, none⟩ = some (.int .i64 z) ∧ w'.cell? ⟨B, off + k * 2, none⟩ = some (.int .i64 y') ∧ w'.cell? ⟨B, off + k * 2 + 1, none⟩ = some (.int .i64 z')) := Lib.hid fun w' hb => by
        have c0 := (HC.out.on hb).fst 0 h0x
        have c1 := (HC.out.on hb).snd 0 h0x
        have c2 := (HC.out.on hb).fst k hkx
        have c3 := (HC.out.on hb).snd k hkx
        rw [hxy] at c0 c1
        rw [hxy'] at c2 c3
        rw [Nat.zero_mul, Nat.add_zero] at c0 c1
        exact ⟨c0, c1, c2, c3⟩
      have CA1 := Lib.hid (fun W (hb : Below w.heap.size w W) => find_any (.slice pv nv cv) rs y z W (HVR.out.on hb))
      have CA2 := Lib.hid (fun W (hb : Below w.heap.size w W) => find_any (.slice pv nv cv) rs y' z' W (HVR.out.on hb))
      have CE := Lib.hid (fun W (hb : Below w10.heap.size w10 W) => HPG.out.edge (HGG.out.on G10.out (hb.mono (HGG.out.le G10.out))) y z y' z' HWY HWY')
      have F1 := Lib.hid (find_cases rs (y, z))
      have F2 := Lib.hid (find_cases rs (y', z'))
      clear hkx h0x HWY HWY' hxy hxy'
      generalize hf1 : findG rs (y, z) = f1 at CA1 F1
      generalize hf2 : findG rs (y', z') = f2 at CA2 F2
      have E0 := HW
      go_wp2_with fail
      go_region_held3 (fun w' => w'.cell? ⟨B, off, none⟩ = some (.int .i64 y) ∧ w'.cell? ⟨B, off + 1, none⟩ = some (.int .i64 z) ∧ w'.cell? ⟨B, off + k * 2, none⟩ = some (.int .i64 y') ∧ w'.cell? ⟨B, off + k * 2 + 1, none⟩ = some (.int .i64 z'))
        (first
          | exact HS.out _ E2.out
          | exact HS.out _ E1.out
          | exact HS.out _ E0.out
          | exact HS.out _ (E0.out.trans ((Below.refl _ _).drew.mono E0.out.size)))
        (first
          | (go_at_call 11; (with_reducible refine (CA1.out _ (E0.out.trans ((Below.refl _ _).drew.mono E0.out.size))).mono ?_); rintro e z1 ⟨rfl, hb1⟩; have H1 := Lib.hid (Below.trans (Below.refl wr.heap.size wr).drew (hb1.mono (Below.refl wr.heap.size wr).drew.size)); have E1 := Lib.hid (E0.out.trans (H1.out.mono E0.out.size)); clear hb1)
          | (go_at_call 11; (with_reducible refine (CA2.out _ E1.out).mono ?_); rintro e z2 ⟨rfl, hb2⟩; have H2 := Lib.hid (H1.out.trans (hb2.mono H1.out.size)); have E2 := Lib.hid (E0.out.trans (H2.out.mono E0.out.size)); clear hb2))
      have HSr : Hid (∀ w', Below wr.heap.size wr w' → w'.cell? ⟨B, off, none⟩ = some (.int .i64 y) ∧ w'.cell? ⟨B, off + 1, none⟩ = some (.int .i64 z) ∧ w'.cell? ⟨B, off + k * 2, none⟩ = some (.int .i64 y') ∧ w'.cell? ⟨B, off + k * 2 + 1, none⟩ = some (.int .i64 z')) := Lib.hid fun w' hb => HS.out w' (HW.out.trans (hb.mono HW.out.size))
      have CE2 : Hid (∀ W, Below wr.heap.size wr W → Calls Tryz.prog 12 #[gptr g, .agg #[.int .i64 y, .int .i64 z], .agg #[.int .i64 y', .int .i64 z']] W (RetBelow (.bool (edgeG rs (y, z) (y', z'))) W)) := Lib.hid fun W hb => CE.out W (HB.out.trans (hb.mono HB.out.size))
      have HLq : Hid (qs.length + 1 ≤ 1000000) := Lib.hid (by have h1 := HO.out.2.len; have h2 := items_len rs (xs.take k); rw [List.length_take] at h2; omega)
      have DR : Hid (Below wr.heap.size wr z2.drew) := Lib.hid H2.out.drew
      clear CE CA1 CA2 E1 E2 H1 E0
      rcases F1.out with h1 | ⟨rfl, hno1⟩
      · rcases F2.out with h2 | ⟨rfl, hno2⟩
        · obtain ⟨i1, hi1, ex1, -, rfl, hm1⟩ := h1
          have i10 : (0 : Int) ≤ i1 := by omega
          have i1n : (i1 : Int) < nv := by have := HNV.out; omega
          obtain ⟨i2, hi2, ex2, -, rfl, hm2⟩ := h2
          have i20 : (0 : Int) ≤ i2 := by omega
          have i2n : (i2 : Int) < nv := by have := HNV.out; omega
          obtain ⟨Bv, ov, rfl, HCv⟩ := DV.out.resolve_left (by have := HNV.out; omega)
          obtain ⟨⟨⟨a2, b2⟩, g2, ds2, cs2⟩, hr2⟩ : ∃ r, layG.at rs i2 = r := ⟨_, rfl⟩
          obtain ⟨p2, k2, p2', k2', A2, -, -⟩ := rcdAt HCv.out hi2 hr2
          obtain ⟨m2, hmm2⟩ : ∃ l, l = cs2.length := ⟨_, rfl⟩
          obtain ⟨l2, hll2⟩ : ∃ l, l = ds2.length := ⟨_, rfl⟩
          rw [← hmm2, ← hll2] at A2
          have HYes := Lib.hid hm2
          have HBat : Hid (layC.Row w (sl (p2', m2, k2')) (rcG rs (y', z')).2.2.2) := Lib.hid (by
            have e : rcG rs (y', z') = ((a2, b2), g2, ds2, cs2) := by unfold rcG; rw [hf2]; exact hr2
            rw [e]; exact A2.rc)
          have H16 : Hid (∀ w', Below w.heap.size w w' → w'.cell? ⟨B, off + k * 2, none⟩ = some (.int .i64 y') ∧ w'.cell? ⟨B, off + k * 2 + 1, none⟩ = some (.int .i64 z') ∧ w'.cell? ⟨Bv, ov + i2 * 5 + 4, none⟩ = some (.slice p2' m2 k2')) := Lib.hid fun w' hb => ⟨(HS.out w' hb).2.2.1, (HS.out w' hb).2.2.2, (A2.on hb).c4⟩
          obtain ⟨⟨⟨a1, b1⟩, g1, ds1, cs1⟩, hr1⟩ : ∃ r, layG.at rs i1 = r := ⟨_, rfl⟩
          obtain ⟨p1, k1, p1', k1', A1, -, -⟩ := rcdAt HCv.out hi1 hr1
          obtain ⟨m1', hmm1⟩ : ∃ l, l = cs1.length := ⟨_, rfl⟩
          obtain ⟨l1, hll1⟩ : ∃ l, l = ds1.length := ⟨_, rfl⟩
          rw [← hmm1, ← hll1] at A1
          have he : edgeG rs (y, z) (y', z') = edgeR ((a1, b1), g1, ds1, cs1) ((a2, b2), g2, ds2, cs2) := by
            have e1 : rcG rs (y, z) = ((a1, b1), g1, ds1, cs1) := by unfold rcG; rw [hf1]; exact hr1
            have e2 : rcG rs (y', z') = ((a2, b2), g2, ds2, cs2) := by unfold rcG; rw [hf2]; exact hr2
            unfold edgeG; rw [e1, e2, decide_eq_true hm1, decide_eq_true hm2]; rfl
          have CRf := Lib.hid (fun W (hb : Below wr.heap.size wr W) => refedge_any a1 b1 g1 (.slice p1 l1 k1) (.slice p1' m1' k1') a2 b2 g2 (.slice p2 l2 k2) (.slice p2' m2 k2') ds1 ds2 cs1 cs2 W (A1.on (HW.out.trans (hb.mono HW.out.size))).rd (A1.on (HW.out.trans (hb.mono HW.out.size))).rc (A2.on (HW.out.trans (hb.mono HW.out.size))).rd (A2.on (HW.out.trans (hb.mono HW.out.size))).rc)
          rw [he] at CE2
          have HSS : Hid (∀ w', Below wr.heap.size wr w' → (w'.cell? ⟨B, off, none⟩ = some (.int .i64 y) ∧ w'.cell? ⟨B, off + 1, none⟩ = some (.int .i64 z) ∧ w'.cell? ⟨B, off + k * 2, none⟩ = some (.int .i64 y') ∧ w'.cell? ⟨B, off + k * 2 + 1, none⟩ = some (.int .i64 z')) ∧ w'.cell? ⟨Bv, ov + i1 * 5, none⟩ = some (.int .i64 a1) ∧ w'.cell? ⟨Bv, ov + i1 * 5 + 1, none⟩ = some (.int .i64 b1) ∧ w'.cell? ⟨Bv, ov + i1 * 5 + 2, none⟩ = some (.int .i64 g1) ∧ w'.cell? ⟨Bv, ov + i1 * 5 + 3, none⟩ = some (.slice p1 l1 k1) ∧ w'.cell? ⟨Bv, ov + i1 * 5 + 4, none⟩ = some (.slice p1' m1' k1') ∧ w'.cell? ⟨Bv, ov + i2 * 5, none⟩ = some (.int .i64 a2) ∧ w'.cell? ⟨Bv, ov + i2 * 5 + 1, none⟩ = some (.int .i64 b2) ∧ w'.cell? ⟨Bv, ov + i2 * 5 + 2, none⟩ = some (.int .i64 g2) ∧ w'.cell? ⟨Bv, ov + i2 * 5 + 3, none⟩ = some (.slice p2 l2 k2) ∧ w'.cell? ⟨Bv, ov + i2 * 5 + 4, none⟩ = some (.slice p2' m2 k2')) := Lib.hid fun w' hb => by
            have r1 := A1.on (HW.out.trans (hb.mono HW.out.size))
            have r2 := A2.on (HW.out.trans (hb.mono HW.out.size))
            exact ⟨HSr.out w' hb, r1.c0, r1.c1, r1.c2, r1.c3, r1.c4, r2.c0, r2.c1, r2.c2, r2.c3, r2.c4⟩
          generalize edgeR ((a1, b1), g1, ds1, cs1) ((a2, b2), g2, ds2, cs2) = eb at CE2 CRf
          clear A1 A2 he hm1 hm2 hr1 hr2 hi1 hi2 ex1 ex2 hmm1 hmm2 hll1 hll2 hf1 hf2 HCv
          go_wp2_with fail
          refine wp_region_held_drew (S := (fun w' => (w'.cell? ⟨B, off, none⟩ = some (.int .i64 y) ∧ w'.cell? ⟨B, off + 1, none⟩ = some (.int .i64 z) ∧ w'.cell? ⟨B, off + k * 2, none⟩ = some (.int .i64 y') ∧ w'.cell? ⟨B, off + k * 2 + 1, none⟩ = some (.int .i64 z')) ∧ w'.cell? ⟨Bv, ov + i1 * 5, none⟩ = some (.int .i64 a1) ∧ w'.cell? ⟨Bv, ov + i1 * 5 + 1, none⟩ = some (.int .i64 b1) ∧ w'.cell? ⟨Bv, ov + i1 * 5 + 2, none⟩ = some (.int .i64 g1) ∧ w'.cell? ⟨Bv, ov + i1 * 5 + 3, none⟩ = some (.slice p1 l1 k1) ∧ w'.cell? ⟨Bv, ov + i1 * 5 + 4, none⟩ = some (.slice p1' m1' k1') ∧ w'.cell? ⟨Bv, ov + i2 * 5, none⟩ = some (.int .i64 a2) ∧ w'.cell? ⟨Bv, ov + i2 * 5 + 1, none⟩ = some (.int .i64 b2) ∧ w'.cell? ⟨Bv, ov + i2 * 5 + 2, none⟩ = some (.int .i64 g2) ∧ w'.cell? ⟨Bv, ov + i2 * 5 + 3, none⟩ = some (.slice p2 l2 k2) ∧ w'.cell? ⟨Bv, ov + i2 * 5 + 4, none⟩ = some (.slice p2' m2 k2'))) (by kernel_rfl) (HSS.out _ DR.out) (fun hHeld => ?_)
          generalize z2.drew = Y0 at DR hHeld ⊢
          refine ty (v := ?_) 0 (fun w hSw => ?_) ?_
          rotate_left
          · (try dsimp only at hSw); go_simp; (try with_reducible rfl)
          try simp only [List.getElem_toArray, List.getElem_cons_succ, List.getElem_cons_zero, Act.put, List.setIfInBounds_toArray, List.set_cons_zero, List.set_cons_succ]
          refine ty (v := ?_) 1 (fun w hSw => ?_) ?_
          rotate_left
          · (try dsimp only at hSw); go_simp; (try with_reducible rfl)
          try simp only [List.getElem_toArray, List.getElem_cons_succ, List.getElem_cons_zero, Act.put, List.setIfInBounds_toArray, List.set_cons_zero, List.set_cons_succ]
          refine ty (v := ?_) 2 (fun w hSw => ?_) ?_
          rotate_left
          · (try dsimp only at hSw); go_simp; (try with_reducible rfl)
          try simp only [List.getElem_toArray, List.getElem_cons_succ, List.getElem_cons_zero, Act.put, List.setIfInBounds_toArray, List.set_cons_zero, List.set_cons_succ]
          refine ty (v := ?_) 3 (fun w hSw => ?_) ?_
          rotate_left
          · (try dsimp only at hSw); go_simp; (try with_reducible rfl)
          try simp only [List.getElem_toArray, List.getElem_cons_succ, List.getElem_cons_zero, Act.put, List.setIfInBounds_toArray, List.set_cons_zero, List.set_cons_succ]
          refine ty (v := ?_) 4 (fun w hSw => ?_) ?_
          rotate_left
          · (try dsimp only at hSw); go_simp; (try with_reducible rfl)
          try simp only [List.getElem_toArray, List.getElem_cons_succ, List.getElem_cons_zero, Act.put, List.setIfInBounds_toArray, List.set_cons_zero, List.set_cons_succ]
          refine ty (v := ?_) 5 (fun w hSw => ?_) ?_
          rotate_left
          · (try dsimp only at hSw); go_simp; (try with_reducible rfl)
          try simp only [List.getElem_toArray, List.getElem_cons_succ, List.getElem_cons_zero, Act.put, List.setIfInBounds_toArray, List.set_cons_zero, List.set_cons_succ]
          refine ty (v := ?_) 6 (fun w hSw => ?_) ?_
          rotate_left
          · (try dsimp only at hSw); go_simp; (try with_reducible rfl)
          try simp only [List.getElem_toArray, List.getElem_cons_succ, List.getElem_cons_zero, Act.put, List.setIfInBounds_toArray, List.set_cons_zero, List.set_cons_succ]
          refine ty (v := ?_) 7 (fun w hSw => ?_) ?_
          rotate_left
          · (try dsimp only at hSw); go_simp; (try with_reducible rfl)
          try simp only [List.getElem_toArray, List.getElem_cons_succ, List.getElem_cons_zero, Act.put, List.setIfInBounds_toArray, List.set_cons_zero, List.set_cons_succ]
          refine ty (v := ?_) 9 (fun w hSw => ?_) ?_
          rotate_left
          · (try dsimp only at hSw); go_simp; (try with_reducible rfl)
          try simp only [List.getElem_toArray, List.getElem_cons_succ, List.getElem_cons_zero, Act.put, List.setIfInBounds_toArray, List.set_cons_zero, List.set_cons_succ]
          refine ty (v := ?_) 10 (fun w hSw => ?_) ?_
          rotate_left
          · (try dsimp only at hSw); go_simp; (try with_reducible rfl)
          try simp only [List.getElem_toArray, List.getElem_cons_succ, List.getElem_cons_zero, Act.put, List.setIfInBounds_toArray, List.set_cons_zero, List.set_cons_succ]
          refine tr 8 (fun K hK => ?_)
          go_simp
          (go_at_call 12; ((with_reducible refine (CE2.out _ DR.out).mono ?_); rintro E Y1 ⟨rfl, hb⟩; have DY := Lib.hid (DR.out.trans (hb.mono DR.out.size)); clear hb))
          refine hK.out _ _ ?_ (fun hHeld => ?_)
          · exact HSS.out _ DY.out
          clear hK K
          try simp only [List.getElem_toArray, List.getElem_cons_succ, List.getElem_cons_zero, Act.put, List.setIfInBounds_toArray, List.set_cons_zero, List.set_cons_succ]
          refine ty (v := ?_) 11 (fun w hSw => ?_) ?_
          rotate_left
          · (try dsimp only at hSw); go_simp; (try with_reducible rfl)
          try simp only [List.getElem_toArray, List.getElem_cons_succ, List.getElem_cons_zero, Act.put, List.setIfInBounds_toArray, List.set_cons_zero, List.set_cons_succ]
          refine ty (v := ?_) 12 (fun w hSw => ?_) ?_
          rotate_left
          · (try dsimp only at hSw); go_simp; (try with_reducible rfl)
          try simp only [List.getElem_toArray, List.getElem_cons_succ, List.getElem_cons_zero, Act.put, List.setIfInBounds_toArray, List.set_cons_zero, List.set_cons_succ]
          refine ty (v := ?_) 13 (fun w hSw => ?_) ?_
          rotate_left
          · (try dsimp only at hSw); go_simp; (try with_reducible rfl)
          try simp only [List.getElem_toArray, List.getElem_cons_succ, List.getElem_cons_zero, Act.put, List.setIfInBounds_toArray, List.set_cons_zero, List.set_cons_succ]
          refine ty (v := ?_) 14 (fun w hSw => ?_) ?_
          rotate_left
          · (try dsimp only at hSw); go_simp; (try with_reducible rfl)
          try simp only [List.getElem_toArray, List.getElem_cons_succ, List.getElem_cons_zero, Act.put, List.setIfInBounds_toArray, List.set_cons_zero, List.set_cons_succ]
          refine ty (v := ?_) 15 (fun w hSw => ?_) ?_
          rotate_left
          · (try dsimp only at hSw); go_simp; (try with_reducible rfl)
          try simp only [List.getElem_toArray, List.getElem_cons_succ, List.getElem_cons_zero, Act.put, List.setIfInBounds_toArray, List.set_cons_zero, List.set_cons_succ]
          refine ty (v := ?_) 16 (fun w hSw => ?_) ?_
          rotate_left
          · (try dsimp only at hSw); go_simp; (try with_reducible rfl)
          try simp only [List.getElem_toArray, List.getElem_cons_succ, List.getElem_cons_zero, Act.put, List.setIfInBounds_toArray, List.set_cons_zero, List.set_cons_succ]
          refine ty (v := ?_) 17 (fun w hSw => ?_) ?_
          rotate_left
          · (try dsimp only at hSw); go_simp; (try with_reducible rfl)
          try simp only [List.getElem_toArray, List.getElem_cons_succ, List.getElem_cons_zero, Act.put, List.setIfInBounds_toArray, List.set_cons_zero, List.set_cons_succ]
          refine ty (v := ?_) 18 (fun w hSw => ?_) ?_
          rotate_left
          · (try dsimp only at hSw); go_simp; (try with_reducible rfl)
          try simp only [List.getElem_toArray, List.getElem_cons_succ, List.getElem_cons_zero, Act.put, List.setIfInBounds_toArray, List.set_cons_zero, List.set_cons_succ]
          refine ty (v := ?_) 19 (fun w hSw => ?_) ?_
          rotate_left
          · (try dsimp only at hSw); go_simp; (try with_reducible rfl)
          try simp only [List.getElem_toArray, List.getElem_cons_succ, List.getElem_cons_zero, Act.put, List.setIfInBounds_toArray, List.set_cons_zero, List.set_cons_succ]
          refine ty (v := ?_) 20 (fun w hSw => ?_) ?_
          rotate_left
          · (try dsimp only at hSw); go_simp; (try with_reducible rfl)
          try simp only [List.getElem_toArray, List.getElem_cons_succ, List.getElem_cons_zero, Act.put, List.setIfInBounds_toArray, List.set_cons_zero, List.set_cons_succ]
          refine ty (v := ?_) 21 (fun w hSw => ?_) ?_
          rotate_left
          · (try dsimp only at hSw); go_simp; (try with_reducible rfl)
          try simp only [List.getElem_toArray, List.getElem_cons_succ, List.getElem_cons_zero, Act.put, List.setIfInBounds_toArray, List.set_cons_zero, List.set_cons_succ]
          refine ty (v := ?_) 22 (fun w hSw => ?_) ?_
          rotate_left
          · (try dsimp only at hSw); go_simp; (try with_reducible rfl)
          try simp only [List.getElem_toArray, List.getElem_cons_succ, List.getElem_cons_zero, Act.put, List.setIfInBounds_toArray, List.set_cons_zero, List.set_cons_succ]
          refine ty (v := ?_) 23 (fun w hSw => ?_) ?_
          rotate_left
          · (try dsimp only at hSw); go_simp; (try with_reducible rfl)
          try simp only [List.getElem_toArray, List.getElem_cons_succ, List.getElem_cons_zero, Act.put, List.setIfInBounds_toArray, List.set_cons_zero, List.set_cons_succ]
          refine tr 24 (fun K hK => ?_)
          go_simp
          (go_at_call 13; ((with_reducible refine (CRf.out _ DY.out).mono ?_); rintro E Y2 ⟨rfl, hb⟩; have DY2 := Lib.hid (DY.out.trans (hb.mono DY.out.size)); clear hb))
          refine hK.out _ _ ?_ (fun hHeld => ?_)
          · exact HSS.out _ DY2.out
          clear hK K
          try simp only [List.getElem_toArray, List.getElem_cons_succ, List.getElem_cons_zero, Act.put, List.setIfInBounds_toArray, List.set_cons_zero, List.set_cons_succ]
          refine ty (v := ?_) 25 (fun w hSw => ?_) ?_
          rotate_left
          · (try dsimp only at hSw); go_simp; (try with_reducible rfl)
          try simp only [List.getElem_toArray, List.getElem_cons_succ, List.getElem_cons_zero, Act.put, List.setIfInBounds_toArray, List.set_cons_zero, List.set_cons_succ]
          refine ty (v := ?_) 26 (fun w hSw => ?_) ?_
          rotate_left
          · (try dsimp only at hSw); go_simp; (try with_reducible rfl)
          try simp only [List.getElem_toArray, List.getElem_cons_succ, List.getElem_cons_zero, Act.put, List.setIfInBounds_toArray, List.set_cons_zero, List.set_cons_succ]
          refine wpAnyH_done (by kernel_rfl) ?_ _
          have DY := DY2
          have DR5 := Lib.hid DY.out.drew
          go_wp2_with fail
          refine wp_region_held_drew (S := (fun w' => w'.cell? ⟨B, off + k * 2, none⟩ = some (.int .i64 y') ∧ w'.cell? ⟨B, off + k * 2 + 1, none⟩ = some (.int .i64 z') ∧ w'.cell? ⟨Bv, ov + i2 * 5 + 4, none⟩ = some (.slice p2' m2 k2'))) (by kernel_rfl) (H16.out _ (HW.out.trans (DR5.out.mono HW.out.size))) (fun hHeld => ?_)
          generalize Y2.drew = Y5 at DR5 hHeld ⊢
          have hbA := Cmd.below_one Y5 (.cells #[.int .i64 y', .int .i64 z', .slice p2' m2 k2'] 44)
          have DRA := Lib.hid (DR5.out.trans (hbA.mono DR5.out.size))
          have DA := Lib.hid (HB.out.trans (DRA.out.mono HB.out.size))
          have OA := Lib.hid (HO.out.1.below DRA.out)
          have HA := Lib.hid (grow_wd wtQ (Y5.alloc (.cells #[.int .i64 y', .int .i64 z', .slice p2' m2 k2'] 44)) 36 w10.heap.size u15 qs OA.out DA.out.size Y5.heap.size ((y', z'), (p2', m2, k2')) #[.int .i64 y', .int .i64 z', .slice p2' m2 k2'] rfl (heap_alloc_new Y5 _) HLq.out)
          clear hbA
          refine ty (v := ?_) 0 (fun w hSw => ?_) ?_
          rotate_left
          · (try dsimp only at hSw); go_simp; (try with_reducible rfl)
          try simp only [List.getElem_toArray, List.getElem_cons_succ, List.getElem_cons_zero, Act.put, List.setIfInBounds_toArray, List.set_cons_zero, List.set_cons_succ]
          refine ty (v := ?_) 1 (fun w hSw => ?_) ?_
          rotate_left
          · (try dsimp only at hSw); go_simp; (try with_reducible rfl)
          try simp only [List.getElem_toArray, List.getElem_cons_succ, List.getElem_cons_zero, Act.put, List.setIfInBounds_toArray, List.set_cons_zero, List.set_cons_succ]
          refine ty (v := ?_) 2 (fun w hSw => ?_) ?_
          rotate_left
          · (try dsimp only at hSw); go_simp; (try with_reducible rfl)
          try simp only [List.getElem_toArray, List.getElem_cons_succ, List.getElem_cons_zero, Act.put, List.setIfInBounds_toArray, List.set_cons_zero, List.set_cons_succ]
          refine ty (v := ?_) 3 (fun w hSw => ?_) ?_
          rotate_left
          · (try dsimp only at hSw); go_simp; (try with_reducible rfl)
          try simp only [List.getElem_toArray, List.getElem_cons_succ, List.getElem_cons_zero, Act.put, List.setIfInBounds_toArray, List.set_cons_zero, List.set_cons_succ]
          refine ty (v := ?_) 4 (fun w hSw => ?_) ?_
          rotate_left
          · (try dsimp only at hSw); go_simp; (try with_reducible rfl)
          try simp only [List.getElem_toArray, List.getElem_cons_succ, List.getElem_cons_zero, Act.put, List.setIfInBounds_toArray, List.set_cons_zero, List.set_cons_succ]
          refine ty (v := ?_) 5 (fun w hSw => ?_) ?_
          rotate_left
          · (try dsimp only at hSw); go_simp; (try with_reducible rfl)
          try simp only [List.getElem_toArray, List.getElem_cons_succ, List.getElem_cons_zero, Act.put, List.setIfInBounds_toArray, List.set_cons_zero, List.set_cons_succ]
          refine ty (v := ?_) 6 (fun w hSw => ?_) ?_
          rotate_left
          · (try dsimp only at hSw); go_simp; (try with_reducible rfl)
          try simp only [List.getElem_toArray, List.getElem_cons_succ, List.getElem_cons_zero, Act.put, List.setIfInBounds_toArray, List.set_cons_zero, List.set_cons_succ]
          refine ty (v := ?_) 7 (fun w hSw => ?_) ?_
          rotate_left
          · (try dsimp only at hSw); go_simp; (try with_reducible rfl)
          try simp only [List.getElem_toArray, List.getElem_cons_succ, List.getElem_cons_zero, Act.put, List.setIfInBounds_toArray, List.set_cons_zero, List.set_cons_succ]
          refine ty (v := ?_) 8 (fun w hSw => ?_) ?_
          rotate_left
          · (try dsimp only at hSw); go_simp; (try with_reducible rfl)
          try simp only [List.getElem_toArray, List.getElem_cons_succ, List.getElem_cons_zero, Act.put, List.setIfInBounds_toArray, List.set_cons_zero, List.set_cons_succ]
          refine ty (v := ?_) 9 (fun w hSw => ?_) ?_
          rotate_left
          · (try dsimp only at hSw); go_simp; (try with_reducible rfl)
          try simp only [List.getElem_toArray, List.getElem_cons_succ, List.getElem_cons_zero, Act.put, List.setIfInBounds_toArray, List.set_cons_zero, List.set_cons_succ]
          refine ty (v := ?_) 10 (fun w hSw => ?_) ?_
          rotate_left
          · (try dsimp only at hSw); go_simp; (try with_reducible rfl)
          try simp only [List.getElem_toArray, List.getElem_cons_succ, List.getElem_cons_zero, Act.put, List.setIfInBounds_toArray, List.set_cons_zero, List.set_cons_succ]
          refine tr 11 (fun K hK => ?_)
          go_simp
          refine hK.out _ _ ?_ (fun hHeld => ?_)
          · exact H16.out _ (HW.out.trans (DRA.out.mono HW.out.size))
          clear hK K
          try simp only [List.getElem_toArray, List.getElem_cons_succ, List.getElem_cons_zero, Act.put, List.setIfInBounds_toArray, List.set_cons_zero, List.set_cons_succ]
          refine tr 12 (fun K hK => ?_)
          refine step_app rfl _ _ 36 rfl _ _ rfl rfl HA.out ?_
          intro v9 Y9 HV9
          have D9 := Lib.hid (Below.grown DA.out HV9.out.2.1 DA.out.size (fun k hk => (World.ownsRow.lt OA.out k hk).1))
          refine hK.out _ _ ?_ (fun hHeld => ?_)
          · exact H16.out _ (HB10.out.trans (D9.out.mono HB10.out.size))
          clear hK K
          try simp only [List.getElem_toArray, List.getElem_cons_succ, List.getElem_cons_zero, Act.put, List.setIfInBounds_toArray, List.set_cons_zero, List.set_cons_succ]
          refine ty (v := ?_) 13 (fun w hSw => ?_) ?_
          rotate_left
          · (try dsimp only at hSw); go_simp; (try with_reducible rfl)
          try simp only [List.getElem_toArray, List.getElem_cons_succ, List.getElem_cons_zero, Act.put, List.setIfInBounds_toArray, List.set_cons_zero, List.set_cons_succ]
          refine wpAnyH_done (by kernel_rfl) ?_ _
          go_wp2
          go_roundw
          case rel => exact ⟨k + 1, _, by omega, by go_num, D9, Lib.hid ⟨HV9.out.1, by rw [HIT.out, if_pos HYes.out]; exact match_snoc HO.out.2 rfl HBat.out⟩⟩
          case measure => simp [intOf]; omega
        · obtain ⟨i1, hi1, ex1, -, rfl, hm1⟩ := h1
          have i10 : (0 : Int) ≤ i1 := by omega
          have HNo := Lib.hid hno2
          have he : edgeG rs (y, z) (y', z') = false := by unfold edgeG; rw [decide_eq_false hno2, Bool.and_false]; rfl
          rw [he] at CE2
          clear he hno2 hm1 hi1 ex1 hf1 hf2
          go_wp2_with fail
          refine wp_region_held_drew (S := (fun w' => w'.cell? ⟨B, off, none⟩ = some (.int .i64 y) ∧ w'.cell? ⟨B, off + 1, none⟩ = some (.int .i64 z) ∧ w'.cell? ⟨B, off + k * 2, none⟩ = some (.int .i64 y') ∧ w'.cell? ⟨B, off + k * 2 + 1, none⟩ = some (.int .i64 z'))) (by kernel_rfl) (HSr.out _ DR.out) (fun hHeld => ?_)
          generalize z2.drew = Y0 at DR hHeld ⊢
          refine ty (v := ?_) 0 (fun w hSw => ?_) ?_
          rotate_left
          · (try dsimp only at hSw); go_simp; (try with_reducible rfl)
          try simp only [List.getElem_toArray, List.getElem_cons_succ, List.getElem_cons_zero, Act.put, List.setIfInBounds_toArray, List.set_cons_zero, List.set_cons_succ]
          refine ty (v := ?_) 1 (fun w hSw => ?_) ?_
          rotate_left
          · (try dsimp only at hSw); go_simp; (try with_reducible rfl)
          try simp only [List.getElem_toArray, List.getElem_cons_succ, List.getElem_cons_zero, Act.put, List.setIfInBounds_toArray, List.set_cons_zero, List.set_cons_succ]
          refine ty (v := ?_) 2 (fun w hSw => ?_) ?_
          rotate_left
          · (try dsimp only at hSw); go_simp; (try with_reducible rfl)
          try simp only [List.getElem_toArray, List.getElem_cons_succ, List.getElem_cons_zero, Act.put, List.setIfInBounds_toArray, List.set_cons_zero, List.set_cons_succ]
          refine ty (v := ?_) 3 (fun w hSw => ?_) ?_
          rotate_left
          · (try dsimp only at hSw); go_simp; (try with_reducible rfl)
          try simp only [List.getElem_toArray, List.getElem_cons_succ, List.getElem_cons_zero, Act.put, List.setIfInBounds_toArray, List.set_cons_zero, List.set_cons_succ]
          refine ty (v := ?_) 4 (fun w hSw => ?_) ?_
          rotate_left
          · (try dsimp only at hSw); go_simp; (try with_reducible rfl)
          try simp only [List.getElem_toArray, List.getElem_cons_succ, List.getElem_cons_zero, Act.put, List.setIfInBounds_toArray, List.set_cons_zero, List.set_cons_succ]
          refine ty (v := ?_) 5 (fun w hSw => ?_) ?_
          rotate_left
          · (try dsimp only at hSw); go_simp; (try with_reducible rfl)
          try simp only [List.getElem_toArray, List.getElem_cons_succ, List.getElem_cons_zero, Act.put, List.setIfInBounds_toArray, List.set_cons_zero, List.set_cons_succ]
          refine ty (v := ?_) 6 (fun w hSw => ?_) ?_
          rotate_left
          · (try dsimp only at hSw); go_simp; (try with_reducible rfl)
          try simp only [List.getElem_toArray, List.getElem_cons_succ, List.getElem_cons_zero, Act.put, List.setIfInBounds_toArray, List.set_cons_zero, List.set_cons_succ]
          refine ty (v := ?_) 7 (fun w hSw => ?_) ?_
          rotate_left
          · (try dsimp only at hSw); go_simp; (try with_reducible rfl)
          try simp only [List.getElem_toArray, List.getElem_cons_succ, List.getElem_cons_zero, Act.put, List.setIfInBounds_toArray, List.set_cons_zero, List.set_cons_succ]
          refine ty (v := ?_) 9 (fun w hSw => ?_) ?_
          rotate_left
          · (try dsimp only at hSw); go_simp; (try with_reducible rfl)
          try simp only [List.getElem_toArray, List.getElem_cons_succ, List.getElem_cons_zero, Act.put, List.setIfInBounds_toArray, List.set_cons_zero, List.set_cons_succ]
          refine ty (v := ?_) 10 (fun w hSw => ?_) ?_
          rotate_left
          · (try dsimp only at hSw); go_simp; (try with_reducible rfl)
          try simp only [List.getElem_toArray, List.getElem_cons_succ, List.getElem_cons_zero, Act.put, List.setIfInBounds_toArray, List.set_cons_zero, List.set_cons_succ]
          refine tr 8 (fun K hK => ?_)
          go_simp
          (go_at_call 12; ((with_reducible refine (CE2.out _ DR.out).mono ?_); rintro E Y1 ⟨rfl, hb⟩; have DY := Lib.hid (DR.out.trans (hb.mono DR.out.size)); clear hb))
          refine hK.out _ _ ?_ (fun hHeld => ?_)
          · exact HSr.out _ DY.out
          clear hK K
          try simp only [List.getElem_toArray, List.getElem_cons_succ, List.getElem_cons_zero, Act.put, List.setIfInBounds_toArray, List.set_cons_zero, List.set_cons_succ]
          refine ty (v := ?_) 11 (fun w hSw => ?_) ?_
          rotate_left
          · (try dsimp only at hSw); go_simp; (try with_reducible rfl)
          try simp only [List.getElem_toArray, List.getElem_cons_succ, List.getElem_cons_zero, Act.put, List.setIfInBounds_toArray, List.set_cons_zero, List.set_cons_succ]
          refine ty (v := ?_) 12 (fun w hSw => ?_) ?_
          rotate_left
          · (try dsimp only at hSw); go_simp; (try with_reducible rfl)
          try simp only [List.getElem_toArray, List.getElem_cons_succ, List.getElem_cons_zero, Act.put, List.setIfInBounds_toArray, List.set_cons_zero, List.set_cons_succ]
          refine ty (v := ?_) 13 (fun w hSw => ?_) ?_
          rotate_left
          · (try dsimp only at hSw); go_simp; (try with_reducible rfl)
          try simp only [List.getElem_toArray, List.getElem_cons_succ, List.getElem_cons_zero, Act.put, List.setIfInBounds_toArray, List.set_cons_zero, List.set_cons_succ]
          refine ty (v := ?_) 14 (fun w hSw => ?_) ?_
          rotate_left
          · (try dsimp only at hSw); go_simp; (try with_reducible rfl)
          try simp only [List.getElem_toArray, List.getElem_cons_succ, List.getElem_cons_zero, Act.put, List.setIfInBounds_toArray, List.set_cons_zero, List.set_cons_succ]
          refine ty (v := ?_) 15 (fun w hSw => ?_) ?_
          rotate_left
          · (try dsimp only at hSw); go_simp; (try with_reducible rfl)
          try simp only [List.getElem_toArray, List.getElem_cons_succ, List.getElem_cons_zero, Act.put, List.setIfInBounds_toArray, List.set_cons_zero, List.set_cons_succ]
          refine ts 16 ?_
          try simp only [List.getElem_toArray, List.getElem_cons_succ, List.getElem_cons_zero, Act.put, List.setIfInBounds_toArray, List.set_cons_zero, List.set_cons_succ]
          refine ts 17 ?_
          try simp only [List.getElem_toArray, List.getElem_cons_succ, List.getElem_cons_zero, Act.put, List.setIfInBounds_toArray, List.set_cons_zero, List.set_cons_succ]
          refine ts 18 ?_
          try simp only [List.getElem_toArray, List.getElem_cons_succ, List.getElem_cons_zero, Act.put, List.setIfInBounds_toArray, List.set_cons_zero, List.set_cons_succ]
          refine ts 19 ?_
          try simp only [List.getElem_toArray, List.getElem_cons_succ, List.getElem_cons_zero, Act.put, List.setIfInBounds_toArray, List.set_cons_zero, List.set_cons_succ]
          refine ts 20 ?_
          try simp only [List.getElem_toArray, List.getElem_cons_succ, List.getElem_cons_zero, Act.put, List.setIfInBounds_toArray, List.set_cons_zero, List.set_cons_succ]
          refine ts 21 ?_
          try simp only [List.getElem_toArray, List.getElem_cons_succ, List.getElem_cons_zero, Act.put, List.setIfInBounds_toArray, List.set_cons_zero, List.set_cons_succ]
          refine ts 22 ?_
          try simp only [List.getElem_toArray, List.getElem_cons_succ, List.getElem_cons_zero, Act.put, List.setIfInBounds_toArray, List.set_cons_zero, List.set_cons_succ]
          refine ts 23 ?_
          try simp only [List.getElem_toArray, List.getElem_cons_succ, List.getElem_cons_zero, Act.put, List.setIfInBounds_toArray, List.set_cons_zero, List.set_cons_succ]
          refine ts 24 ?_
          try simp only [List.getElem_toArray, List.getElem_cons_succ, List.getElem_cons_zero, Act.put, List.setIfInBounds_toArray, List.set_cons_zero, List.set_cons_succ]
          refine ty (v := ?_) 25 (fun w hSw => ?_) ?_
          rotate_left
          · (try dsimp only at hSw); go_simp; (try with_reducible rfl)
          try simp only [List.getElem_toArray, List.getElem_cons_succ, List.getElem_cons_zero, Act.put, List.setIfInBounds_toArray, List.set_cons_zero, List.set_cons_succ]
          refine ty (v := ?_) 26 (fun w hSw => ?_) ?_
          rotate_left
          · (try dsimp only at hSw); go_simp; (try with_reducible rfl)
          try simp only [List.getElem_toArray, List.getElem_cons_succ, List.getElem_cons_zero, Act.put, List.setIfInBounds_toArray, List.set_cons_zero, List.set_cons_succ]
          refine wpAnyH_done (by kernel_rfl) ?_ _
          go_wp2
          go_roundw
          case rel => exact ⟨k + 1, qs, by omega, by go_num, Lib.hid (HB.out.trans (DY.out.mono HB.out.size)), Lib.hid ⟨HO.out.1.below DY.out, by rw [HIT.out, if_neg HNo.out, List.append_nil]; exact HO.out.2⟩⟩
          case measure => simp [intOf]; omega
      · have he : edgeG rs (y, z) (y', z') = false := by unfold edgeG; rw [decide_eq_false hno1]; rfl
        rw [he] at CE2
        clear he hno1 hf1
        rcases F2.out with h2 | ⟨rfl, hno2⟩
        · obtain ⟨i2, hi2, ex2, -, rfl, hm2⟩ := h2
          have i20 : (0 : Int) ≤ i2 := by omega
          have i2n : (i2 : Int) < nv := by have := HNV.out; omega
          obtain ⟨Bv, ov, rfl, HCv⟩ := DV.out.resolve_left (by have := HNV.out; omega)
          obtain ⟨⟨⟨a2, b2⟩, g2, ds2, cs2⟩, hr2⟩ : ∃ r, layG.at rs i2 = r := ⟨_, rfl⟩
          obtain ⟨p2, k2, p2', k2', A2, -, -⟩ := rcdAt HCv.out hi2 hr2
          obtain ⟨m2, hmm2⟩ : ∃ l, l = cs2.length := ⟨_, rfl⟩
          obtain ⟨l2, hll2⟩ : ∃ l, l = ds2.length := ⟨_, rfl⟩
          rw [← hmm2, ← hll2] at A2
          have HYes := Lib.hid hm2
          have HBat : Hid (layC.Row w (sl (p2', m2, k2')) (rcG rs (y', z')).2.2.2) := Lib.hid (by
            have e : rcG rs (y', z') = ((a2, b2), g2, ds2, cs2) := by unfold rcG; rw [hf2]; exact hr2
            rw [e]; exact A2.rc)
          have H16 : Hid (∀ w', Below w.heap.size w w' → w'.cell? ⟨B, off + k * 2, none⟩ = some (.int .i64 y') ∧ w'.cell? ⟨B, off + k * 2 + 1, none⟩ = some (.int .i64 z') ∧ w'.cell? ⟨Bv, ov + i2 * 5 + 4, none⟩ = some (.slice p2' m2 k2')) := Lib.hid fun w' hb => ⟨(HS.out w' hb).2.2.1, (HS.out w' hb).2.2.2, (A2.on hb).c4⟩
          clear A2 hm2 hr2 hi2 ex2 hmm2 hll2 hf2 HCv
          go_wp2_with fail
          refine wp_region_held_drew (S := (fun w' => w'.cell? ⟨B, off, none⟩ = some (.int .i64 y) ∧ w'.cell? ⟨B, off + 1, none⟩ = some (.int .i64 z) ∧ w'.cell? ⟨B, off + k * 2, none⟩ = some (.int .i64 y') ∧ w'.cell? ⟨B, off + k * 2 + 1, none⟩ = some (.int .i64 z'))) (by kernel_rfl) (HSr.out _ DR.out) (fun hHeld => ?_)
          generalize z2.drew = Y0 at DR hHeld ⊢
          refine ty (v := ?_) 0 (fun w hSw => ?_) ?_
          rotate_left
          · (try dsimp only at hSw); go_simp; (try with_reducible rfl)
          try simp only [List.getElem_toArray, List.getElem_cons_succ, List.getElem_cons_zero, Act.put, List.setIfInBounds_toArray, List.set_cons_zero, List.set_cons_succ]
          refine ty (v := ?_) 1 (fun w hSw => ?_) ?_
          rotate_left
          · (try dsimp only at hSw); go_simp; (try with_reducible rfl)
          try simp only [List.getElem_toArray, List.getElem_cons_succ, List.getElem_cons_zero, Act.put, List.setIfInBounds_toArray, List.set_cons_zero, List.set_cons_succ]
          refine ty (v := ?_) 2 (fun w hSw => ?_) ?_
          rotate_left
          · (try dsimp only at hSw); go_simp; (try with_reducible rfl)
          try simp only [List.getElem_toArray, List.getElem_cons_succ, List.getElem_cons_zero, Act.put, List.setIfInBounds_toArray, List.set_cons_zero, List.set_cons_succ]
          refine ty (v := ?_) 3 (fun w hSw => ?_) ?_
          rotate_left
          · (try dsimp only at hSw); go_simp; (try with_reducible rfl)
          try simp only [List.getElem_toArray, List.getElem_cons_succ, List.getElem_cons_zero, Act.put, List.setIfInBounds_toArray, List.set_cons_zero, List.set_cons_succ]
          refine ty (v := ?_) 4 (fun w hSw => ?_) ?_
          rotate_left
          · (try dsimp only at hSw); go_simp; (try with_reducible rfl)
          try simp only [List.getElem_toArray, List.getElem_cons_succ, List.getElem_cons_zero, Act.put, List.setIfInBounds_toArray, List.set_cons_zero, List.set_cons_succ]
          refine ty (v := ?_) 5 (fun w hSw => ?_) ?_
          rotate_left
          · (try dsimp only at hSw); go_simp; (try with_reducible rfl)
          try simp only [List.getElem_toArray, List.getElem_cons_succ, List.getElem_cons_zero, Act.put, List.setIfInBounds_toArray, List.set_cons_zero, List.set_cons_succ]
          refine ty (v := ?_) 6 (fun w hSw => ?_) ?_
          rotate_left
          · (try dsimp only at hSw); go_simp; (try with_reducible rfl)
          try simp only [List.getElem_toArray, List.getElem_cons_succ, List.getElem_cons_zero, Act.put, List.setIfInBounds_toArray, List.set_cons_zero, List.set_cons_succ]
          refine ty (v := ?_) 7 (fun w hSw => ?_) ?_
          rotate_left
          · (try dsimp only at hSw); go_simp; (try with_reducible rfl)
          try simp only [List.getElem_toArray, List.getElem_cons_succ, List.getElem_cons_zero, Act.put, List.setIfInBounds_toArray, List.set_cons_zero, List.set_cons_succ]
          refine ty (v := ?_) 9 (fun w hSw => ?_) ?_
          rotate_left
          · (try dsimp only at hSw); go_simp; (try with_reducible rfl)
          try simp only [List.getElem_toArray, List.getElem_cons_succ, List.getElem_cons_zero, Act.put, List.setIfInBounds_toArray, List.set_cons_zero, List.set_cons_succ]
          refine ty (v := ?_) 10 (fun w hSw => ?_) ?_
          rotate_left
          · (try dsimp only at hSw); go_simp; (try with_reducible rfl)
          try simp only [List.getElem_toArray, List.getElem_cons_succ, List.getElem_cons_zero, Act.put, List.setIfInBounds_toArray, List.set_cons_zero, List.set_cons_succ]
          refine tr 8 (fun K hK => ?_)
          go_simp
          (go_at_call 12; ((with_reducible refine (CE2.out _ DR.out).mono ?_); rintro E Y1 ⟨rfl, hb⟩; have DY := Lib.hid (DR.out.trans (hb.mono DR.out.size)); clear hb))
          refine hK.out _ _ ?_ (fun hHeld => ?_)
          · exact HSr.out _ DY.out
          clear hK K
          try simp only [List.getElem_toArray, List.getElem_cons_succ, List.getElem_cons_zero, Act.put, List.setIfInBounds_toArray, List.set_cons_zero, List.set_cons_succ]
          refine ty (v := ?_) 11 (fun w hSw => ?_) ?_
          rotate_left
          · (try dsimp only at hSw); go_simp; (try with_reducible rfl)
          try simp only [List.getElem_toArray, List.getElem_cons_succ, List.getElem_cons_zero, Act.put, List.setIfInBounds_toArray, List.set_cons_zero, List.set_cons_succ]
          refine ts 12 ?_
          try simp only [List.getElem_toArray, List.getElem_cons_succ, List.getElem_cons_zero, Act.put, List.setIfInBounds_toArray, List.set_cons_zero, List.set_cons_succ]
          refine ts 13 ?_
          try simp only [List.getElem_toArray, List.getElem_cons_succ, List.getElem_cons_zero, Act.put, List.setIfInBounds_toArray, List.set_cons_zero, List.set_cons_succ]
          refine ty (v := ?_) 14 (fun w hSw => ?_) ?_
          rotate_left
          · (try dsimp only at hSw); go_simp; (try with_reducible rfl)
          try simp only [List.getElem_toArray, List.getElem_cons_succ, List.getElem_cons_zero, Act.put, List.setIfInBounds_toArray, List.set_cons_zero, List.set_cons_succ]
          refine ty (v := ?_) 15 (fun w hSw => ?_) ?_
          rotate_left
          · (try dsimp only at hSw); go_simp; (try with_reducible rfl)
          try simp only [List.getElem_toArray, List.getElem_cons_succ, List.getElem_cons_zero, Act.put, List.setIfInBounds_toArray, List.set_cons_zero, List.set_cons_succ]
          refine ts 16 ?_
          try simp only [List.getElem_toArray, List.getElem_cons_succ, List.getElem_cons_zero, Act.put, List.setIfInBounds_toArray, List.set_cons_zero, List.set_cons_succ]
          refine ts 17 ?_
          try simp only [List.getElem_toArray, List.getElem_cons_succ, List.getElem_cons_zero, Act.put, List.setIfInBounds_toArray, List.set_cons_zero, List.set_cons_succ]
          refine ts 18 ?_
          try simp only [List.getElem_toArray, List.getElem_cons_succ, List.getElem_cons_zero, Act.put, List.setIfInBounds_toArray, List.set_cons_zero, List.set_cons_succ]
          refine ts 19 ?_
          try simp only [List.getElem_toArray, List.getElem_cons_succ, List.getElem_cons_zero, Act.put, List.setIfInBounds_toArray, List.set_cons_zero, List.set_cons_succ]
          refine ts 20 ?_
          try simp only [List.getElem_toArray, List.getElem_cons_succ, List.getElem_cons_zero, Act.put, List.setIfInBounds_toArray, List.set_cons_zero, List.set_cons_succ]
          refine ts 21 ?_
          try simp only [List.getElem_toArray, List.getElem_cons_succ, List.getElem_cons_zero, Act.put, List.setIfInBounds_toArray, List.set_cons_zero, List.set_cons_succ]
          refine ts 22 ?_
          try simp only [List.getElem_toArray, List.getElem_cons_succ, List.getElem_cons_zero, Act.put, List.setIfInBounds_toArray, List.set_cons_zero, List.set_cons_succ]
          refine ts 23 ?_
          try simp only [List.getElem_toArray, List.getElem_cons_succ, List.getElem_cons_zero, Act.put, List.setIfInBounds_toArray, List.set_cons_zero, List.set_cons_succ]
          refine ts 24 ?_
          try simp only [List.getElem_toArray, List.getElem_cons_succ, List.getElem_cons_zero, Act.put, List.setIfInBounds_toArray, List.set_cons_zero, List.set_cons_succ]
          refine ty (v := ?_) 25 (fun w hSw => ?_) ?_
          rotate_left
          · (try dsimp only at hSw); go_simp; (try with_reducible rfl)
          try simp only [List.getElem_toArray, List.getElem_cons_succ, List.getElem_cons_zero, Act.put, List.setIfInBounds_toArray, List.set_cons_zero, List.set_cons_succ]
          refine ty (v := ?_) 26 (fun w hSw => ?_) ?_
          rotate_left
          · (try dsimp only at hSw); go_simp; (try with_reducible rfl)
          try simp only [List.getElem_toArray, List.getElem_cons_succ, List.getElem_cons_zero, Act.put, List.setIfInBounds_toArray, List.set_cons_zero, List.set_cons_succ]
          refine wpAnyH_done (by kernel_rfl) ?_ _
          have DR5 := Lib.hid DY.out.drew
          go_wp2_with fail
          refine wp_region_held_drew (S := (fun w' => w'.cell? ⟨B, off + k * 2, none⟩ = some (.int .i64 y') ∧ w'.cell? ⟨B, off + k * 2 + 1, none⟩ = some (.int .i64 z') ∧ w'.cell? ⟨Bv, ov + i2 * 5 + 4, none⟩ = some (.slice p2' m2 k2'))) (by kernel_rfl) (H16.out _ (HW.out.trans (DR5.out.mono HW.out.size))) (fun hHeld => ?_)
          generalize Y1.drew = Y5 at DR5 hHeld ⊢
          have hbA := Cmd.below_one Y5 (.cells #[.int .i64 y', .int .i64 z', .slice p2' m2 k2'] 44)
          have DRA := Lib.hid (DR5.out.trans (hbA.mono DR5.out.size))
          have DA := Lib.hid (HB.out.trans (DRA.out.mono HB.out.size))
          have OA := Lib.hid (HO.out.1.below DRA.out)
          have HA := Lib.hid (grow_wd wtQ (Y5.alloc (.cells #[.int .i64 y', .int .i64 z', .slice p2' m2 k2'] 44)) 36 w10.heap.size u15 qs OA.out DA.out.size Y5.heap.size ((y', z'), (p2', m2, k2')) #[.int .i64 y', .int .i64 z', .slice p2' m2 k2'] rfl (heap_alloc_new Y5 _) HLq.out)
          clear hbA
          refine ty (v := ?_) 0 (fun w hSw => ?_) ?_
          rotate_left
          · (try dsimp only at hSw); go_simp; (try with_reducible rfl)
          try simp only [List.getElem_toArray, List.getElem_cons_succ, List.getElem_cons_zero, Act.put, List.setIfInBounds_toArray, List.set_cons_zero, List.set_cons_succ]
          refine ty (v := ?_) 1 (fun w hSw => ?_) ?_
          rotate_left
          · (try dsimp only at hSw); go_simp; (try with_reducible rfl)
          try simp only [List.getElem_toArray, List.getElem_cons_succ, List.getElem_cons_zero, Act.put, List.setIfInBounds_toArray, List.set_cons_zero, List.set_cons_succ]
          refine ty (v := ?_) 2 (fun w hSw => ?_) ?_
          rotate_left
          · (try dsimp only at hSw); go_simp; (try with_reducible rfl)
          try simp only [List.getElem_toArray, List.getElem_cons_succ, List.getElem_cons_zero, Act.put, List.setIfInBounds_toArray, List.set_cons_zero, List.set_cons_succ]
          refine ty (v := ?_) 3 (fun w hSw => ?_) ?_
          rotate_left
          · (try dsimp only at hSw); go_simp; (try with_reducible rfl)
          try simp only [List.getElem_toArray, List.getElem_cons_succ, List.getElem_cons_zero, Act.put, List.setIfInBounds_toArray, List.set_cons_zero, List.set_cons_succ]
          refine ty (v := ?_) 4 (fun w hSw => ?_) ?_
          rotate_left
          · (try dsimp only at hSw); go_simp; (try with_reducible rfl)
          try simp only [List.getElem_toArray, List.getElem_cons_succ, List.getElem_cons_zero, Act.put, List.setIfInBounds_toArray, List.set_cons_zero, List.set_cons_succ]
          refine ty (v := ?_) 5 (fun w hSw => ?_) ?_
          rotate_left
          · (try dsimp only at hSw); go_simp; (try with_reducible rfl)
          try simp only [List.getElem_toArray, List.getElem_cons_succ, List.getElem_cons_zero, Act.put, List.setIfInBounds_toArray, List.set_cons_zero, List.set_cons_succ]
          refine ty (v := ?_) 6 (fun w hSw => ?_) ?_
          rotate_left
          · (try dsimp only at hSw); go_simp; (try with_reducible rfl)
          try simp only [List.getElem_toArray, List.getElem_cons_succ, List.getElem_cons_zero, Act.put, List.setIfInBounds_toArray, List.set_cons_zero, List.set_cons_succ]
          refine ty (v := ?_) 7 (fun w hSw => ?_) ?_
          rotate_left
          · (try dsimp only at hSw); go_simp; (try with_reducible rfl)
          try simp only [List.getElem_toArray, List.getElem_cons_succ, List.getElem_cons_zero, Act.put, List.setIfInBounds_toArray, List.set_cons_zero, List.set_cons_succ]
          refine ty (v := ?_) 8 (fun w hSw => ?_) ?_
          rotate_left
          · (try dsimp only at hSw); go_simp; (try with_reducible rfl)
          try simp only [List.getElem_toArray, List.getElem_cons_succ, List.getElem_cons_zero, Act.put, List.setIfInBounds_toArray, List.set_cons_zero, List.set_cons_succ]
          refine ty (v := ?_) 9 (fun w hSw => ?_) ?_
          rotate_left
          · (try dsimp only at hSw); go_simp; (try with_reducible rfl)
          try simp only [List.getElem_toArray, List.getElem_cons_succ, List.getElem_cons_zero, Act.put, List.setIfInBounds_toArray, List.set_cons_zero, List.set_cons_succ]
          refine ty (v := ?_) 10 (fun w hSw => ?_) ?_
          rotate_left
          · (try dsimp only at hSw); go_simp; (try with_reducible rfl)
          try simp only [List.getElem_toArray, List.getElem_cons_succ, List.getElem_cons_zero, Act.put, List.setIfInBounds_toArray, List.set_cons_zero, List.set_cons_succ]
          refine tr 11 (fun K hK => ?_)
          go_simp
          refine hK.out _ _ ?_ (fun hHeld => ?_)
          · exact H16.out _ (HW.out.trans (DRA.out.mono HW.out.size))
          clear hK K
          try simp only [List.getElem_toArray, List.getElem_cons_succ, List.getElem_cons_zero, Act.put, List.setIfInBounds_toArray, List.set_cons_zero, List.set_cons_succ]
          refine tr 12 (fun K hK => ?_)
          refine step_app rfl _ _ 36 rfl _ _ rfl rfl HA.out ?_
          intro v9 Y9 HV9
          have D9 := Lib.hid (Below.grown DA.out HV9.out.2.1 DA.out.size (fun k hk => (World.ownsRow.lt OA.out k hk).1))
          refine hK.out _ _ ?_ (fun hHeld => ?_)
          · exact H16.out _ (HB10.out.trans (D9.out.mono HB10.out.size))
          clear hK K
          try simp only [List.getElem_toArray, List.getElem_cons_succ, List.getElem_cons_zero, Act.put, List.setIfInBounds_toArray, List.set_cons_zero, List.set_cons_succ]
          refine ty (v := ?_) 13 (fun w hSw => ?_) ?_
          rotate_left
          · (try dsimp only at hSw); go_simp; (try with_reducible rfl)
          try simp only [List.getElem_toArray, List.getElem_cons_succ, List.getElem_cons_zero, Act.put, List.setIfInBounds_toArray, List.set_cons_zero, List.set_cons_succ]
          refine wpAnyH_done (by kernel_rfl) ?_ _
          go_wp2
          go_roundw
          case rel => exact ⟨k + 1, _, by omega, by go_num, D9, Lib.hid ⟨HV9.out.1, by rw [HIT.out, if_pos HYes.out]; exact match_snoc HO.out.2 rfl HBat.out⟩⟩
          case measure => simp [intOf]; omega
        · have HNo := Lib.hid hno2
          clear hno2 hf2
          go_wp2_with fail
          refine wp_region_held_drew (S := (fun w' => w'.cell? ⟨B, off, none⟩ = some (.int .i64 y) ∧ w'.cell? ⟨B, off + 1, none⟩ = some (.int .i64 z) ∧ w'.cell? ⟨B, off + k * 2, none⟩ = some (.int .i64 y') ∧ w'.cell? ⟨B, off + k * 2 + 1, none⟩ = some (.int .i64 z'))) (by kernel_rfl) (HSr.out _ DR.out) (fun hHeld => ?_)
          generalize z2.drew = Y0 at DR hHeld ⊢
          refine ty (v := ?_) 0 (fun w hSw => ?_) ?_
          rotate_left
          · (try dsimp only at hSw); go_simp; (try with_reducible rfl)
          try simp only [List.getElem_toArray, List.getElem_cons_succ, List.getElem_cons_zero, Act.put, List.setIfInBounds_toArray, List.set_cons_zero, List.set_cons_succ]
          refine ty (v := ?_) 1 (fun w hSw => ?_) ?_
          rotate_left
          · (try dsimp only at hSw); go_simp; (try with_reducible rfl)
          try simp only [List.getElem_toArray, List.getElem_cons_succ, List.getElem_cons_zero, Act.put, List.setIfInBounds_toArray, List.set_cons_zero, List.set_cons_succ]
          refine ty (v := ?_) 2 (fun w hSw => ?_) ?_
          rotate_left
          · (try dsimp only at hSw); go_simp; (try with_reducible rfl)
          try simp only [List.getElem_toArray, List.getElem_cons_succ, List.getElem_cons_zero, Act.put, List.setIfInBounds_toArray, List.set_cons_zero, List.set_cons_succ]
          refine ty (v := ?_) 3 (fun w hSw => ?_) ?_
          rotate_left
          · (try dsimp only at hSw); go_simp; (try with_reducible rfl)
          try simp only [List.getElem_toArray, List.getElem_cons_succ, List.getElem_cons_zero, Act.put, List.setIfInBounds_toArray, List.set_cons_zero, List.set_cons_succ]
          refine ty (v := ?_) 4 (fun w hSw => ?_) ?_
          rotate_left
          · (try dsimp only at hSw); go_simp; (try with_reducible rfl)
          try simp only [List.getElem_toArray, List.getElem_cons_succ, List.getElem_cons_zero, Act.put, List.setIfInBounds_toArray, List.set_cons_zero, List.set_cons_succ]
          refine ty (v := ?_) 5 (fun w hSw => ?_) ?_
          rotate_left
          · (try dsimp only at hSw); go_simp; (try with_reducible rfl)
          try simp only [List.getElem_toArray, List.getElem_cons_succ, List.getElem_cons_zero, Act.put, List.setIfInBounds_toArray, List.set_cons_zero, List.set_cons_succ]
          refine ty (v := ?_) 6 (fun w hSw => ?_) ?_
          rotate_left
          · (try dsimp only at hSw); go_simp; (try with_reducible rfl)
          try simp only [List.getElem_toArray, List.getElem_cons_succ, List.getElem_cons_zero, Act.put, List.setIfInBounds_toArray, List.set_cons_zero, List.set_cons_succ]
          refine ty (v := ?_) 7 (fun w hSw => ?_) ?_
          rotate_left
          · (try dsimp only at hSw); go_simp; (try with_reducible rfl)
          try simp only [List.getElem_toArray, List.getElem_cons_succ, List.getElem_cons_zero, Act.put, List.setIfInBounds_toArray, List.set_cons_zero, List.set_cons_succ]
          refine ty (v := ?_) 9 (fun w hSw => ?_) ?_
          rotate_left
          · (try dsimp only at hSw); go_simp; (try with_reducible rfl)
          try simp only [List.getElem_toArray, List.getElem_cons_succ, List.getElem_cons_zero, Act.put, List.setIfInBounds_toArray, List.set_cons_zero, List.set_cons_succ]
          refine ty (v := ?_) 10 (fun w hSw => ?_) ?_
          rotate_left
          · (try dsimp only at hSw); go_simp; (try with_reducible rfl)
          try simp only [List.getElem_toArray, List.getElem_cons_succ, List.getElem_cons_zero, Act.put, List.setIfInBounds_toArray, List.set_cons_zero, List.set_cons_succ]
          refine tr 8 (fun K hK => ?_)
          go_simp
          (go_at_call 12; ((with_reducible refine (CE2.out _ DR.out).mono ?_); rintro E Y1 ⟨rfl, hb⟩; have DY := Lib.hid (DR.out.trans (hb.mono DR.out.size)); clear hb))
          refine hK.out _ _ ?_ (fun hHeld => ?_)
          · exact HSr.out _ DY.out
          clear hK K
          try simp only [List.getElem_toArray, List.getElem_cons_succ, List.getElem_cons_zero, Act.put, List.setIfInBounds_toArray, List.set_cons_zero, List.set_cons_succ]
          refine ty (v := ?_) 11 (fun w hSw => ?_) ?_
          rotate_left
          · (try dsimp only at hSw); go_simp; (try with_reducible rfl)
          try simp only [List.getElem_toArray, List.getElem_cons_succ, List.getElem_cons_zero, Act.put, List.setIfInBounds_toArray, List.set_cons_zero, List.set_cons_succ]
          refine ts 12 ?_
          try simp only [List.getElem_toArray, List.getElem_cons_succ, List.getElem_cons_zero, Act.put, List.setIfInBounds_toArray, List.set_cons_zero, List.set_cons_succ]
          refine ts 13 ?_
          try simp only [List.getElem_toArray, List.getElem_cons_succ, List.getElem_cons_zero, Act.put, List.setIfInBounds_toArray, List.set_cons_zero, List.set_cons_succ]
          refine ty (v := ?_) 14 (fun w hSw => ?_) ?_
          rotate_left
          · (try dsimp only at hSw); go_simp; (try with_reducible rfl)
          try simp only [List.getElem_toArray, List.getElem_cons_succ, List.getElem_cons_zero, Act.put, List.setIfInBounds_toArray, List.set_cons_zero, List.set_cons_succ]
          refine ty (v := ?_) 15 (fun w hSw => ?_) ?_
          rotate_left
          · (try dsimp only at hSw); go_simp; (try with_reducible rfl)
          try simp only [List.getElem_toArray, List.getElem_cons_succ, List.getElem_cons_zero, Act.put, List.setIfInBounds_toArray, List.set_cons_zero, List.set_cons_succ]
          refine ts 16 ?_
          try simp only [List.getElem_toArray, List.getElem_cons_succ, List.getElem_cons_zero, Act.put, List.setIfInBounds_toArray, List.set_cons_zero, List.set_cons_succ]
          refine ts 17 ?_
          try simp only [List.getElem_toArray, List.getElem_cons_succ, List.getElem_cons_zero, Act.put, List.setIfInBounds_toArray, List.set_cons_zero, List.set_cons_succ]
          refine ts 18 ?_
          try simp only [List.getElem_toArray, List.getElem_cons_succ, List.getElem_cons_zero, Act.put, List.setIfInBounds_toArray, List.set_cons_zero, List.set_cons_succ]
          refine ts 19 ?_
          try simp only [List.getElem_toArray, List.getElem_cons_succ, List.getElem_cons_zero, Act.put, List.setIfInBounds_toArray, List.set_cons_zero, List.set_cons_succ]
          refine ts 20 ?_
          try simp only [List.getElem_toArray, List.getElem_cons_succ, List.getElem_cons_zero, Act.put, List.setIfInBounds_toArray, List.set_cons_zero, List.set_cons_succ]
          refine ts 21 ?_
          try simp only [List.getElem_toArray, List.getElem_cons_succ, List.getElem_cons_zero, Act.put, List.setIfInBounds_toArray, List.set_cons_zero, List.set_cons_succ]
          refine ts 22 ?_
          try simp only [List.getElem_toArray, List.getElem_cons_succ, List.getElem_cons_zero, Act.put, List.setIfInBounds_toArray, List.set_cons_zero, List.set_cons_succ]
          refine ts 23 ?_
          try simp only [List.getElem_toArray, List.getElem_cons_succ, List.getElem_cons_zero, Act.put, List.setIfInBounds_toArray, List.set_cons_zero, List.set_cons_succ]
          refine ts 24 ?_
          try simp only [List.getElem_toArray, List.getElem_cons_succ, List.getElem_cons_zero, Act.put, List.setIfInBounds_toArray, List.set_cons_zero, List.set_cons_succ]
          refine ty (v := ?_) 25 (fun w hSw => ?_) ?_
          rotate_left
          · (try dsimp only at hSw); go_simp; (try with_reducible rfl)
          try simp only [List.getElem_toArray, List.getElem_cons_succ, List.getElem_cons_zero, Act.put, List.setIfInBounds_toArray, List.set_cons_zero, List.set_cons_succ]
          refine ty (v := ?_) 26 (fun w hSw => ?_) ?_
          rotate_left
          · (try dsimp only at hSw); go_simp; (try with_reducible rfl)
          try simp only [List.getElem_toArray, List.getElem_cons_succ, List.getElem_cons_zero, Act.put, List.setIfInBounds_toArray, List.set_cons_zero, List.set_cons_succ]
          refine wpAnyH_done (by kernel_rfl) ?_ _
          go_wp2
          go_roundw
          case rel => exact ⟨k + 1, qs, by omega, by go_num, Lib.hid (HB.out.trans (DY.out.mono HB.out.size)), Lib.hid ⟨HO.out.1.below DY.out, by rw [HIT.out, if_neg HNo.out, List.append_nil]; exact HO.out.2⟩⟩
          case measure => simp [intOf]; omega
    · have km : ¬ (k : Int) < mx := by omega
      have hke : k = mx := by omega
      have hm1 := HO.out.2
      rw [hke, HXL.out, List.take_length] at hm1
      have HMt := Lib.hid hm1
      have HIw : Hid (∀ x ∈ itemsG rs xs, wfT x) := Lib.hid fun x hx c hc => by
        obtain ⟨r, hr, e⟩ := items_in hx
        rw [e] at hc; exact (HWF.out r hr).batch c hc
      have HIl : Hid ((cmdsOf (itemsG rs xs)).length ≤ 100000) := Lib.hid (by
        have h1 := cmds_few (itemsG rs xs) fun x hx => by
          obtain ⟨r, hr, e⟩ := items_in hx
          rw [e]; exact HLo.out r hr
        have h2 := items_len rs xs
        have h3 := HXL.out
        have h4 : (itemsG rs xs).length * 20 ≤ 14 * 20 := Nat.mul_le_mul_right 20 (by omega)
        omega)
      have CW := Lib.hid (HPG.out.writers (HGG.out.on G10.out (HB.out.mono (HGG.out.le G10.out))) (.slice px mx cx) xs s (HXR.out.on HW.out) (by have := HXL.out; omega) HXW.out)
      have CLg := Lib.hid (fun W (hb : Below wr.heap.size wr W) => rlog_any u15 (itemsG rs xs) s W (match_row ((Wd.Own.row HO.out.1).on hb) (HMt.out.on (HW.out.trans (hb.mono HW.out.size)))) HIw.out HIl.out)
      clear hm1 DX DV
      go_wp2_with (first
        | (go_at_call 15; ((with_reducible refine CW.out.mono ?_); rintro E z1 ⟨vw, rfl, hr, hb⟩; have R1 := Lib.hid hr; have D1 := Lib.hid hb; clear hb hr))
        | (go_at_call 16; ((with_reducible refine (CLg.out _ D1.out).mono ?_); rintro E z2 ⟨vl, rfl, hr, hb⟩; have D2 := Lib.hid (D1.out.trans (hb.mono D1.out.size)); have CS := Lib.hid (slog_any vw vl _ _ z2 (R1.out.on hb) hr); rw [decide_eq_true rfl] at CS; clear hb hr))
        | (go_at_call 14; ((with_reducible refine CS.out.mono ?_); rintro E z3 ⟨rfl, hb⟩; have D3 := Lib.hid (D2.out.trans (hb.mono D2.out.size)); clear hb))
        | (go_at_call 7; ((with_reducible refine (HP.out _).mono ?_); rintro E z9 ⟨rfl, hb⟩; have D9 := Lib.hid (D3.out.trans (hb.mono D3.out.size)); clear hb)))
      go_ret
      exact ⟨rfl, HW.out.trans (D9.out.mono HW.out.size)⟩
theorem ptells_any {G : Nat → Nat → List Rcd → World → Prop} (HG : Graphs G) (PG : Premise G) (CP : ∀ w, Calls Tryz.prog 7 #[] w (RetBelow (.bool true) w)) (v u : Value) (s : List UInt8) (rs : List Rcd) (w : World) (h : layG.Row w v rs) (xs : List Idn) (hw : ∀ x ∈ rs, wfG x) (hx : RowAt w u xs) (hxw : ∀ x ∈ xs, wfId x) : Calls Tryz.prog 3 #[v, u, .string (str s)] w (RetBelow (.bool true) w) := by
  obtain ⟨px, cx, rfl, -, -⟩ := row_slice hx
  cases hl : fewG rs 14 with
  | false => exact ptell_few CP v _ px _ cx rs w h hl
  | true =>
    by_cases hm : 14 < xs.length
    · exact ptell_long CP v _ px _ cx rs w h hl hm
    · by_cases he : gErr rs = 0
      · obtain ⟨pv, cv, rfl, -, -⟩ := h.parts
        exact ptell_ok HG PG CP pv _ cv px _ cx s rs w h xs hw hx hxw hl hm he
      · exact ptell_bad CP v _ px _ cx rs w h hw hl hm he
end Go.Proofs.YtomidcbpnaajeaaGreat.Pre
