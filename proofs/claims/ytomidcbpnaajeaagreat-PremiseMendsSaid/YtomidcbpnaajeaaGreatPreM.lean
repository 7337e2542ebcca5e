/- Uses: a record with the keys that it has commands of and those that it writes (layer 20, premise): plain facts; whether two lists of keys meet; what useOf gives. Conditions: the lists lie in memory as their cells say; texts of a length that Go reads; batches of at most 1000 commands. -/
import Derived.Test.YtomidcbpnaajeaaGreatPreE
import Derived.Test.YtomidcbpnaajeaaGreatReg
import Derived.Test.YtomidcbpnaajeaaGreatBatH
namespace Go.Proofs.YtomidcbpnaajeaaGreat.Pre
open Go.RowKit Cmd Bat Ids Rec Wid Gra Cps
set_option linter.unusedVariables false
set_option linter.unusedSimpArgs false

/-! ### Plain -/
theorem placesU {ys : List Cmdn} {s : Text} : 0 < (places ys s).length ↔ ∃ c ∈ ys, c.2.1 = s ∧ wrt c = true := by
  unfold places plc
  rw [List.length_map, List.length_pos_iff_exists_mem]
  constructor
  · rintro ⟨k, hk⟩
    rw [List.mem_filter, List.mem_range, Bool.and_eq_true, decide_eq_true_eq] at hk
    exact ⟨_, layC.at_mem hk.1, hk.2.1, hk.2.2⟩
  · rintro ⟨c, hc, h2, h3⟩
    obtain ⟨k, h1, rfl⟩ := (Lay.mem (L := layC)).1 hc
    exact ⟨k, by rw [List.mem_filter, List.mem_range, Bool.and_eq_true, decide_eq_true_eq]; exact ⟨h1, h2, h3⟩⟩
/-- Is the key written? -/
def wkey (cs : List Cmdn) (s : Text) : Bool := decide (0 < (places cs s).length)
/-- The keys that a batch writes, in order. -/
def wrS (cs : List Cmdn) : List Text := (kset (keys cs)).filter (wkey cs)
theorem mem_keysU {cs : List Cmdn} {s : Text} : s ∈ kset (keys cs) ↔ ∃ c ∈ cs, c.2.1 = s := by
  rw [kset_mem]; unfold keys; rw [List.mem_map]
theorem mem_wrS {cs : List Cmdn} {s : Text} : s ∈ wrS cs ↔ ∃ c ∈ cs, c.2.1 = s ∧ wrt c = true := by
  unfold wrS wkey
  rw [List.mem_filter, mem_keysU, decide_eq_true_eq, placesU]
  exact ⟨fun h => h.2, fun ⟨c, h1, h2, h3⟩ => ⟨⟨c, h1, h2⟩, c, h1, h2, h3⟩⟩
theorem wrS_rise (cs : List Cmdn) : Bat.Rise (wrS cs) := List.Pairwise.filter _ (kset_rise _)
/-- Have two lists a key in common? -/
def meets (a b : List Text) : Bool := a.any fun x => decide (x ∈ b)
theorem meets_iff {a b : List Text} : meets a b = true ↔ ∃ x ∈ a, x ∈ b := by unfold meets; rw [List.any_eq_true]; simp only [decide_eq_true_eq]
theorem meets_conf {xs ys : List Cmdn} (hx : ∀ c ∈ xs, right c = true) (hy : ∀ c ∈ ys, right c = true) : (meets (wrS xs) (kset (keys ys)) || meets (kset (keys xs)) (wrS ys)) = bConf xs ys := by
  have key : ∀ c d : Cmdn, conf c d = true ↔ right c = true ∧ right d = true ∧ c.2.1 = d.2.1 ∧ (c.1 ≠ 1 ∨ d.1 ≠ 1) := fun c d => by
    unfold conf cConf right
    rw [Bool.and_eq_true, Bool.and_eq_true, Bool.and_eq_true, Bool.or_eq_true, decide_eq_true_eq, decide_eq_true_eq, decide_eq_true_eq]
    exact ⟨fun ⟨⟨⟨h1, h2⟩, h3⟩, h4⟩ => ⟨h1, h2, h3, h4⟩, fun ⟨h1, h2, h3, h4⟩ => ⟨⟨⟨h1, h2⟩, h3⟩, h4⟩⟩
  have wk : ∀ c : Cmdn, wrt c = true ↔ right c = true ∧ c.1 ≠ 1 := fun c => by unfold wrt cWrites right; rw [Bool.and_eq_true, decide_eq_true_eq]
  have hb : bConf xs ys = true ↔ ∃ c ∈ xs, ∃ d ∈ ys, conf c d = true := by unfold bConf; rw [List.any_eq_true]; simp only [List.any_eq_true]
  rw [Bool.eq_iff_iff, Bool.or_eq_true, meets_iff, meets_iff, hb]
  constructor
  · rintro (⟨s, h1, h2⟩ | ⟨s, h1, h2⟩)
    · obtain ⟨c, c1, c2, c3⟩ := mem_wrS.1 h1
      obtain ⟨d, d1, d2⟩ := mem_keysU.1 h2
      exact ⟨c, c1, d, d1, (key c d).2 ⟨hx c c1, hy d d1, c2.trans d2.symm, .inl ((wk c).1 c3).2⟩⟩
    · obtain ⟨c, c1, c2⟩ := mem_keysU.1 h1
      obtain ⟨d, d1, d2, d3⟩ := mem_wrS.1 h2
      exact ⟨c, c1, d, d1, (key c d).2 ⟨hx c c1, hy d d1, c2.trans d2.symm, .inr ((wk d).1 d3).2⟩⟩
  · rintro ⟨c, c1, d, d1, h⟩
    obtain ⟨h1, h2, h3, h4⟩ := (key c d).1 h
    rcases h4 with h4 | h4
    · exact .inl ⟨_, mem_wrS.2 ⟨c, c1, rfl, (wk c).2 ⟨h1, h4⟩⟩, mem_keysU.2 ⟨d, d1, h3.symm⟩⟩
    · exact .inr ⟨_, mem_keysU.2 ⟨c, c1, rfl⟩, mem_wrS.2 ⟨d, d1, h3.symm, (wk d).2 ⟨h2, h4⟩⟩⟩
theorem meets_nil (b : List Text) : meets [] b = false := rfl
theorem meets_void (a : List Text) : meets a [] = false := by rw [Bool.eq_false_iff]; intro h; obtain ⟨x, -, h⟩ := meets_iff.1 h; cases h
theorem meets_hit (x : Text) (a b : List Text) : meets (x :: a) (x :: b) = true := meets_iff.2 ⟨x, List.mem_cons_self, List.mem_cons_self⟩
theorem meets_left {x y : Text} {a b : List Text} (h : x < y) (hb : Bat.Rise (y :: b)) : meets (x :: a) (y :: b) = meets a (y :: b) := by
  rw [Bool.eq_iff_iff, meets_iff, meets_iff]
  constructor
  · rintro ⟨z, h1, h2⟩
    rcases List.mem_cons.1 h1 with rfl | h1
    · rcases List.mem_cons.1 h2 with rfl | h2
      · exact absurd h (tlt_irr _)
      · exact absurd (tlt_tr h ((List.pairwise_cons.1 hb).1 _ h2)) (tlt_irr _)
    · exact ⟨z, h1, h2⟩
  · rintro ⟨z, h1, h2⟩; exact ⟨z, List.mem_cons_of_mem _ h1, h2⟩
theorem meets_right {x y : Text} {a b : List Text} (h : y < x) (ha : Bat.Rise (x :: a)) : meets (x :: a) (y :: b) = meets (x :: a) b := by
  rw [Bool.eq_iff_iff, meets_iff, meets_iff]
  constructor
  · rintro ⟨z, h1, h2⟩
    rcases List.mem_cons.1 h2 with rfl | h2
    · rcases List.mem_cons.1 h1 with rfl | h1
      · exact absurd h (tlt_irr _)
      · exact absurd (tlt_tr h ((List.pairwise_cons.1 ha).1 _ h1)) (tlt_irr _)
    · exact ⟨z, h1, h2⟩
  · rintro ⟨z, h1, h2⟩; exact ⟨z, h1, List.mem_cons_of_mem _ h2⟩

/-! ### Rows of texts -/
def wdTx : Wd Text where
  L := layS
  enc x := [.string (str x)]
  c := 1
  cpos := by decide
  pos o j := by show o + j = _; omega
  len _ := rfl
  one x u hu := by rw [List.mem_singleton] at hu; subst hu; rfl
  lies h := h 0 _ rfl
  cells h := fun i u hu => by
    cases i with
    | zero => injection hu with hu; subst hu; exact h
    | succ i => simp at hu
theorem wtTx : Wt wdTx 66 9 (.string ⟨#[]⟩) 16 := ⟨Tryz.underlying66, by kernel_rfl, by kernel_rfl, by kernel_rfl, by decide⟩
theorem tx_flat : ∀ zs : List Text, wdTx.flat zs = zs.map encStr
  | [] => rfl
  | x :: zs => by
    show [.string (str x)] ++ wdTx.flat zs = _
    rw [tx_flat zs]; rfl
theorem OwnS.tx {w : World} {base : Nat} {v : Value} {zs : List Text} (h : OwnS w base v zs) : wdTx.Own 9 w base v zs := by
  unfold Wd.Own; rw [tx_flat]; exact h
theorem gtr_textP (s x : Text) (w : World) : (binOp .gtr 9 (.string (str s)) (.string (str x))).run Tryz.prog w = .ok (.bool (lts x s)) w := by
  have hk : (!(lts s x || (s == x))) = lts x s := by
    by_cases h1 : s < x
    · rw [show lts s x = true from decide_eq_true h1, show lts x s = false from decide_eq_false fun h2 => tlt_irr _ (tlt_tr h1 h2)]; rfl
    · rw [show lts s x = false from decide_eq_false h1]
      by_cases h2 : s = x
      · subst h2; rw [show lts s s = false from decide_eq_false (tlt_irr _), beq_self_eq_true]; rfl
      · rw [show lts x s = true from decide_eq_true (tlt_tot h1 h2), beq_eq_false_iff_ne.2 h2]; rfl
  show (Op.stringOp .gtr (str s) (str x)).run Tryz.prog w = _
  unfold Op.stringOp
  simp only [Sem.run_pure]
  rw [less_run, str_beq, hk]
theorem OwnS.of {w : World} {base : Nat} {v : Value} {zs : List Text} (h : wdTx.Own 9 w base v zs) : OwnS w base v zs := by
  unfold Wd.Own at h; rw [tx_flat] at h; exact h
def lnV : Value → Nat
  | .slice _ n _ => n
  | _ => 0

/-! ### meet -/
set_option maxRecDepth 100000 in
set_option maxHeartbeats 4000000 in
theorem meet_any (v u : Value) (xs ys : List Text) (w : World) (h : layS.Row w v xs) (g : layS.Row w u ys) (hx : Bat.Rise xs) (hy : Bat.Rise ys) : Calls Tryz.prog 49 #[v, u] w (RetBelow (.bool (meets xs ys)) w) := by
  obtain ⟨r, hr⟩ : ∃ r, r = meets xs ys := ⟨_, rfl⟩
  rw [← hr]
  obtain ⟨p0, c0, rfl, -⟩ := id h
  obtain ⟨q0, d0, rfl, -⟩ := id g
  have H0 := Lib.hid h
  have G0 := Lib.hid g
  have R0 := Lib.hid hr
  have S0 := Lib.hid (And.intro hx hy)
  clear h g hr hx hy
  go_enter Tryz.func49, Tryz.ntmps49
  go_wp2
  go_loopw [0, 1] (fun a b wr => ∃ (p q : Option Addr) (c d : Nat) (xs' ys' : List Text), a = .slice p xs'.length c ∧ b = .slice q ys'.length d ∧ Hid (Below w.heap.size w wr) ∧ Hid (layS.Row wr (.slice p xs'.length c) xs') ∧ Hid (layS.Row wr (.slice q ys'.length d) ys') ∧ Hid (r = meets xs' ys') ∧ Hid (Bat.Rise xs' ∧ Bat.Rise ys')) (fun a b _ => lnV a + lnV b)
  case atStart => exact ⟨_, _, _, _, xs, ys, rfl, rfl, Lib.hid (Below.refl _ _), H0, G0, R0, S0⟩
  case round =>
    clear H0 G0 R0 S0
    obtain ⟨p, q, c, d, xs', ys', rfl, rfl, hbw, H, G, R, S⟩ := hrel
    cases xs' with
    | nil =>
      have q0 : ¬ (0 : Int) < (([] : List Text).length : Nat) := by decide
      go_wp2
      go_ret
      exact ⟨ret_bool (by rw [R.out]; rfl), hbw.out⟩
    | cons x t =>
      obtain ⟨n, hn⟩ : ∃ n, n = t.length := ⟨_, rfl⟩
      have i1 : (0 : Int) < ((n + 1 : Nat) : Int) := by omega
      have e1 : (x :: t).length = n + 1 := by rw [hn]; rfl
      rw [e1] at H ⊢
      have HN := Lib.hid hn
      clear hn e1
      cases ys' with
      | nil =>
        have q0 : ¬ (0 : Int) < (([] : List Text).length : Nat) := by decide
        go_wp2
        go_ret
        exact ⟨ret_bool (by rw [R.out]; exact (meets_void _).symm), hbw.out⟩
      | cons y s =>
        obtain ⟨m, hm⟩ : ∃ m, m = s.length := ⟨_, rfl⟩
        have i2 : (0 : Int) < ((m + 1 : Nat) : Int) := by omega
        have e2 : (y :: s).length = m + 1 := by rw [hm]; rfl
        rw [e2] at G ⊢
        have HM := Lib.hid hm
        clear hm e2
        obtain ⟨p', c', e', -, hd1⟩ := H.out.parts
        have ep : p = p' := by injection e'
        subst ep
        clear e'
        obtain ⟨q', d', e', -, hd2⟩ := G.out.parts
        have ep : q = q' := by injection e'
        subst ep
        clear e'
        obtain ⟨B1, o1, rfl, I1⟩ := hd1.resolve_left (by simp)
        obtain ⟨B2, o2, rfl, I2⟩ := hd2.resolve_left (by simp)
        have a1 : wr.cell? ⟨B1, o1, none⟩ = some (.string (str x)) := cellS I1.out (k := 0) (by simp) rfl
        have a2 : wr.cell? ⟨B2, o2, none⟩ = some (.string (str y)) := cellS I2.out (k := 0) (by simp) rfl
        have n1 : 0 < n + 1 := by omega
        have n2 : 0 < m + 1 := by omega
        have l1 := less_run x y
        have k1 : ∀ w, (Instr.slice 66 (.slice (some ⟨B1, o1, none⟩) (n + 1) c) (some (.int .i64 1)) none none).run Tryz.prog w = .ok (.slice (cutl (some ⟨B1, o1, none⟩) 1 c 1) n (c - 1)) w := fun w => from_wide wtTx (some ⟨B1, o1, none⟩) (n + 1) c 1 (by omega) w
        have k2 : ∀ w, (Instr.slice 66 (.slice (some ⟨B2, o2, none⟩) (m + 1) d) (some (.int .i64 1)) none none).run Tryz.prog w = .ok (.slice (cutl (some ⟨B2, o2, none⟩) 1 d 1) m (d - 1)) w := fun w => from_wide wtTx (some ⟨B2, o2, none⟩) (m + 1) d 1 (by omega) w
        have DH : Hid (∀ X, Below wr.heap.size wr X → layS.Row X (.slice (cutl (some ⟨B1, o1, none⟩) 1 c 1) n (c - 1)) t) := Lib.hid fun X hb => row_drop (D := wdTx) (zs := x :: t) (n := n + 1) (H.out.on hb) 1 (by simp)
        have DG : Hid (∀ X, Below wr.heap.size wr X → layS.Row X (.slice (cutl (some ⟨B2, o2, none⟩) 1 d 1) m (d - 1)) s) := Lib.hid fun X hb => row_drop (D := wdTx) (zs := y :: s) (n := m + 1) (G.out.on hb) 1 (by simp)
        generalize cutl (some ⟨B1, o1, none⟩) 1 c 1 = p1 at k1 DH
        generalize cutl (some ⟨B2, o2, none⟩) 1 d 1 = p2 at k2 DG
        clear hd1 hd2 I1 I2
        have D0 : Hid (Below wr.heap.size wr (wr.drewN 0)) := Lib.hid (Bat.below_draws _ _)
        by_cases hlt : lts x y = true
        · rw [hlt] at l1
          have HL : Hid (x < y) := Lib.hid (of_decide_eq_true hlt)
          clear hlt
          go_wp2
          go_quiet (fail)
          go_wp2
          go_roundw
          case rel => exact ⟨_, _, _, _, t, y :: s, by rw [← HN.out], by rw [List.length_cons, ← HM.out], Lib.hid (Bat.below_drN hbw.out _), Lib.hid (by rw [← HN.out]; exact DH.out _ (Bat.below_draws _ _)), Lib.hid (by rw [List.length_cons, ← HM.out]; exact G.out.on (Bat.below_draws _ _)), Lib.hid (by rw [R.out]; exact meets_left HL.out S.out.2), Lib.hid ⟨(List.pairwise_cons.1 S.out.1).2, S.out.2⟩⟩
          case measure => simp only [lnV]; omega
        · rw [Bool.eq_false_iff.2 hlt] at l1
          have HL : Hid (¬ x < y) := Lib.hid (fun h => hlt (decide_eq_true h))
          clear hlt
          by_cases hgt : lts y x = true
          · have l2' := hgt
            have HG : Hid (y < x) := Lib.hid (of_decide_eq_true hgt)
            have hq : ∀ w, (binOp .gtr 9 (.string (str x)) (.string (str y))).run Tryz.prog w = .ok (.bool true) w := fun w => by rw [gtr_textP, l2']
            clear hgt l2'
            go_wp2
            go_quiet (fail)
            go_wp2
            go_quiet (fail)
            go_wp2
            go_roundw
            case rel => exact ⟨_, _, _, _, x :: t, s, by rw [List.length_cons, ← HN.out], by rw [← HM.out], Lib.hid (Bat.below_drN hbw.out _), Lib.hid (by rw [List.length_cons, ← HN.out]; exact H.out.on (Bat.below_draws _ _)), Lib.hid (by rw [← HM.out]; exact DG.out _ (Bat.below_draws _ _)), Lib.hid (by rw [R.out]; exact meets_right HG.out S.out.1), Lib.hid ⟨S.out.1, (List.pairwise_cons.1 S.out.2).2⟩⟩
            case measure => simp only [lnV]; omega
          · have l2' := Bool.eq_false_iff.2 hgt
            have HE : Hid (x = y) := Lib.hid (Classical.byContradiction fun hn => hgt (decide_eq_true (tlt_tot HL.out hn)))
            have hq : ∀ w, (binOp .gtr 9 (.string (str x)) (.string (str y))).run Tryz.prog w = .ok (.bool false) w := fun w => by rw [gtr_textP, l2']
            clear hgt l2'
            go_wp2
            go_quiet (fail)
            go_wp2
            go_quiet (fail)
            go_wp2
            go_ret
            exact ⟨ret_bool (by rw [R.out, HE.out]; exact (meets_hit _ _ _).symm), Bat.below_drN (Bat.below_drN hbw.out _) _⟩

/-! ### Rows of uses -/
abbrev SlU := Option Addr × Nat × Nat
abbrev Use := Idn × Int × SlU × SlU × SlU × SlU
def layUse : Lay Use := ⟨((0, 0), 0, (none, 0, 0), (none, 0, 0), (none, 0, 0), (none, 0, 0)), fun o j => o + j * 7, fun w b o x => w.cell? ⟨b, o, none⟩ = some (.int .i64 x.1.1) ∧ w.cell? ⟨b, o + 1, none⟩ = some (.int .i64 x.1.2) ∧ w.cell? ⟨b, o + 2, none⟩ = some (.int .i64 x.2.1) ∧ w.cell? ⟨b, o + 3, none⟩ = some (sliceOf x.2.2.1) ∧ w.cell? ⟨b, o + 4, none⟩ = some (sliceOf x.2.2.2.1) ∧ w.cell? ⟨b, o + 5, none⟩ = some (sliceOf x.2.2.2.2.1) ∧ w.cell? ⟨b, o + 6, none⟩ = some (sliceOf x.2.2.2.2.2),
  fun {w w' b o x} hb h ⟨h0, h1, h2, h3, h4, h5, h6⟩ => ⟨(h.cell (p := ⟨b, o, none⟩) hb).trans h0, (h.cell (p := ⟨b, o + 1, none⟩) hb).trans h1, (h.cell (p := ⟨b, o + 2, none⟩) hb).trans h2, (h.cell (p := ⟨b, o + 3, none⟩) hb).trans h3, (h.cell (p := ⟨b, o + 4, none⟩) hb).trans h4, (h.cell (p := ⟨b, o + 5, none⟩) hb).trans h5, (h.cell (p := ⟨b, o + 6, none⟩) hb).trans h6⟩⟩
theorem seven_at {w : World} {b o : Nat} {x0 x1 x2 x3 x4 x5 x6 : Value} (h0 : w.cell? ⟨b, o, none⟩ = some x0) (h1 : w.cell? ⟨b, o + 1, none⟩ = some x1) (h2 : w.cell? ⟨b, o + 2, none⟩ = some x2) (h3 : w.cell? ⟨b, o + 3, none⟩ = some x3) (h4 : w.cell? ⟨b, o + 4, none⟩ = some x4) (h5 : w.cell? ⟨b, o + 5, none⟩ = some x5) (h6 : w.cell? ⟨b, o + 6, none⟩ = some x6) : ∀ i u, [x0, x1, x2, x3, x4, x5, x6][i]? = some u → w.cell? ⟨b, o + i, none⟩ = some u
  | 0, u, hu => by injection hu with hu; subst hu; exact h0
  | 1, u, hu => by injection hu with hu; subst hu; exact h1
  | 2, u, hu => by injection hu with hu; subst hu; exact h2
  | 3, u, hu => by injection hu with hu; subst hu; exact h3
  | 4, u, hu => by injection hu with hu; subst hu; exact h4
  | 5, u, hu => by injection hu with hu; subst hu; exact h5
  | 6, u, hu => by injection hu with hu; subst hu; exact h6
  | i + 7, u, hu => by simp at hu
def wdUse : Wd Use where
  L := layUse
  enc x := [.int .i64 x.1.1, .int .i64 x.1.2, .int .i64 x.2.1, sliceOf x.2.2.1, sliceOf x.2.2.2.1, sliceOf x.2.2.2.2.1, sliceOf x.2.2.2.2.2]
  c := 7
  cpos := by decide
  pos _ _ := rfl
  len _ := rfl
  one x u hu := by
    simp only [List.mem_cons, List.not_mem_nil, or_false] at hu
    rcases hu with rfl | rfl | rfl | rfl | rfl | rfl | rfl <;> rfl
  lies h := ⟨h 0 _ rfl, h 1 _ rfl, h 2 _ rfl, h 3 _ rfl, h 4 _ rfl, h 5 _ rfl, h 6 _ rfl⟩
  cells h := seven_at h.1 h.2.1 h.2.2.1 h.2.2.2.1 h.2.2.2.2.1 h.2.2.2.2.2.1 h.2.2.2.2.2.2
abbrev zUse : Value := .agg #[.int .i64 0, .int .i64 0, .int .i64 0, .slice none 0 0, .slice none 0 0, .slice none 0 0, .slice none 0 0]
theorem wtUse : Wt wdUse 62 68 zUse 120 := ⟨Tryz.underlying62, by kernel_rfl, by kernel_rfl, by kernel_rfl, by decide⟩

/-! ### useOf -/
theorem held_join3 {α β γ : Type} {P : α → β → γ → World → Prop} {C : α → β → γ → World → Prop} {Q : Prop} (h1 : (∀ a b c Y, C a b c Y → P a b c Y) → Q) (h2 : ∀ a b c Y, C a b c Y → P a b c Y) : Q := h1 h2
def put7 (W : World) (g : Nat) (x0 x1 x2 x3 x4 x5 x6 : Value) : World := ((((((W.setCell ⟨g, 0, none⟩ x0).setCell ⟨g, 1, none⟩ x1).setCell ⟨g, 2, none⟩ x2).setCell ⟨g, 3, none⟩ x3).setCell ⟨g, 4, none⟩ x4).setCell ⟨g, 5, none⟩ x5).setCell ⟨g, 6, none⟩ x6
theorem put7_row {W : World} {g : Nat} {y0 y1 y2 y3 y4 y5 y6 : Value} {t : TypeId} (hg : W.heap[g]? = some (.cells #[y0, y1, y2, y3, y4, y5, y6] t (0, 0))) (x0 x1 x2 x3 x4 x5 x6 : Value) : (put7 W g x0 x1 x2 x3 x4 x5 x6).heap[g]? = some (.cells #[x0, x1, x2, x3, x4, x5, x6] t (0, 0)) := by
  unfold put7
  have h1 : (W.setCell ⟨g, 0, none⟩ x0).heap[g]? = some (.cells #[x0, y1, y2, y3, y4, y5, y6] t (0, 0)) := heap_set hg 0 x0
  generalize W.setCell ⟨g, 0, none⟩ x0 = W1 at h1 ⊢
  have h2 : (W1.setCell ⟨g, 1, none⟩ x1).heap[g]? = some (.cells #[x0, x1, y2, y3, y4, y5, y6] t (0, 0)) := heap_set h1 1 x1
  generalize W1.setCell ⟨g, 1, none⟩ x1 = W2 at h2 ⊢
  have h3 : (W2.setCell ⟨g, 2, none⟩ x2).heap[g]? = some (.cells #[x0, x1, x2, y3, y4, y5, y6] t (0, 0)) := heap_set h2 2 x2
  generalize W2.setCell ⟨g, 2, none⟩ x2 = W3 at h3 ⊢
  have h4 : (W3.setCell ⟨g, 3, none⟩ x3).heap[g]? = some (.cells #[x0, x1, x2, x3, y4, y5, y6] t (0, 0)) := heap_set h3 3 x3
  generalize W3.setCell ⟨g, 3, none⟩ x3 = W4 at h4 ⊢
  have h5 : (W4.setCell ⟨g, 4, none⟩ x4).heap[g]? = some (.cells #[x0, x1, x2, x3, x4, y5, y6] t (0, 0)) := heap_set h4 4 x4
  generalize W4.setCell ⟨g, 4, none⟩ x4 = W5 at h5 ⊢
  have h6 : (W5.setCell ⟨g, 5, none⟩ x5).heap[g]? = some (.cells #[x0, x1, x2, x3, x4, x5, y6] t (0, 0)) := heap_set h5 5 x5
  generalize W5.setCell ⟨g, 5, none⟩ x5 = W6 at h6 ⊢
  have h7 : (W6.setCell ⟨g, 6, none⟩ x6).heap[g]? = some (.cells #[x0, x1, x2, x3, x4, x5, x6] t (0, 0)) := heap_set h6 6 x6
  exact h7
theorem set_grown (W : World) (g j : Nat) (x : Value) : W.grownBy (W.setCell ⟨g, j, none⟩ x) (some g) :=
  ⟨rfl, rfl, rfl, by simp [World.setCell], fun k _ hk => Below.heap_setCell _ _ _ _ (fun e => hk (by rw [e]))⟩
theorem grown_step {w A X : World} {row : Option Nat} (h : w.grownBy A row) (k : A.grownBy X row) : w.grownBy X row :=
  ⟨k.os.trans h.os, k.tape.trans h.tape, k.output.trans h.output, Nat.le_trans h.size k.size, fun j hj hr => (k.block j (Nat.lt_of_lt_of_le hj h.size) hr).trans (h.block j hj hr)⟩
theorem put7_grown (W : World) (g : Nat) (x0 x1 x2 x3 x4 x5 x6 : Value) : W.grownBy (put7 W g x0 x1 x2 x3 x4 x5 x6) (some g) := by
  unfold put7
  exact grown_step (grown_step (grown_step (grown_step (grown_step (grown_step (set_grown _ _ _ _) (set_grown _ _ _ _)) (set_grown _ _ _ _)) (set_grown _ _ _ _)) (set_grown _ _ _ _)) (set_grown _ _ _ _)) (set_grown _ _ _ _)
theorem box_ne {w : World} {g base c n : Nat} {cur xs : Array Value} {T e : TypeId} {v : Value} {ys : List Value} (hb : w.heap[g]? = some (.cells cur T (0, 0))) (k : w.ownsRow base e c v n ys) (he : e ≠ T) : v.ownBlock ≠ some g := by
  rcases k.2 with ⟨rfl, -⟩ | ⟨g', cap', cur', rfl, -, hg', -⟩
  · intro e; cases e
  · intro e
    injection e with e
    subst e
    rw [hb] at hg'
    injection hg' with e
    injection e with e1 e2
    exact he e2.symm
/-- The two boxes of a call of useOf. -/
structure UB (w : World) (a b q : Int) (vd vc : Value) (X : World) : Prop where
  box : X.heap[w.heap.size]? = some (.cells #[.int .i64 a, .int .i64 b, .int .i64 q, vd, vc] 42 (0, 0))
  res : X.heap[w.heap.size + 1]? = some (.cells #[.int .i64 0, .int .i64 0, .int .i64 0, .slice none 0 0, .slice none 0 0, .slice none 0 0, .slice none 0 0] 68 (0, 0))
  below : Below w.heap.size w X
  lt : w.heap.size + 1 < X.heap.size
section
variable {w X Y : World} {a b q : Int} {vd vc kv wv : Value} {ks ws : List Text} {gb : Nat}
theorem UB.start (w : World) (a b q : Int) (vd vc : Value) : UB w a b q vd vc ((w.alloc (.cells #[.int .i64 a, .int .i64 b, .int .i64 q, vd, vc] 42)).alloc (.cells #[.int .i64 0, .int .i64 0, .int .i64 0, .slice none 0 0, .slice none 0 0, .slice none 0 0, .slice none 0 0] 68)).drew := by
  have h := heap_alloc_new (w.alloc (.cells #[.int .i64 a, .int .i64 b, .int .i64 q, vd, vc] 42)) (.cells #[.int .i64 0, .int .i64 0, .int .i64 0, .slice none 0 0, .slice none 0 0, .slice none 0 0, .slice none 0 0] 68)
  rw [World.size_alloc] at h
  exact ⟨(Below.heap_alloc _ _ _ (by simp)).trans (heap_alloc_new w _), h, ((Cmd.below_one _ _).trans ((Cmd.below_one _ _).mono (by simp))).drew, by show _ < ((w.alloc _).alloc _).heap.size; simp⟩
theorem UB.on (h : UB w a b q vd vc X) (hb : Below X.heap.size X Y) : UB w a b q vd vc Y :=
  ⟨(hb.block _ (by have := h.lt; omega)).trans h.box, (hb.block _ h.lt).trans h.res, h.below.trans (hb.mono h.below.size), Nat.lt_of_lt_of_le h.lt hb.size⟩
theorem UB.grow (h : UB w a b q vd vc X) {row : Option Nat} (hg : X.grownBy Y row) (hr : ∀ g, row = some g → w.heap.size + 1 < g) : UB w a b q vd vc Y :=
  ⟨(hg.block _ (by have := h.lt; omega) (fun e => by have := hr _ e.symm; omega)).trans h.box, (hg.block _ h.lt (fun e => by have := hr _ e.symm; omega)).trans h.res, Below.grown h.below hg h.below.size (fun k hk => by have := hr _ hk; omega), Nat.lt_of_lt_of_le h.lt hg.size⟩
theorem UB.five (h : UB w a b q vd vc X) : X.cell? ⟨w.heap.size, 0, none⟩ = some (.int .i64 a) ∧ X.cell? ⟨w.heap.size, 1, none⟩ = some (.int .i64 b) ∧ X.cell? ⟨w.heap.size, 2, none⟩ = some (.int .i64 q) ∧ X.cell? ⟨w.heap.size, 3, none⟩ = some vd ∧ X.cell? ⟨w.heap.size, 4, none⟩ = some vc :=
  ⟨cell_row (i := 0) h.box rfl, cell_row (i := 1) h.box rfl, cell_row (i := 2) h.box rfl, cell_row (i := 3) h.box rfl, cell_row (i := 4) h.box rfl⟩
/-- What stands in the loop of useOf. -/
structure UL (w : World) (a b q : Int) (vd vc kv : Value) (ks : List Text) (gb : Nat) (wv : Value) (ws : List Text) (X : World) : Prop where
  ub : UB w a b q vd vc X
  use : X.heap[gb]? = some (.cells #[.int .i64 a, .int .i64 b, .int .i64 q, vd, vc, kv, wv] 68 (0, 0))
  far : w.heap.size + 1 < gb
  ko : OwnS X w.heap.size kv ks
  wo : OwnS X w.heap.size wv ws
  kb : ∀ g, kv.ownBlock = some g → w.heap.size + 1 < g
  wb : ∀ g, wv.ownBlock = some g → w.heap.size + 1 < g
  kw : ∀ g, wv.ownBlock = some g → kv.ownBlock ≠ some g
theorem UL.on (h : UL w a b q vd vc kv ks gb wv ws X) (hb : Below X.heap.size X Y) : UL w a b q vd vc kv ks gb wv ws Y :=
  ⟨h.ub.on hb, (hb.block _ (Array.getElem?_eq_some_iff.1 h.use).1).trans h.use, h.far, own_below h.ko hb, own_below h.wo hb, h.kb, h.wb, h.kw⟩
/-- One key more that is written. -/
theorem UL.put (h : UL w a b q vd vc kv ks gb wv ws X) {s : Text} {v' : Value} (ho : OwnS Y w.heap.size v' (ws ++ [s])) (hg : X.grownBy Y wv.ownBlock) (hn : v'.ownBlock = wv.ownBlock ∨ v'.ownBlock = some X.heap.size) : UL w a b q vd vc kv ks gb v' (ws ++ [s]) (Y.setCell ⟨gb, 6, none⟩ v') := by
  have hu : Y.heap[gb]? = some (.cells #[.int .i64 a, .int .i64 b, .int .i64 q, vd, vc, kv, wv] 68 (0, 0)) := (hg.block _ (Array.getElem?_eq_some_iff.1 h.use).1 (fun e => box_ne (xs := #[]) h.use h.wo (by decide) e.symm)).trans h.use
  have hk : OwnS Y w.heap.size kv ks := World.ownsRow.kept h.ko hg (by
    cases hv : wv.ownBlock with
    | none => cases kv.ownBlock with
      | none => exact .inl rfl
      | some k => exact .inr (by simp)
    | some g => exact .inr (h.kw g hv))
  have hlt := h.ub.lt
  refine ⟨(h.ub.grow hg h.wb).grow (set_grown _ _ _ _) (fun g e => by injection e with e; rw [← e]; exact h.far), heap_set hu 6 v', h.far, World.ownsRow.kept hk (set_grown _ _ _ _) (.inr (box_ne (xs := #[]) hu hk (by decide))), World.ownsRow.kept ho (set_grown _ _ _ _) (.inr (box_ne (xs := #[]) hu ho (by decide))), h.kb, fun g e => ?_, fun g e => ?_⟩
  · rcases hn with h1 | h1
    · exact h.wb g (by rw [← h1]; exact e)
    · rw [h1] at e; injection e with e; omega
  · rcases hn with h1 | h1
    · exact h.kw g (by rw [← h1]; exact e)
    · rw [h1] at e
      injection e with e
      intro e2
      have := (World.ownsRow.lt h.ko g e2).2
      omega
theorem UL.seven (h : UL w a b q vd vc kv ks gb wv ws X) : X.cell? ⟨gb, 0, none⟩ = some (.int .i64 a) ∧ X.cell? ⟨gb, 1, none⟩ = some (.int .i64 b) ∧ X.cell? ⟨gb, 2, none⟩ = some (.int .i64 q) ∧ X.cell? ⟨gb, 3, none⟩ = some vd ∧ X.cell? ⟨gb, 4, none⟩ = some vc ∧ X.cell? ⟨gb, 5, none⟩ = some kv ∧ X.cell? ⟨gb, 6, none⟩ = some wv :=
  ⟨cell_row (i := 0) h.use rfl, cell_row (i := 1) h.use rfl, cell_row (i := 2) h.use rfl, cell_row (i := 3) h.use rfl, cell_row (i := 4) h.use rfl, cell_row (i := 5) h.use rfl, cell_row (i := 6) h.use rfl⟩
end
/-- What useOf answers. -/
def GivesUse (a b q : Int) (vd vc : Value) (cs : List Cmdn) (w : World) (E : Ending) (w' : World) : Prop := ∃ (p1 : Option Addr) (c1 : Nat) (p2 : Option Addr) (c2 : Nat), E = .returned (.agg #[.int .i64 a, .int .i64 b, .int .i64 q, vd, vc, .slice p1 (kset (keys cs)).length c1, .slice p2 (wrS cs).length c2]) ∧ OwnS w' w.heap.size (.slice p1 (kset (keys cs)).length c1) (kset (keys cs)) ∧ OwnS w' w.heap.size (.slice p2 (wrS cs).length c2) (wrS cs) ∧ Below w.heap.size w w'
theorem own_shape {w : World} {base c n : Nat} {e : TypeId} {v : Value} {xs : List Value} (h : w.ownsRow base e c v n xs) : ∃ p cap, v = .slice p n cap := by
  rcases h.2 with ⟨rfl, rfl⟩ | ⟨g, cap, cur, rfl, -⟩
  · exact ⟨none, 0, rfl⟩
  · exact ⟨_, cap, rfl⟩
theorem use_one {fn : Func} {p : Tmp} (h : fn.results = #[.cell p 68]) (tmps : Array Value) {W : World} {g : Nat} {a b q : Int} {p1 p2 p3 p4 : Option Addr} {n1 c1 n2 c2 n3 c3 n4 c4 : Nat} (hp : tmps.getD p undef = .pointer (some ⟨g, 0, none⟩))
    (hg : W.heap[g]? = some (.cells #[.int .i64 a, .int .i64 b, .int .i64 q, .slice p1 n1 c1, .slice p2 n2 c2, .slice p3 n3 c3, .slice p4 n4 c4] 68 (0, 0))) :
    (results fn tmps).run Tryz.prog W = .ok (.agg #[.int .i64 a, .int .i64 b, .int .i64 q, .slice p1 n1 c1, .slice p2 n2 c2, .slice p3 n3 c3, .slice p4 n4 c4]) W := by
  have e0 := cell_row (i := 0) hg rfl
  have e1 := cell_row (i := 1) hg rfl
  have e2 := cell_row (i := 2) hg rfl
  have e3 := cell_row (i := 3) hg rfl
  have e4 := cell_row (i := 4) hg rfl
  have e5 := cell_row (i := 5) hg rfl
  have e6 := cell_row (i := 6) hg rfl
  clear hg
  rw [results_cell_one h, hp]
  go_simp
end Go.Proofs.YtomidcbpnaajeaaGreat.Pre
