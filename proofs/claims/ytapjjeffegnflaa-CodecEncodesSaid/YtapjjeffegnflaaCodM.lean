/- What a reader (layer 11, codec) takes: a number, a kind, a key, a number's bits, a command; what is wrong is given up by a panic. Conditions: the bytes lie in memory as their cells say, and are not more than 100000; the reader is a box of the call's own. -/
import Derived.Test.YtapjjeffegnflaaCodI
import Derived.Test.YtapjjeffegnflaaCodL

/- Part: What a reader (layer 11, codec) takes: a number, a kind, a key, a number's bits; what is wrong is given up by a panic. Conditions: the bytes lie in memory as their cells say, and are not more than 100000; the reader is a box of the call's own. -/
namespace Go.Proofs.Ytapjjeffegnflaa.Cod
open Go.RowKit F64 Cmd Bat Ids Rec Wir Dig
set_option linter.unusedVariables false
set_option linter.unusedSimpArgs false

/-! ### Given up -/
/-- A panic with an error. -/
def panL (e : Nat) : List PanicEntry := [{ v := .iface 30 (.int .i64 (e : Int)), recovered := false }]
set_option maxRecDepth 100000 in
theorem giveup_ok (w : World) : Calls Try.prog 24 #[.int .i64 0] w fun E w' => E = .returned (.tuple #[]) ∧ w = w' := by
  go_enter Try.func24, Try.ntmps24
  go_wp2_with fail
  go_end0
  exact ⟨rfl, rfl⟩
set_option maxRecDepth 100000 in
theorem giveup_no (e : Nat) (w : World) (he : e ≠ 0) : Calls Try.prog 24 #[.int .i64 (e : Int)] w fun E w' => E = .panicked (panL e) ∧ w = w' := by
  have hn : ((e : Int) != 0) = true := by rw [bne_iff_ne]; omega
  unfold panL
  generalize (e : Int) = x at hn ⊢
  clear he
  go_enter Try.func24, Try.ntmps24
  go_wp2_with fail
  exact ⟨rfl, rfl, rfl⟩

/-! ### A reader: what is left -/
structure Rd (w : World) (g : Nat) (zs : List UInt8) (W : World) : Prop where
  below : Below w.heap.size w W
  own : w.heap.size ≤ g
  lt : g < W.heap.size
  row : ∃ (p : Option Addr) (cap : Nat), W.cell? ⟨g, 0, none⟩ = some (.slice p zs.length cap) ∧ layB.Row w (.slice p zs.length cap) zs
  f0 : W.frozen? ⟨g, 0, none⟩ = false
  len : zs.length ≤ 100000
theorem Rd.on {w W W' : World} {g : Nat} {zs : List UInt8} (h : Rd w g zs W) (hb : Below W.heap.size W W') : Rd w g zs W' := by
  obtain ⟨h1, h2, h3, ⟨p, cap, h4, h5⟩, h6, h7⟩ := h
  exact ⟨h1.trans (hb.mono h1.size), h2, Nat.lt_of_lt_of_le h3 hb.size, ⟨p, cap, (hb.cell (p := ⟨g, 0, none⟩) h3).trans h4, h5⟩, (hb.frozen (p := ⟨g, 0, none⟩) h3).trans h6, h7⟩
theorem Rd.under {w W W' : World} {g : Nat} {zs : List UInt8} (h : Rd w g zs W) {B : Nat} (hb : Below B W W') (hB : g < B) : Rd w g zs W' := by
  obtain ⟨h1, h2, h3, ⟨p, cap, h4, h5⟩, h6, h7⟩ := h
  exact ⟨h1.trans (hb.mono (Nat.le_of_lt (Nat.lt_of_le_of_lt h2 hB))), h2, Nat.lt_of_lt_of_le h3 hb.size, ⟨p, cap, (hb.cell (p := ⟨g, 0, none⟩) hB).trans h4, h5⟩, (hb.frozen (p := ⟨g, 0, none⟩) hB).trans h6, h7⟩
theorem Rd.alloc {w W : World} {g : Nat} {zs : List UInt8} (h : Rd w g zs W) (o : Obj) : Rd w g zs (W.alloc o) := h.on (Cmd.below_one W o)
theorem Rd.drew {w W : World} {g : Nat} {zs : List UInt8} (h : Rd w g zs W) : Rd w g zs W.drew := h.on (Below.refl _ _).drew
theorem Rd.far {w W : World} {g : Nat} {zs : List UInt8} (h : Rd w g zs W) {c : Nat} (hne : g ≠ c) (hc : w.heap.size ≤ c) (i : Nat) (v : Value) : Rd w g zs (W.setCell ⟨c, i, none⟩ v) := by
  obtain ⟨h1, h2, h3, ⟨p, cap, h4, h5⟩, h6, h7⟩ := h
  have hb := Below.heap_setCell W ⟨c, i, none⟩ v g hne
  exact ⟨h1.setCell hc _, h2, by rw [Cmd.size_sc]; exact h3, ⟨p, cap, (World.cell?_of_block hb).trans h4, h5⟩, (World.frozen?_of_block hb).trans h6, h7⟩
theorem Rd.cut {w W : World} {g : Nat} {zs : List UInt8} (h : Rd w g zs W) {p : Option Addr} {n cap : Nat} {ys : List UInt8} (hn : n = ys.length) (hr : layB.Row w (.slice p n cap) ys) (hl : ys.length ≤ 100000) : Rd w g ys (W.setCell ⟨g, 0, none⟩ (.slice p n cap)) := by
  subst hn
  obtain ⟨h1, h2, h3, ⟨p', cap', h4, h5⟩, h6, h7⟩ := h
  refine ⟨h1.setCell h2 _, h2, by rw [Cmd.size_sc]; exact h3, ⟨p, cap, cell_set_same h4 _, hr⟩, ?_, hl⟩
  rw [World.frozen?_setCell]; exact h6
def Passed (w : World) (g : Nat) (ys : List UInt8) (W : World) (E : Ending) (W' : World) : Prop := E = .returned (.tuple #[]) ∧ W.grownBy W' (some g) ∧ Rd w g ys W'
set_option maxHeartbeats 4000000 in
set_option maxRecDepth 100000 in
theorem pass_any (w : World) (g : Nat) (zs : List UInt8) (W : World) (h : Rd w g zs W) (j : Nat) (hj : j ≤ zs.length) : Calls Try.prog 69 #[.pointer (some ⟨g, 0, none⟩), .int .i64 (j : Int)] W (Passed w g (zs.drop j) W) := by
  have hS := Lib.hid h
  obtain ⟨h1, h2, h3, ⟨p, cap, c0, hr⟩, f0, hl⟩ := h
  have hrow := hr
  obtain ⟨pp, cc, ee, g1, g2, -⟩ := hr
  injection ee with e1 e2 e3
  subst e1 e3
  have hr2 := row_cut hrow j zs.length cap hj (Nat.le_refl _) g1 g2
  rw [List.take_length] at hr2
  have HR2 := Lib.hid hr2
  have hcut := fun w => cut_from p zs.length cap j hj w
  have hl2 : Hid (zs.length - j = (zs.drop j).length) := Lib.hid (by rw [List.length_drop])
  have HLen : Hid ((zs.drop j).length ≤ 100000) := Lib.hid (by rw [List.length_drop]; omega)
  have HB0 := Lib.hid (gb_refl W (some g))
  unfold Passed
  generalize cutq p j cap = p' at hcut HR2
  generalize zs.length - j = n' at hcut HR2 hl2
  generalize cap - j = c' at hcut HR2
  generalize zs.drop j = ys at HR2 hl2 HLen ⊢
  generalize zs.length = L at c0 hcut
  clear h1 h2 h3 hrow g1 hr2 hj
  go_enter Try.func69, Try.ntmps69
  go_wp2_with fail
  go_end0
  exact ⟨rfl, gb_set HB0.out _ _, hS.out.cut hl2.out HR2.out HLen.out⟩

/-! ### A number -/
/-- What is taken, or given up. -/
def Tk {α : Type} (w : World) (g : Nat) (r : Except Nat (α × List UInt8)) (V : α → Value) (W : World) (E : Ending) (W' : World) : Prop :=
  (∃ x ys, r = .ok (x, ys) ∧ E = .returned (V x) ∧ W.grownBy W' (some g) ∧ Rd w g ys W') ∨ ∃ e : Nat, r = .error e ∧ e ≠ 0 ∧ E = .panicked (panL e) ∧ Below w.heap.size w W'
set_option maxHeartbeats 4000000 in
set_option maxRecDepth 100000 in
theorem number_any (w : World) (g : Nat) (zs : List UInt8) (W : World) (h : Rd w g zs W) : Calls Try.prog 48 #[.pointer (some ⟨g, 0, none⟩)] W (Tk w g (gnum zs) (fun n : Nat => .int .i64 (n : Int)) W) := by
  have hS := Lib.hid h
  have hbelow := Lib.hid h.below
  obtain ⟨n, j, e, hrd⟩ : ∃ n j e, rd zs 0 0 = (n, j, e) := ⟨_, _, _, rfl⟩
  have hi := rd_is zs 0 0 n j e hrd (by decide) (by decide)
  obtain ⟨h1, h2, h3, ⟨p, cap, c0, hr⟩, f0, hl⟩ := h
  have CR := Lib.hid (get_any _ zs W (hr.on h1))
  rw [hrd] at CR
  have G1 := Lib.hid (fun he => gnum_bad hrd he)
  have G2 := Lib.hid (fun (he : e = 0) hn => gnum_big (zs := zs) (n := n) (j := j) (by rw [hrd, he]) hn)
  have G3 := Lib.hid (fun (he : e = 0) hn => gnum_ok (zs := zs) (n := n) (j := j) (by rw [hrd, he]) hn)
  have CP := Lib.hid (fun hj => pass_any w g zs W hS.out j hj)
  unfold ret3 at CR
  unfold Passed at CP
  unfold Tk
  clear hrd hr
  generalize zs.length = L at c0 CR CP hi hl
  rcases hi with ⟨rfl, j1, j2, n1⟩ | ⟨he, rfl, rfl⟩
  · have hn1 : (n : Int) < 18446744073709551616 := by omega
    have C0 := Lib.hid (fun w => giveup_ok w)
    by_cases hn : 1073741824 < n
    · have HG := Lib.hid (G2.out rfl hn)
      have hn' : (1073741824 : Int) < n := by omega
      clear h1 h2 h3 j1 j2 n1 hn G1 G2 G3 CP
      go_enter Try.func48, Try.ntmps48
      go_wp2_with (first
        | (go_at_call 68; (with_reducible refine CR.out.mono ?_); rintro e w1 ⟨rfl, rfl⟩)
        | (go_at_call 24; (with_reducible refine (C0.out _).mono ?_); rintro e w1 ⟨rfl, rfl⟩))
      exact ⟨rfl, .inr ⟨20, HG.out, by decide, rfl, hbelow.out⟩⟩
    · have HG := Lib.hid (G3.out rfl hn)
      have CP := Lib.hid (CP.out (by omega))
      have hn' : ¬ (1073741824 : Int) < n := by omega
      have n0 : (0 : Int) ≤ n := by omega
      have wn : IntKind.i64.wrap (n : Int) = n := IntWalk.i64_in _ (by omega)
      obtain ⟨N, hN⟩ : ∃ N : Int, (n : Int) = N := ⟨_, rfl⟩
      have HN := Lib.hid hN
      rw [hN] at CR hn1 hn' n0 wn
      clear h1 h2 h3 j1 j2 n1 hn hN G1 G2 G3
      go_enter Try.func48, Try.ntmps48
      go_wp2_with (first
        | (go_at_call 68; (with_reducible refine CR.out.mono ?_); rintro e w1 ⟨rfl, rfl⟩)
        | (go_at_call 24; (with_reducible refine (C0.out _).mono ?_); rintro e w1 ⟨rfl, rfl⟩)
        | (go_at_call 69; (with_reducible refine CP.out.mono ?_); rintro e w2 ⟨rfl, hb, hr⟩; have HB := Lib.hid hb; have HR := Lib.hid hr; clear hb hr))
      go_ret
      exact .inl ⟨n, _, HG.out, by show _ = Ending.returned (.int .i64 ((n : Nat) : Int)); rw [HN.out]; rfl, HB.out, HR.out⟩
  · have HG := Lib.hid (G1.out (by omega))
    have he0 : e ≠ 0 := by omega
    have HE := Lib.hid he0
    have C0 := Lib.hid (fun w => giveup_no e w he0)
    clear h1 h2 h3 he G1 G2 G3 CP he0
    go_enter Try.func48, Try.ntmps48
    go_wp2_with (first
        | (go_at_call 68; (with_reducible refine CR.out.mono ?_); rintro e w1 ⟨rfl, rfl⟩)
        | (go_at_call 24; (with_reducible refine (C0.out _).mono ?_); rintro e w1 ⟨rfl, rfl⟩))
    exact ⟨rfl, .inr ⟨e, HG.out, HE.out, rfl, hbelow.out⟩⟩
theorem Tk.took {α : Type} {w W W' : World} {g : Nat} {r : Except Nat (α × List UInt8)} {V : α → Value} {E : Ending} {x : α} {ys : List UInt8} (h : Tk w g r V W E W') (hr : r = .ok (x, ys)) : E = .returned (V x) ∧ W.grownBy W' (some g) ∧ Rd w g ys W' := by
  rcases h with ⟨x', ys', h1, h2, h3, h4⟩ | ⟨e, h1, -⟩
  · rw [hr] at h1; injection h1 with h1; injection h1 with h5 h6; subst h5 h6; exact ⟨h2, h3, h4⟩
  · rw [hr] at h1; cases h1
theorem Tk.fell {α : Type} {w W W' : World} {g : Nat} {r : Except Nat (α × List UInt8)} {V : α → Value} {E : Ending} {e : Nat} (h : Tk w g r V W E W') (hr : r = .error e) : e ≠ 0 ∧ E = .panicked (panL e) ∧ Below w.heap.size w W' := by
  rcases h with ⟨x', ys', h1, -⟩ | ⟨e', h1, h2, h3, h4⟩
  · rw [hr] at h1; cases h1
  · rw [hr] at h1; injection h1 with h1; subst h1; exact ⟨h2, h3, h4⟩

/-! ### A kind -/
def gkind (zs : List UInt8) : Except Nat (Nat × List UInt8) :=
  match gnum zs with
  | .error e => .error e
  | .ok (k, r) => if k < 1 ∨ 4 < k then .error 12 else .ok (k, r)
set_option maxHeartbeats 4000000 in
set_option maxRecDepth 100000 in
theorem kind_any (w : World) (g : Nat) (zs : List UInt8) (W : World) (h : Rd w g zs W) : Calls Try.prog 70 #[.pointer (some ⟨g, 0, none⟩)] W (Tk w g (gkind zs) (fun n : Nat => .int .i64 (n : Int)) W) := by
  cases hg : gnum zs with
  | error e =>
    have HG : Hid (gkind zs = .error e) := Lib.hid (by unfold gkind; rw [hg])
    have C1 := Lib.hid ((number_any w g zs W h).mono fun E W' h => h.fell hg)
    clear h hg
    unfold Tk
    go_enter Try.func70, Try.ntmps70
    go_wp2_with (go_at_call 48; (with_reducible refine C1.out.mono ?_); rintro E w1 ⟨he, rfl, hb⟩; have HE := Lib.hid he; have HB := Lib.hid hb; clear he hb)
    exact ⟨rfl, .inr ⟨e, HG.out, HE.out, rfl, HB.out⟩⟩
  | ok v =>
    obtain ⟨k, r⟩ := v
    have C1 := Lib.hid ((number_any w g zs W h).mono fun E W' h => h.took hg)
    by_cases hk : k < 1 ∨ 4 < k
    · have HG : Hid (gkind zs = .error 12) := Lib.hid (by unfold gkind; rw [hg]; exact if_pos hk)
      have hB := Lib.hid h.below
      have k1 : ((k : Int) == 1) = false := by rw [beq_eq_false_iff_ne]; omega
      have k2 : ((k : Int) == 2) = false := by rw [beq_eq_false_iff_ne]; omega
      have k3 : ((k : Int) == 3) = false := by rw [beq_eq_false_iff_ne]; omega
      have k4 : ((k : Int) == 4) = false := by rw [beq_eq_false_iff_ne]; omega
      clear h hg hk
      unfold Tk
      go_enter Try.func70, Try.ntmps70
      go_wp2_with (go_at_call 48; (with_reducible refine C1.out.mono ?_); rintro E w1 ⟨rfl, hb, hr⟩; have HB := Lib.hid hb; have HR := Lib.hid hr; clear hb hr)
      exact ⟨rfl, .inr ⟨12, HG.out, by decide, rfl, HR.out.below⟩⟩
    · have HG : Hid (gkind zs = .ok (k, r)) := Lib.hid (by unfold gkind; rw [hg]; exact if_neg hk)
      have hk : k = 1 ∨ k = 2 ∨ k = 3 ∨ k = 4 := by omega
      clear h hg
      unfold Tk
      rcases hk with rfl | rfl | rfl | rfl
      all_goals
        go_enter Try.func70, Try.ntmps70
        go_wp2_with (go_at_call 48; (with_reducible refine C1.out.mono ?_); rintro E w1 ⟨rfl, hb, hr⟩; have HB := Lib.hid hb; have HR := Lib.hid hr; clear hb hr)
        go_ret
        exact .inl ⟨_, r, HG.out, rfl, HB.out, HR.out⟩

/-! ### A key -/
theorem gtext_key (zs : List UInt8) (hl : zs.length ≤ 100000) : (∃ s j, gtext zs 12 = (s, j, 0) ∧ j ≤ zs.length ∧ gkey zs = .ok (s, zs.drop j)) ∨ ∃ e, gtext zs 12 = ([], 0, e) ∧ e ≠ 0 ∧ gkey zs = .error e := by
  obtain ⟨n, j, e, hrd⟩ : ∃ n j e, rd zs 0 0 = (n, j, e) := ⟨_, _, _, rfl⟩
  by_cases he : e = 0
  · subst he
    have hi := rd_is zs 0 0 n j 0 hrd (by decide) (by decide)
    have hj : j ≤ zs.length := by rcases hi with ⟨-, j1, j2, -⟩ | ⟨h, -⟩ <;> omega
    by_cases hn : 12 < n
    · exact .inr ⟨18, gt_long hrd hn, by decide, gkey_long hrd hn⟩
    · by_cases hl : zs.length - j < n
      · exact .inr ⟨4, gt_end hrd hn hl, by decide, gkey_end hrd hn hl⟩
      · exact .inl ⟨_, _, gt_ok hrd hn hl, by omega, gkey_ok hrd hn hl⟩
  · exact .inr ⟨e, gt_err hrd he, he, gkey_bad hrd he⟩
set_option maxHeartbeats 4000000 in
set_option maxRecDepth 100000 in
theorem rkey_any (w : World) (g : Nat) (zs : List UInt8) (W : World) (h : Rd w g zs W) : Calls Try.prog 71 #[.pointer (some ⟨g, 0, none⟩)] W (Tk w g (gkey zs) (fun s => .string (str s)) W) := by
  have hS := Lib.hid h
  have hbelow := Lib.hid h.below
  have hgt := gtext_key zs h.len
  obtain ⟨h1, h2, h3, ⟨p, cap, c0, hr⟩, f0, hl⟩ := h
  have CR : Hid (Calls Try.prog 83 #[.slice p zs.length cap, .int .i64 12] W fun e w' => e = retT (gtext zs 12) ∧ W = w') := Lib.hid (gettext_any _ zs 12 W (hr.on h1) hl (by decide))
  have CP := Lib.hid (fun j hj => pass_any w g zs W hS.out j hj)
  unfold retT at CR
  unfold Passed at CP
  unfold Tk
  clear hr
  rcases hgt with ⟨s, j, e1, hj, e2⟩ | ⟨e, e1, he, e2⟩
  · rw [e1] at CR
    have HG := Lib.hid e2
    have CP := Lib.hid (CP.out j hj)
    have C0 := Lib.hid (fun w => giveup_ok w)
    generalize zs.length = L at c0 CR
    clear h1 h2 h3 e1 e2 hj hl
    go_enter Try.func71, Try.ntmps71
    go_wp2_with (first
      | (go_at_call 83; (with_reducible refine CR.out.mono ?_); rintro e w1 ⟨rfl, rfl⟩)
      | (go_at_call 24; (with_reducible refine (C0.out _).mono ?_); rintro e w1 ⟨rfl, rfl⟩)
      | (go_at_call 69; (with_reducible refine CP.out.mono ?_); rintro e w2 ⟨rfl, hb, hr⟩; have HB := Lib.hid hb; have HR := Lib.hid hr; clear hb hr))
    go_ret
    exact .inl ⟨s, _, HG.out, rfl, HB.out, HR.out⟩
  · rw [e1] at CR
    have HG := Lib.hid e2
    have HE := Lib.hid he
    have C0 := Lib.hid (fun w => giveup_no e w he)
    generalize zs.length = L at c0 CR
    clear h1 h2 h3 e1 e2 hl CP he
    go_enter Try.func71, Try.ntmps71
    go_wp2_with (first
      | (go_at_call 83; (with_reducible refine CR.out.mono ?_); rintro e w1 ⟨rfl, rfl⟩)
      | (go_at_call 24; (with_reducible refine (C0.out _).mono ?_); rintro e w1 ⟨rfl, rfl⟩))
    exact ⟨rfl, .inr ⟨e, HG.out, HE.out, rfl, hbelow.out⟩⟩

/-! ### A number's bits -/
set_option maxHeartbeats 4000000 in
set_option maxRecDepth 100000 in
theorem value_any (w : World) (g : Nat) (zs : List UInt8) (W : World) (h : Rd w g zs W) : Calls Try.prog 72 #[.pointer (some ⟨g, 0, none⟩)] W (Tk w g (gflt zs) (fun f => .float .f64 f) W) := by
  have hS := Lib.hid h
  have hbelow := Lib.hid h.below
  obtain ⟨h1, h2, h3, ⟨p, cap, c0, hr⟩, f0, hl⟩ := h
  have CR := Lib.hid (geteight_any _ zs W (hr.on h1))
  have CP := Lib.hid (fun j hj => pass_any w g zs W hS.out j hj)
  unfold ret2 at CR
  unfold Passed at CP
  unfold Tk
  clear hr
  by_cases h8 : zs.length < 8
  · have e1 : eightOf zs = (0, 4) := by unfold eightOf; rw [if_pos h8]
    rw [e1] at CR
    have HG := Lib.hid (gflt_end h8)
    have C0 : Hid (∀ w, Calls Try.prog 24 #[.int .i64 4] w fun E w' => E = .panicked (panL 4) ∧ w = w') := Lib.hid (fun w => giveup_no 4 w (by decide))
    generalize zs.length = L at c0 CR
    clear h1 h2 h3 e1 hl CP h8
    go_enter Try.func72, Try.ntmps72
    go_wp2_with (first
      | (go_at_call 67; (with_reducible refine CR.out.mono ?_); rintro e w1 ⟨rfl, rfl⟩)
      | (go_at_call 24; (with_reducible refine (C0.out _).mono ?_); rintro e w1 ⟨rfl, rfl⟩))
    exact ⟨rfl, .inr ⟨4, HG.out, by decide, rfl, hbelow.out⟩⟩
  · have e1 : eightOf zs = (un (zs.take 8), 0) := by unfold eightOf; rw [if_neg h8]
    rw [e1] at CR
    have C0 := Lib.hid (fun w => giveup_ok w)
    have G1 := Lib.hid (fun hc => gflt_ok h8 hc)
    have G2 := Lib.hid (fun hc => gflt_bad h8 hc)
    have CP : Hid (Calls Try.prog 69 #[.pointer (some ⟨g, 0, none⟩), .int .i64 8] W fun E W' => E = .returned (.tuple #[]) ∧ W.grownBy W' (some g) ∧ Rd w g (zs.drop 8) W') := Lib.hid (CP.out 8 (by omega))
    have hlt := un_lt 8 zs
    generalize un (zs.take 8) = n at CR G1 G2 hlt
    have CB := Lib.hid (fun w => _root_.Go.Proofs.Ytapjjeffegnflaa.bits_any n w)
    have hn0 : (n : Int).toNat = n := Int.toNat_natCast n
    generalize zs.length = L at c0 CR
    by_cases hc : canon n = n
    · have HG := Lib.hid (G1.out hc)
      have hq : ((canon n : Int) != (n : Int)) = false := by rw [hc]; simp
      clear h1 h2 h3 e1 hl h8 G1 G2
      rw [hc] at CB
      go_enter Try.func72, Try.ntmps72
      go_wp2_with (first
        | (go_at_call 67; (with_reducible refine CR.out.mono ?_); rintro e w1 ⟨rfl, rfl⟩)
        | (go_at_call 24; (with_reducible refine (C0.out _).mono ?_); rintro e w1 ⟨rfl, rfl⟩)
        | (go_at_call 65; (with_reducible refine (CB.out _).mono ?_); rintro e w1 ⟨rfl, rfl⟩)
        | (go_at_call 69; (with_reducible refine CP.out.mono ?_); rintro e w2 ⟨rfl, hb, hr⟩; have HB := Lib.hid hb; have HR := Lib.hid hr; clear hb hr))
      go_ret
      exact .inl ⟨n, _, HG.out, rfl, HB.out, HR.out⟩
    · have HG := Lib.hid (G2.out hc)
      have hq : ((canon n : Int) != (n : Int)) = true := by rw [bne_iff_ne]; omega
      have hq2 : ¬ (canon n : Int) = (n : Int) := by omega
      generalize canon n = m at CB hq hq2
      clear h1 h2 h3 e1 hl h8 G1 G2 hc
      go_enter Try.func72, Try.ntmps72
      go_wp2_with (first
        | (go_at_call 67; (with_reducible refine CR.out.mono ?_); rintro e w1 ⟨rfl, rfl⟩)
        | (go_at_call 24; (with_reducible refine (C0.out _).mono ?_); rintro e w1 ⟨rfl, rfl⟩)
        | (go_at_call 65; (with_reducible refine (CB.out _).mono ?_); rintro e w1 ⟨rfl, rfl⟩))
      exact ⟨rfl, .inr ⟨3, HG.out, by decide, rfl, hbelow.out⟩⟩

/-! ### What the record's parts are: an id, how many there are -/
abbrev numF (g : Nat) : Value := .func (.func 48) #[.pointer (some ⟨g, 0, none⟩)] #[]
def gcount (most err : Nat) (zs : List UInt8) : Except Nat (Nat × List UInt8) :=
  match gnum zs with
  | .error e => .error e
  | .ok (n, r) => if most < n then .error err else .ok (n, r)
set_option maxHeartbeats 4000000 in
set_option maxRecDepth 100000 in
theorem count_any (w : World) (g : Nat) (zs : List UInt8) (W : World) (h : Rd w g zs W) (most err : Nat) (he : err ≠ 0) : Calls Try.prog 50 #[numF g, .int .i64 (most : Int), .int .i64 (err : Int)] W (Tk w g (gcount most err zs) (fun n : Nat => .int .i64 (n : Int)) W) := by
  cases hg : gnum zs with
  | error e =>
    have HG : Hid (gcount most err zs = .error e) := Lib.hid (by unfold gcount; rw [hg])
    have C1 := Lib.hid ((number_any w g zs W h).mono fun E W' h => h.fell hg)
    clear h hg
    unfold Tk
    go_enter Try.func50, Try.ntmps50
    go_wp2_with (go_at_call 48; (with_reducible refine C1.out.mono ?_); rintro E w1 ⟨he, rfl, hb⟩; have HE := Lib.hid he; have HB := Lib.hid hb; clear he hb)
    exact ⟨rfl, .inr ⟨e, HG.out, HE.out, rfl, HB.out⟩⟩
  | ok v =>
    obtain ⟨k, r⟩ := v
    have C1 := Lib.hid ((number_any w g zs W h).mono fun E W' h => h.took hg)
    by_cases hk : most < k
    · have HG : Hid (gcount most err zs = .error err) := Lib.hid (by unfold gcount; rw [hg]; exact if_pos hk)
      have HE := Lib.hid he
      have k1 : (most : Int) < k := by omega
      have k2 : decide ((most : Int) < k) = true := decide_eq_true k1
      clear h hg hk
      unfold Tk
      go_enter Try.func50, Try.ntmps50
      go_wp2_with (go_at_call 48; (with_reducible refine C1.out.mono ?_); rintro E w1 ⟨rfl, hb, hr⟩; have HB := Lib.hid hb; have HR := Lib.hid hr; clear hb hr)
      exact ⟨rfl, .inr ⟨err, HG.out, HE.out, rfl, HR.out.below⟩⟩
    · have HG : Hid (gcount most err zs = .ok (k, r)) := Lib.hid (by unfold gcount; rw [hg]; exact if_neg hk)
      have k1 : ¬ (most : Int) < k := by omega
      have k2 : decide ((most : Int) < k) = false := decide_eq_false k1
      clear h hg hk
      unfold Tk
      go_enter Try.func50, Try.ntmps50
      go_wp2_with (go_at_call 48; (with_reducible refine C1.out.mono ?_); rintro E w1 ⟨rfl, hb, hr⟩; have HB := Lib.hid hb; have HR := Lib.hid hr; clear hb hr)
      go_ret
      exact .inl ⟨k, r, HG.out, rfl, HB.out, HR.out⟩
/-- A result that is an id lies in a box. -/
theorem id_result {fn : Func} {p : Tmp} (h : fn.results = #[.cell p 23]) (tmps : Array Value) {W : World} {b : Nat} {x y : Int} (hp : tmps.getD p undef = .pointer (some ⟨b, 0, none⟩)) (c0 : W.cell? ⟨b, 0, none⟩ = some (.int .i64 x)) (c1 : W.cell? ⟨b, 1, none⟩ = some (.int .i64 y)) :
    (results fn tmps).run Try.prog W = .ok (.agg #[.int .i64 x, .int .i64 y]) W := by
  have e : (results fn tmps).run Try.prog W = ((asAddr (tmps.getD p undef)).run Try.prog W).andThen fun a w₁ => (loadVar 23 a).run Try.prog w₁ := by
    simp only [results, h]
    simp [Sem.run_bind, Result.andThen]
  rw [e, hp]
  go_simp
set_option maxHeartbeats 4000000 in
set_option maxRecDepth 100000 in
theorem takeid_any (w : World) (g : Nat) (zs : List UInt8) (W : World) (h : Rd w g zs W) : Calls Try.prog 49 #[numF g] W (Tk w g (gid zs) (fun x : Idn => .agg #[.int .i64 x.1, .int .i64 x.2]) W) := by
  have hg := h.lt
  have R0 := Lib.hid (h.alloc (.cells #[.int .i64 0, .int .i64 0] 23))
  have B0 := Lib.hid (gb_alloc (gb_refl W (some g)) (.cells #[.int .i64 0, .int .i64 0] 23))
  have hgW : Hid (g ≠ W.heap.size) := Lib.hid (by omega)
  have hWW : Hid (W.heap.size < (W.alloc (.cells #[.int .i64 0, .int .i64 0] 23)).heap.size) := Lib.hid (by simp)
  have hwW := Lib.hid h.below.size
  have D0 := Lib.hid (Duo.new W (.int .i64 0) (.int .i64 0) 23)
  cases h1 : gnum zs with
  | error e =>
    have HG : Hid (gid zs = .error e) := Lib.hid (by unfold gid; rw [h1])
    have C1 := Lib.hid ((number_any w g zs _ R0.out).mono fun E W' h => h.fell h1)
    clear h h1 hg
    unfold Tk
    go_enter Try.func49, Try.ntmps49
    go_wp2_with (go_at_call 48; (with_reducible refine C1.out.mono ?_); rintro E w1 ⟨he, rfl, hb⟩; have HE := Lib.hid he; have HB := Lib.hid hb; clear he hb)
    exact ⟨rfl, .inr ⟨e, HG.out, HE.out, rfl, HB.out⟩⟩
  | ok v =>
    obtain ⟨a, r1⟩ := v
    have C1 := Lib.hid ((number_any w g zs _ R0.out).mono fun E W' h => h.took h1)
    cases h2 : gnum r1 with
    | error e =>
      have HG : Hid (gid zs = .error e) := Lib.hid (by unfold gid; rw [h1]; simp only []; rw [h2])
      have C2 := Lib.hid (fun W1 (hr : Rd w g r1 W1) => (number_any w g r1 W1 hr).mono fun E W' h => h.fell h2)
      clear h h1 h2 hg
      unfold Tk
      go_enter Try.func49, Try.ntmps49
      go_wp2_with (first
        | (go_at_call 48; (with_reducible refine C1.out.mono ?_); rintro E w1 ⟨rfl, hb, hr⟩; have C3 := Lib.hid (C2.out _ hr); clear hb hr)
        | (go_at_call 48; (with_reducible refine C3.out.mono ?_); rintro E w2 ⟨he, rfl, hb⟩; have HE := Lib.hid he; have HB := Lib.hid hb; clear he hb))
      exact ⟨rfl, .inr ⟨e, HG.out, HE.out, rfl, HB.out⟩⟩
    | ok v =>
      obtain ⟨b, r2⟩ := v
      have HG : Hid (gid zs = .ok (((a : Int), (b : Int)), r2)) := Lib.hid (by unfold gid; rw [h1]; simp only []; rw [h2])
      have C2 := Lib.hid (fun W1 (hr : Rd w g r1 W1) => (number_any w g r1 W1 hr).mono fun E W' h => h.took h2)
      clear h h1 h2 hg
      unfold Tk
      go_enter Try.func49, Try.ntmps49
      go_wp2_with (first
        | (go_at_call 48; (with_reducible refine C1.out.mono ?_); rintro E w1 ⟨rfl, hb, hr⟩; have C3 := Lib.hid (C2.out _ hr); have B1 := Lib.hid (gb_trans B0.out hb); have P1 := Lib.hid hb; clear hb hr)
        | (go_at_call 48; (with_reducible refine C3.out.mono ?_); rintro E w2 ⟨rfl, hb, hr⟩; have B2 := Lib.hid (gb_trans B1.out hb); have D2 := Lib.hid (D0.out.gb (gb_trans P1.out hb) hgW.out.symm); have R2 := Lib.hid hr; obtain ⟨x0, x1, x2, x3⟩ := D2.out.cells; clear hb hr))
      obtain ⟨x0, x1, -, -⟩ := ((D2.out.set0 (.int .i64 (a : Int))).set1 (.int .i64 (b : Int))).cells
      exact bodyPost_ret (id_result rfl _ rfl x0 x1) rfl (.inl ⟨((a : Int), (b : Int)), r2, HG.out, rfl, gb_far (gb_far B2.out (Nat.le_refl _) _ _) (Nat.le_refl _) _ _, (R2.out.far hgW.out hwW.out _ _).far hgW.out hwW.out _ _⟩)
end Go.Proofs.Ytapjjeffegnflaa.Cod

/- Part: What a reader (layer 11, codec) takes: a command; what is wrong is given up by a panic. Conditions: the bytes lie in memory as their cells say, and are not more than 100000; the reader is a box of the call's own. -/
namespace Go.Proofs.Ytapjjeffegnflaa.Cod
open Go.RowKit F64 Cmd Bat Ids Rec Wir Dig
set_option linter.unusedVariables false
set_option linter.unusedSimpArgs false

/-- The command's box, the result's, the reader. -/
structure Cs (w W0 : World) (g : Nat) (ys : List UInt8) (k s z : Value) (W : World) : Prop where
  src : Rd w g ys W
  box : Tri (W0.heap.size + 1) k s z 59 W
  res : Tri W0.heap.size (.int .i64 0) (.string ⟨#[]⟩) (.float .f64 0) 59 W
  gb : W0.grownBy W (some g)
  low : g < W0.heap.size
  wl : w.heap.size ≤ W0.heap.size
abbrev zeroC : Obj := .cells #[.int .i64 0, .string ⟨#[]⟩, .float .f64 0] 59
section
variable {w W0 W : World} {g : Nat} {ys : List UInt8} {k s z : Value}
theorem Cs.start (h : Rd w g ys W0) : Cs w W0 g ys (.int .i64 0) (.string ⟨#[]⟩) (.float .f64 0) ((W0.alloc zeroC).alloc zeroC) := by
  have T := Tri.new (W0.alloc zeroC) (.int .i64 0) (.string ⟨#[]⟩) (.float .f64 0) 59
  have e : (W0.alloc zeroC).heap.size = W0.heap.size + 1 := by simp
  rw [e] at T
  exact ⟨(h.alloc _).alloc _, T, (Tri.new W0 _ _ _ _).alloc _, gb_alloc (gb_alloc (gb_refl _ _) _) _, h.lt, h.below.size⟩
theorem Cs.step (h : Cs w W0 g ys k s z W) {W' : World} {ys' : List UInt8} (hb : W.grownBy W' (some g)) (hr : Rd w g ys' W') : Cs w W0 g ys' k s z W' := by
  have := h.low
  exact ⟨hr, h.box.gb hb (by omega), h.res.gb hb (by omega), gb_trans h.gb hb, h.low, h.wl⟩
theorem Cs.put (h : Cs w W0 g ys k s z W) (i : Nat) (v : Value) {k' s' z' : Value} (hb : Tri (W0.heap.size + 1) k' s' z' 59 (W.setCell ⟨W0.heap.size + 1, i, none⟩ v)) : Cs w W0 g ys k' s' z' (W.setCell ⟨W0.heap.size + 1, i, none⟩ v) := by
  have h1 := h.low
  have h2 := h.wl
  exact ⟨h.src.far (by omega) (by omega) _ _, hb, h.res.far (by omega) _ _, gb_far h.gb (by omega) _ _, h.low, h.wl⟩
theorem Cs.put0 (h : Cs w W0 g ys k s z W) (v : Value) : Cs w W0 g ys v s z (W.setCell ⟨W0.heap.size + 1, 0, none⟩ v) := h.put 0 v (h.box.set0 v)
theorem Cs.put1 (h : Cs w W0 g ys k s z W) (v : Value) : Cs w W0 g ys k v z (W.setCell ⟨W0.heap.size + 1, 1, none⟩ v) := h.put 1 v (h.box.set1 v)
theorem Cs.put2 (h : Cs w W0 g ys k s z W) (v : Value) : Cs w W0 g ys k s v (W.setCell ⟨W0.heap.size + 1, 2, none⟩ v) := h.put 2 v (h.box.set2 v)
theorem Cs.facts (h : Cs w W0 g ys k s z W) : W.cell? ⟨W0.heap.size + 1, 0, none⟩ = some k ∧ W.cell? ⟨W0.heap.size + 1, 1, none⟩ = some s ∧ W.cell? ⟨W0.heap.size + 1, 2, none⟩ = some z ∧ W.frozen? ⟨W0.heap.size + 1, 0, none⟩ = false ∧ W.frozen? ⟨W0.heap.size + 1, 1, none⟩ = false ∧ W.frozen? ⟨W0.heap.size + 1, 2, none⟩ = false := h.box.cells
end
def CTk (w : World) (g : Nat) (zs : List UInt8) (W : World) (E : Ending) (W' : World) : Prop :=
  (∃ (k : Int) (s : List UInt8) (z : Nat) (ys : List UInt8), gcmd zs = .ok (cmdC (k, s, z), ys) ∧ E = .returned (.agg #[.int .i64 k, .string (str s), .float .f64 z]) ∧ z < 18446744073709551616 ∧ (hasV k = false → z = 0) ∧ W.grownBy W' (some g) ∧ Rd w g ys W') ∨ ∃ e : Nat, gcmd zs = .error e ∧ e ≠ 0 ∧ E = .panicked (panL e) ∧ Below w.heap.size w W'
theorem gcmd_kind (zs : List UInt8) : gcmd zs = match gkind zs with
    | .error e => .error e
    | .ok (k, r) => match gkey r with
      | .error e => .error e
      | .ok (s, r) => match gval k r with
        | .error e => .error e
        | .ok (f, r) => .ok (((k : Int), s, f), r) := by
  unfold gcmd gkind
  cases gnum zs with
  | error e => rfl
  | ok v => obtain ⟨k, r⟩ := v; simp only []; split <;> rfl
/-- The end: the result's box is written. -/
theorem Cs.fin {w W0 W : World} {g : Nat} {ys : List UInt8} {k s z : Value} (h : Cs w W0 g ys k s z W) :
    Tri W0.heap.size k s z 59 (((W.setCell ⟨W0.heap.size, 0, none⟩ k).setCell ⟨W0.heap.size, 1, none⟩ s).setCell ⟨W0.heap.size, 2, none⟩ z) ∧ W0.grownBy (((W.setCell ⟨W0.heap.size, 0, none⟩ k).setCell ⟨W0.heap.size, 1, none⟩ s).setCell ⟨W0.heap.size, 2, none⟩ z) (some g) ∧ Rd w g ys (((W.setCell ⟨W0.heap.size, 0, none⟩ k).setCell ⟨W0.heap.size, 1, none⟩ s).setCell ⟨W0.heap.size, 2, none⟩ z) := by
  have hne : g ≠ W0.heap.size := Nat.ne_of_lt h.low
  exact ⟨((h.res.set0 k).set1 s).set2 z, gb_far (gb_far (gb_far h.gb (Nat.le_refl _) _ _) (Nat.le_refl _) _ _) (Nat.le_refl _) _ _, ((h.src.far hne h.wl _ _).far hne h.wl _ _).far hne h.wl _ _⟩
set_option maxHeartbeats 4000000 in
set_option maxRecDepth 100000 in
theorem command_any (w : World) (g : Nat) (zs : List UInt8) (W : World) (h : Rd w g zs W) : Calls Try.prog 51 #[.pointer (some ⟨g, 0, none⟩)] W (CTk w g zs W) := by
  have S0 := Lib.hid (Cs.start h)
  have HG := Lib.hid (gcmd_kind zs)
  have KD := Lib.hid (fun zs W h => kind_any w g zs W h)
  have KK := Lib.hid (fun zs W h => rkey_any w g zs W h)
  have KV := Lib.hid (fun zs W h => value_any w g zs W h)
  have KH := Lib.hid (fun k W => hasbits_any k W)
  clear h
  unfold zeroC at S0
  cases h1 : gkind zs with
  | error e =>
    have HG : Hid (gcmd zs = .error e) := Lib.hid (by rw [HG.out, h1])
    have C1 := Lib.hid ((KD.out zs _ S0.out.src).mono fun E W' h => h.fell h1)
    clear h1 KD KK KV KH
    unfold CTk
    go_enter Try.func51, Try.ntmps51
    go_wp2_with (go_at_call 70; (with_reducible refine C1.out.mono ?_); rintro E w1 ⟨he, rfl, hb⟩; have HE := Lib.hid he; have HB := Lib.hid hb; clear he hb)
    exact ⟨rfl, .inr ⟨e, HG.out, HE.out, rfl, HB.out⟩⟩
  | ok v =>
    obtain ⟨k, r1⟩ := v
    have C1 := Lib.hid ((KD.out zs _ S0.out.src).mono fun E W' h => h.took h1)
    have hk : k = 1 ∨ k = 2 ∨ k = 3 ∨ k = 4 := by
      unfold gkind at h1
      split at h1
      · cases h1
      · split at h1
        · cases h1
        · injection h1 with h1; injection h1 with h2 h3; omega
    rw [h1] at HG
    cases h2 : gkey r1 with
    | error e =>
      have HG : Hid (gcmd zs = .error e) := Lib.hid (by rw [HG.out]; simp only []; rw [h2])
      have C2 := Lib.hid (fun W hr => (KK.out r1 W hr).mono fun E W' h => h.fell h2)
      clear h1 h2 hk KD KK KV KH
      unfold CTk
      go_enter Try.func51, Try.ntmps51
      go_wp2_with (first
        | (go_at_call 70; (with_reducible refine C1.out.mono ?_); rintro E w1 ⟨rfl, hb, hr⟩; have S1 := Lib.hid (S0.out.step hb hr); have S2 := Lib.hid (S1.out.put0 (.int .i64 (k : Int))); obtain ⟨x0, x1, x2, z0, z1, z2⟩ := S1.out.facts; clear hb hr)
        | (go_at_call 71; (with_reducible refine (C2.out _ S2.out.src).mono ?_); rintro E w2 ⟨he, rfl, hb⟩; have HE := Lib.hid he; have HB := Lib.hid hb; clear he hb))
      exact ⟨rfl, .inr ⟨e, HG.out, HE.out, rfl, HB.out⟩⟩
    | ok v =>
      obtain ⟨s, r2⟩ := v
      have C2 := Lib.hid (fun W hr => (KK.out r1 W hr).mono fun E W' h => h.took h2)
      rw [show (gcmd zs = match (Except.ok (k, r1) : Except Nat (Nat × List UInt8)) with
        | .error e => .error e
        | .ok (k, r) => match gkey r with
          | .error e => .error e
          | .ok (s, r) => match gval k r with
            | .error e => .error e
            | .ok (f, r) => .ok (((k : Int), s, f), r)) = (gcmd zs = match gval k r2 with
            | .error e => .error e
            | .ok (f, r) => .ok (((k : Int), s, f), r)) by simp only []; rw [h2]] at HG
      by_cases hv : k = 2 ∨ k = 4
      · have hvt : hasV (k : Int) = true := by rw [hasV_nat]; exact decide_eq_true hv
        have KH := Lib.hid (fun W => KH.out (k : Int) W)
        rw [hvt] at KH
        rw [show gval k r2 = gflt r2 from if_pos hv] at HG
        cases h3 : gflt r2 with
        | error e =>
          have HG : Hid (gcmd zs = .error e) := Lib.hid (by rw [HG.out, h3])
          have C3 := Lib.hid (fun W hr => (KV.out r2 W hr).mono fun E W' h => h.fell h3)
          clear h1 h2 h3 hk hv hvt KD KK KV
          unfold CTk
          go_enter Try.func51, Try.ntmps51
          go_wp2_with (first
            | (go_at_call 70; (with_reducible refine C1.out.mono ?_); rintro E w1 ⟨rfl, hb, hr⟩; have S1 := Lib.hid (S0.out.step hb hr); have S2 := Lib.hid (S1.out.put0 (.int .i64 (k : Int))); obtain ⟨x0, x1, x2, z0, z1, z2⟩ := S1.out.facts; clear hb hr)
            | (go_at_call 71; (with_reducible refine (C2.out _ S2.out.src).mono ?_); rintro E w2 ⟨rfl, hb, hr⟩; have S3 := Lib.hid (S2.out.step hb hr); have S4 := Lib.hid (S3.out.put1 (.string (str s))); obtain ⟨y0, y1, y2, v0, v1, v2⟩ := S3.out.facts; clear hb hr)
            | (go_at_call 64; (with_reducible refine (KH.out _).mono ?_); rintro E w3 ⟨rfl, rfl⟩)
            | (go_at_call 72; (with_reducible refine (C3.out _ S4.out.src).mono ?_); rintro E w4 ⟨he, rfl, hb⟩; have HE := Lib.hid he; have HB := Lib.hid hb; clear he hb))
          exact ⟨rfl, .inr ⟨e, HG.out, HE.out, rfl, HB.out⟩⟩
        | ok v =>
          obtain ⟨f, r3⟩ := v
          have hf := gflt_out h3
          have hcf : cmdC ((k : Int), s, f) = ((k : Int), s, f) := by unfold cmdC; simp only []; rw [hvt, if_pos rfl, hf.2.1]
          have HG : Hid (gcmd zs = .ok (cmdC ((k : Int), s, f), r3)) := Lib.hid (by rw [HG.out, h3, hcf])
          have HF := Lib.hid hf.2.2
          have HH : Hid (hasV (k : Int) = false → f = 0) := Lib.hid (fun h => absurd (hvt.symm.trans h) (by decide))
          have C3 := Lib.hid (fun W hr => (KV.out r2 W hr).mono fun E W' h => h.took h3)
          clear h1 h2 h3 hk hv hvt KD KK KV hf hcf
          unfold CTk
          go_enter Try.func51, Try.ntmps51
          go_wp2_with (first
            | (go_at_call 70; (with_reducible refine C1.out.mono ?_); rintro E w1 ⟨rfl, hb, hr⟩; have S1 := Lib.hid (S0.out.step hb hr); have S2 := Lib.hid (S1.out.put0 (.int .i64 (k : Int))); obtain ⟨x0, x1, x2, z0, z1, z2⟩ := S1.out.facts; clear hb hr)
            | (go_at_call 71; (with_reducible refine (C2.out _ S2.out.src).mono ?_); rintro E w2 ⟨rfl, hb, hr⟩; have S3 := Lib.hid (S2.out.step hb hr); have S4 := Lib.hid (S3.out.put1 (.string (str s))); obtain ⟨y0, y1, y2, v0, v1, v2⟩ := S3.out.facts; clear hb hr)
            | (go_at_call 64; (with_reducible refine (KH.out _).mono ?_); rintro E w3 ⟨rfl, rfl⟩)
            | (go_at_call 72; (with_reducible refine (C3.out _ S4.out.src).mono ?_); rintro E w4 ⟨rfl, hb, hr⟩; have S5 := Lib.hid (S4.out.step hb hr); have S6 := Lib.hid (S5.out.put2 (.float .f64 f)); obtain ⟨p0, p1, p2, q0, q1, q2⟩ := S5.out.facts; obtain ⟨a0, a1, a2, b0, b1, b2⟩ := S5.out.res.cells; clear hb hr))
          have F := S6.out.fin
          exact bodyPost_ret (cmd_result rfl _ rfl F.1) rfl (.inl ⟨(k : Int), s, f, r3, HG.out, rfl, HF.out, HH.out, F.2.1, F.2.2⟩)
      · have hvt : hasV (k : Int) = false := by rw [hasV_nat]; exact decide_eq_false hv
        have KH := Lib.hid (fun W => KH.out (k : Int) W)
        rw [hvt] at KH
        rw [show gval k r2 = .ok (0, r2) from if_neg hv] at HG
        have hcf : cmdC ((k : Int), s, 0) = ((k : Int), s, 0) := by unfold cmdC; simp only []; rw [hvt]; rfl
        have HG : Hid (gcmd zs = .ok (cmdC ((k : Int), s, 0), r2)) := Lib.hid (by rw [HG.out, hcf])
        clear h1 h2 hk hv hvt KD KK KV hcf
        unfold CTk
        go_enter Try.func51, Try.ntmps51
        go_wp2_with (first
          | (go_at_call 70; (with_reducible refine C1.out.mono ?_); rintro E w1 ⟨rfl, hb, hr⟩; have S1 := Lib.hid (S0.out.step hb hr); have S2 := Lib.hid (S1.out.put0 (.int .i64 (k : Int))); obtain ⟨x0, x1, x2, z0, z1, z2⟩ := S1.out.facts; clear hb hr)
          | (go_at_call 71; (with_reducible refine (C2.out _ S2.out.src).mono ?_); rintro E w2 ⟨rfl, hb, hr⟩; have S3 := Lib.hid (S2.out.step hb hr); have S4 := Lib.hid (S3.out.put1 (.string (str s))); obtain ⟨y0, y1, y2, v0, v1, v2⟩ := S3.out.facts; obtain ⟨a0, a1, a2, b0, b1, b2⟩ := S3.out.res.cells; clear hb hr)
          | (go_at_call 64; (with_reducible refine (KH.out _).mono ?_); rintro E w3 ⟨rfl, rfl⟩))
        have F := S4.out.fin
        exact bodyPost_ret (cmd_result rfl _ rfl F.1) rfl (.inl ⟨(k : Int), s, 0, r2, HG.out, rfl, by decide, fun _ => rfl, F.2.1, F.2.2⟩)
end Go.Proofs.Ytapjjeffegnflaa.Cod
