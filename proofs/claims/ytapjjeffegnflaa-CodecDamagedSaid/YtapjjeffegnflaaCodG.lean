/- What the document's source of bytes (layer 11, codec) gives: a number, a key, a number's bits, a command. Conditions: the bytes lie in memory as their cells say; the source is a box of the call's own. -/
import Derived.Test.YtapjjeffegnflaaCodE
import Derived.Test.YtapjjeffegnflaaCodF
import Derived.Test.YtapjjeffegnflaaDigG

/- Part: What the document's source of bytes (layer 11, codec) gives, step by step: a number, a key, a number's bits. Conditions: the bytes lie in memory as their cells say; the source is a box of the call's own. -/
namespace Go.Proofs.Ytapjjeffegnflaa.Cod
open Go.RowKit F64 Cmd Bat Ids Rec Wir Dig
set_option linter.unusedVariables false

/-! ### Nothing has turned but one block -/
theorem gb_refl (w : World) (r : Option Nat) : w.grownBy w r := ⟨rfl, rfl, rfl, Nat.le_refl _, fun _ _ _ => rfl⟩
theorem gb_set {a w : World} {g : Nat} (h : a.grownBy w (some g)) (i : Nat) (v : Value) : a.grownBy (w.setCell ⟨g, i, none⟩ v) (some g) := by
  obtain ⟨h1, h2, h3, h4, h5⟩ := h
  exact ⟨h1, h2, h3, by rw [Cmd.size_sc]; exact h4, fun k hk hne => (Below.heap_setCell w ⟨g, i, none⟩ v k (fun e => hne (by rw [e]))).trans (h5 k hk hne)⟩
theorem gb_drew {a w : World} {r : Option Nat} (h : a.grownBy w r) (q : Nat) : a.grownBy (w.drewN q) r := by
  obtain ⟨h1, h2, h3, h4, h5⟩ := h
  exact ⟨h1, h2, h3, h4, h5⟩
theorem gb_trans {a b c : World} {g : Nat} (h : a.grownBy b (some g)) (k : b.grownBy c (some g)) : a.grownBy c (some g) := by
  obtain ⟨h1, h2, h3, h4, h5⟩ := h
  obtain ⟨k1, k2, k3, k4, k5⟩ := k
  exact ⟨k1.trans h1, k2.trans h2, k3.trans h3, Nat.le_trans h4 k4, fun j hj hne => (k5 j (Nat.lt_of_lt_of_le hj h4) hne).trans (h5 j hj hne)⟩
theorem gb_below {B : Nat} {a w w' : World} {g : Nat} (h : Below B a w) (k : w.grownBy w' (some g)) (hB : B ≤ w.heap.size) (hg : B ≤ g) : Below B a w' := Below.grown h k hB (fun j hj => by injection hj with hj; omega)

/-! ### A source: its rest, its error -/
structure Src (w : World) (g : Nat) (zs : List UInt8) (e : Int) (W : World) : Prop where
  below : Below w.heap.size w W
  own : w.heap.size ≤ g
  lt : g < W.heap.size
  row : ∃ (p : Option Addr) (cap : Nat), W.cell? ⟨g, 0, none⟩ = some (.slice p zs.length cap) ∧ layB.Row w (.slice p zs.length cap) zs
  err : W.cell? ⟨g, 1, none⟩ = some (.int .i64 e)
  f0 : W.frozen? ⟨g, 0, none⟩ = false
  f1 : W.frozen? ⟨g, 1, none⟩ = false
theorem Src.on {w W W' : World} {g : Nat} {zs : List UInt8} {e : Int} (h : Src w g zs e W) (hb : Below W.heap.size W W') : Src w g zs e W' := by
  obtain ⟨h1, h2, h3, ⟨p, cap, h4, h5⟩, h6, h7, h8⟩ := h
  exact ⟨h1.trans (hb.mono h1.size), h2, Nat.lt_of_lt_of_le h3 hb.size, ⟨p, cap, (hb.cell (p := ⟨g, 0, none⟩) h3).trans h4, h5⟩, (hb.cell (p := ⟨g, 1, none⟩) h3).trans h6, (hb.frozen (p := ⟨g, 0, none⟩) h3).trans h7, (hb.frozen (p := ⟨g, 1, none⟩) h3).trans h8⟩
theorem Src.drew {w W : World} {g : Nat} {zs : List UInt8} {e : Int} (h : Src w g zs e W) (q : Nat) : Src w g zs e (W.drewN q) := h.on (Bat.below_draws W q)
theorem cell_set_same {W : World} {a : Addr} {u : Value} (h : W.cell? a = some u) (v : Value) : (W.setCell a v).cell? a = some v := World.cell?_setCell_same' W a v (by rw [h]; rfl)
theorem Src.fail {w W : World} {g : Nat} {zs : List UInt8} {e : Int} (h : Src w g zs e W) (e' : Int) : Src w g zs e' (W.setCell ⟨g, 1, none⟩ (.int .i64 e')) := by
  obtain ⟨h1, h2, h3, ⟨p, cap, h4, h5⟩, h6, h7, h8⟩ := h
  refine ⟨h1.setCell h2 _, h2, by rw [Cmd.size_sc]; exact h3, ⟨p, cap, ?_, h5⟩, cell_set_same h6 _, ?_, ?_⟩
  · rw [World.cell?_setCell_other]; exact h4; simp
  · rw [World.frozen?_setCell]; exact h7
  · rw [World.frozen?_setCell]; exact h8
theorem Src.cut {w W : World} {g : Nat} {zs : List UInt8} {e : Int} (h : Src w g zs e W) {p : Option Addr} {n cap : Nat} {ys : List UInt8} (hn : n = ys.length) (hr : layB.Row w (.slice p n cap) ys) : Src w g ys e (W.setCell ⟨g, 0, none⟩ (.slice p n cap)) := by
  subst hn
  obtain ⟨h1, h2, h3, ⟨p', cap', h4, h5⟩, h6, h7, h8⟩ := h
  refine ⟨h1.setCell h2 _, h2, by rw [Cmd.size_sc]; exact h3, ⟨p, cap, cell_set_same h4 _, hr⟩, ?_, ?_, ?_⟩
  · rw [World.cell?_setCell_other]; exact h6; simp
  · rw [World.frozen?_setCell]; exact h7
  · rw [World.frozen?_setCell]; exact h8

/-! ### A number -/
def Took {α : Type} (w : World) (g : Nat) (r : Except Nat (α × List UInt8)) (V : α → Value) (z : Value) (W : World) (E : Ending) (W' : World) : Prop :=
  W.grownBy W' (some g) ∧ ((∃ x ys, r = .ok (x, ys) ∧ E = .returned (V x) ∧ Src w g ys 0 W') ∨ ∃ (e : Nat) (ys : List UInt8), r = .error e ∧ e ≠ 0 ∧ E = .returned z ∧ Src w g ys e W')
theorem gnum_bad {zs : List UInt8} {n j e : Nat} (h : rd zs 0 0 = (n, j, e)) (he : e ≠ 0) : gnum zs = .error e := by unfold gnum; rw [h]; exact if_pos he
theorem gnum_big {zs : List UInt8} {n j : Nat} (h : rd zs 0 0 = (n, j, 0)) (hn : 1073741824 < n) : gnum zs = .error 20 := by unfold gnum; rw [h]; simp only []; rw [if_neg (by omega), if_pos hn]
theorem gnum_ok {zs : List UInt8} {n j : Nat} (h : rd zs 0 0 = (n, j, 0)) (hn : ¬ 1073741824 < n) : gnum zs = .ok (n, zs.drop j) := by unfold gnum; rw [h]; simp only []; rw [if_neg (by omega), if_neg hn]
set_option maxHeartbeats 4000000 in
set_option maxRecDepth 100000 in
theorem num_ok (w : World) (g : Nat) (zs : List UInt8) (W : World) (h : Src w g zs 0 W) : Calls Try.prog 31 #[.pointer (some ⟨g, 0, none⟩)] W (Took w g (gnum zs) (fun n => .int .i64 (n : Nat)) (.int .i64 0) W) := by
  have hS := Lib.hid h
  obtain ⟨h1, h2, h3, ⟨p, cap, c0, hr⟩, c1, f0, f1⟩ := h
  obtain ⟨n, j, e, hrd⟩ : ∃ n j e, rd zs 0 0 = (n, j, e) := ⟨_, _, _, rfl⟩
  have hi := rd_is zs 0 0 n j e hrd (by decide) (by decide)
  have CR := Lib.hid (read_any _ zs W (hr.on h1))
  rw [hrd] at CR
  have G1 := Lib.hid (fun he => gnum_bad hrd he)
  have G2 := Lib.hid (fun (he : e = 0) hn => gnum_big (zs := zs) (n := n) (j := j) (by rw [hrd, he]) hn)
  have G3 := Lib.hid (fun (he : e = 0) hn => gnum_ok (zs := zs) (n := n) (j := j) (by rw [hrd, he]) hn)
  have hrow := hr
  obtain ⟨pp, cc, ee, g1, g2, -⟩ := hr
  injection ee with e1 e2 e3
  subst e1 e3
  unfold ret3 at CR
  clear hrd
  have HRow := Lib.hid hrow
  have HB0 := Lib.hid (gb_refl W (some g))
  obtain ⟨L, hL⟩ : ∃ L, zs.length = L := ⟨_, rfl⟩
  have HLL := Lib.hid hL
  rw [hL] at c0 CR HRow g1
  clear hrow
  rcases hi with ⟨rfl, j1, j2, n1⟩ | ⟨he, rfl, rfl⟩
  · have hj : j ≤ L := by omega
    have hn1 : (n : Int) < 18446744073709551616 := by omega
    by_cases hn : 1073741824 < n
    · have HG := Lib.hid (G2.out rfl hn)
      have hn' : (1073741824 : Int) < n := by omega
      clear h1 h2 h3 j1 j2 n1 hn hL
      go_enter Try.func31, Try.ntmps31
      go_wp2_with (go_at_call 54; (with_reducible refine CR.out.mono ?_); rintro e w1 ⟨rfl, rfl⟩)
      go_ret
      refine ⟨?_, .inr ⟨20, zs, HG.out, by decide, rfl, ?_⟩⟩
      · first | exact gb_set (gb_set HB0.out _ _) _ _ | exact gb_set HB0.out _ _
      · first | exact (hS.out.fail 0).fail 20 | exact hS.out.fail 20
    · have HG := Lib.hid (G3.out rfl hn)
      have hn' : ¬ (1073741824 : Int) < n := by omega
      have hr2 := row_cut HRow.out j L cap (by omega) (by rw [HLL.out]; exact Nat.le_refl _) g1 g2
      rw [show zs.take L = zs by rw [← HLL.out, List.take_length]] at hr2
      have HR2 := Lib.hid hr2
      have hcut := fun w => cut_from p L cap j hj w
      have hl2 : Hid (L - j = (zs.drop j).length) := Lib.hid (by rw [List.length_drop, HLL.out])
      generalize cutq p j cap = p' at hcut HR2
      generalize L - j = n' at hcut HR2 hl2
      generalize cap - j = c' at hcut HR2
      have n0 : (0 : Int) ≤ n := by omega
      have wn : IntKind.i64.wrap (n : Int) = n := IntWalk.i64_in _ (by omega)
      obtain ⟨N, hN⟩ : ∃ N : Int, (n : Int) = N := ⟨_, rfl⟩
      have HN := Lib.hid hN
      rw [hN] at CR hn1 hn' n0 wn
      clear h1 h2 h3 j1 j2 n1 hn hL hr2 hN
      go_enter Try.func31, Try.ntmps31
      go_wp2_with (go_at_call 54; (with_reducible refine CR.out.mono ?_); rintro e w1 ⟨rfl, rfl⟩)
      go_ret
      refine ⟨?_, .inl ⟨n, _, HG.out, by show _ = Ending.returned (.int .i64 ((n : Nat) : Int)); rw [HN.out]; rfl, ?_⟩⟩
      · exact gb_set (gb_set HB0.out _ _) _ _
      · exact (hS.out.fail 0).cut hl2.out HR2.out
  · have HG := Lib.hid (G1.out (by omega))
    have hne : (e : Int) ≠ 0 := by omega
    have hne2 : ((e : Int) == 0) = false := by rw [beq_eq_false_iff_ne]; exact hne
    have hne3 : ((e : Int) != 0) = true := by rw [bne_iff_ne]; exact hne
    have he0 : e ≠ 0 := by omega
    clear h1 h2 h3 he hL
    go_enter Try.func31, Try.ntmps31
    go_wp2_with (go_at_call 54; (with_reducible refine CR.out.mono ?_); rintro e w1 ⟨rfl, rfl⟩)
    go_ret
    exact ⟨gb_set HB0.out _ _, .inr ⟨e, zs, HG.out, he0, rfl, hS.out.fail e⟩⟩

/-! ### Behind an error nothing is taken -/
set_option maxRecDepth 100000 in
theorem num_no (g : Nat) (e : Int) (W : World) (c1 : W.cell? ⟨g, 1, none⟩ = some (.int .i64 e)) (he : e ≠ 0) : Calls Try.prog 31 #[.pointer (some ⟨g, 0, none⟩)] W fun E W' => E = .returned (.int .i64 0) ∧ W = W' := by
  have hne3 : ((e : Int) != 0) = true := by rw [bne_iff_ne]; exact he
  go_enter Try.func31, Try.ntmps31
  go_wp2_with fail
  go_ret
  exact ⟨rfl, rfl⟩
set_option maxRecDepth 100000 in
theorem key_no (g : Nat) (e : Int) (W : World) (c1 : W.cell? ⟨g, 1, none⟩ = some (.int .i64 e)) (he : e ≠ 0) : Calls Try.prog 55 #[.pointer (some ⟨g, 0, none⟩)] W fun E W' => E = .returned (.string (str [])) ∧ W = W' := by
  have hne3 : ((e : Int) != 0) = true := by rw [bne_iff_ne]; exact he
  go_enter Try.func55, Try.ntmps55
  go_wp2_with fail
  go_ret
  exact ⟨rfl, rfl⟩
set_option maxRecDepth 100000 in
theorem flt_no (g : Nat) (e : Int) (W : World) (c1 : W.cell? ⟨g, 1, none⟩ = some (.int .i64 e)) (he : e ≠ 0) : Calls Try.prog 56 #[.pointer (some ⟨g, 0, none⟩)] W fun E W' => E = .returned (.float .f64 0) ∧ W = W' := by
  have hne3 : ((e : Int) != 0) = true := by rw [bne_iff_ne]; exact he
  have hne2 : ((e : Int) == 0) = false := by rw [beq_eq_false_iff_ne]; exact he
  go_enter Try.func56, Try.ntmps56
  go_wp2_with fail
  go_ret
  exact ⟨rfl, rfl⟩

/-! ### A key -/
theorem gkey_bad {zs : List UInt8} {n j e : Nat} (h : rd zs 0 0 = (n, j, e)) (he : e ≠ 0) : gkey zs = .error e := by unfold gkey; rw [h]; exact if_pos he
theorem gkey_long {zs : List UInt8} {n j : Nat} (h : rd zs 0 0 = (n, j, 0)) (hn : 12 < n) : gkey zs = .error 18 := by unfold gkey; rw [h]; simp only []; rw [if_neg (by omega), if_pos hn]
theorem gkey_end {zs : List UInt8} {n j : Nat} (h : rd zs 0 0 = (n, j, 0)) (hn : ¬ 12 < n) (hl : zs.length - j < n) : gkey zs = .error 4 := by unfold gkey; rw [h]; simp only []; rw [if_neg (by omega), if_neg hn, if_pos hl]
theorem gkey_ok {zs : List UInt8} {n j : Nat} (h : rd zs 0 0 = (n, j, 0)) (hn : ¬ 12 < n) (hl : ¬ zs.length - j < n) : gkey zs = .ok ((zs.take (j + n)).drop j, zs.drop (j + n)) := by unfold gkey; rw [h]; simp only []; rw [if_neg (by omega), if_neg hn, if_neg hl]
set_option maxHeartbeats 4000000 in
set_option maxRecDepth 100000 in
theorem key_ok (w : World) (g : Nat) (zs : List UInt8) (W : World) (h : Src w g zs 0 W) : Calls Try.prog 55 #[.pointer (some ⟨g, 0, none⟩)] W (Took w g (gkey zs) (fun s => .string (str s)) (.string (str [])) W) := by
  have hS := Lib.hid h
  obtain ⟨h1, h2, h3, ⟨p, cap, c0, hr⟩, c1, f0, f1⟩ := h
  obtain ⟨n, j, e, hrd⟩ : ∃ n j e, rd zs 0 0 = (n, j, e) := ⟨_, _, _, rfl⟩
  have hi := rd_is zs 0 0 n j e hrd (by decide) (by decide)
  have CR := Lib.hid (read_any _ zs W (hr.on h1))
  rw [hrd] at CR
  have G1 := Lib.hid (fun he => gkey_bad hrd he)
  have G2 := Lib.hid (fun (he : e = 0) hn => gkey_long (zs := zs) (n := n) (j := j) (by rw [hrd, he]) hn)
  have G3 := Lib.hid (fun (he : e = 0) hn hl => gkey_end (zs := zs) (n := n) (j := j) (by rw [hrd, he]) hn hl)
  have G4 := Lib.hid (fun (he : e = 0) hn hl => gkey_ok (zs := zs) (n := n) (j := j) (by rw [hrd, he]) hn hl)
  have hrow := hr
  obtain ⟨pp, cc, ee, g1, g2, -⟩ := hr
  injection ee with e1 e2 e3
  subst e1 e3
  unfold ret3 at CR
  clear hrd
  have HRow := Lib.hid hrow
  have HB0 := Lib.hid (gb_refl W (some g))
  obtain ⟨L, hL⟩ : ∃ L, zs.length = L := ⟨_, rfl⟩
  have HLL := Lib.hid hL
  rw [hL] at c0 CR HRow g1 G3 G4
  have H1 := Lib.hid h1
  clear hrow
  rcases hi with ⟨rfl, j1, j2, n1⟩ | ⟨he, rfl, rfl⟩
  · have hj : j ≤ L := by omega
    have hn1 : (n : Int) < 18446744073709551616 := by omega
    have n0 : (0 : Int) ≤ n := by omega
    have hL1 : (L : Int) ≤ 9223372036854775807 := by omega
    have hj1 : (j : Int) ≤ L := by omega
    by_cases hn : 12 < n
    · have HG := Lib.hid (G2.out rfl hn)
      have hn' : (12 : Int) < n := by omega
      obtain ⟨N, hN⟩ : ∃ N : Int, (n : Int) = N := ⟨_, rfl⟩
      rw [hN] at CR hn1 hn' n0
      clear h1 h2 h3 j1 j2 n1 hn hL hN hj
      go_enter Try.func55, Try.ntmps55
      go_wp2_with (go_at_call 54; (with_reducible refine CR.out.mono ?_); rintro e w1 ⟨rfl, rfl⟩)
      go_ret
      refine ⟨?_, .inr ⟨18, zs, HG.out, by decide, rfl, ?_⟩⟩
      · first | exact gb_set (gb_set HB0.out _ _) _ _ | exact gb_set HB0.out _ _
      · first | exact (hS.out.fail 0).fail 18 | exact hS.out.fail 18
    · have hn' : ¬ (12 : Int) < n := by omega
      have wn : IntKind.i64.wrap (n : Int) = n := IntWalk.i64_in _ (by omega)
      by_cases hl : L - j < n
      · have HG := Lib.hid (G3.out rfl hn hl)
        have hl' : (L : Int) - j < n := by omega
        obtain ⟨N, hN⟩ : ∃ N : Int, (n : Int) = N := ⟨_, rfl⟩
        rw [hN] at CR hn1 hn' n0 wn hl'
        clear h1 h2 h3 j1 j2 n1 hn hL hN hj hl
        go_enter Try.func55, Try.ntmps55
        go_wp2_with (go_at_call 54; (with_reducible refine CR.out.mono ?_); rintro e w1 ⟨rfl, rfl⟩)
        go_ret
        refine ⟨?_, .inr ⟨4, zs, HG.out, by decide, rfl, ?_⟩⟩
        · first | exact gb_set (gb_set HB0.out _ _) _ _ | exact gb_set HB0.out _ _
        · first | exact (hS.out.fail 0).fail 4 | exact hS.out.fail 4
      · have HG := Lib.hid (G4.out rfl hn hl)
        have hl' : ¬ (L : Int) - j < n := by omega
        have hcutb := fun w => cut_both p L cap j (j + n) (by omega) (by omega) w
        have hrb := row_cut HRow.out j (j + n) cap (by omega) (by rw [HLL.out]; omega) (by omega) g2
        have htx := Lib.hid (fun W' (hb : Below w.heap.size w W') => text_run (hrb.on hb))
        have hcut := fun w => cut_from p L cap (j + n) (by omega) w
        have hr2 := row_cut HRow.out (j + n) L cap (by omega) (by rw [HLL.out]; exact Nat.le_refl _) g1 g2
        rw [show zs.take L = zs by rw [← HLL.out, List.take_length]] at hr2
        have HR2 := Lib.hid hr2
        have hl2 : Hid (L - (j + n) = (zs.drop (j + n)).length) := Lib.hid (by rw [List.length_drop, HLL.out])
        rw [show (((j + n : Nat) : Int)) = (j : Int) + n by omega] at hcutb
        simp only [show (((j + n : Nat) : Int)) = (j : Int) + n by omega] at hcut
        have D1 := Lib.hid (h1.setCell h2 (Value.int .i64 0) (p := ⟨g, 1, none⟩))
        generalize cutq p (j + n) cap = p' at hcut HR2
        generalize L - (j + n) = n' at hcut HR2 hl2
        generalize cap - (j + n) = c' at hcut HR2
        generalize cutq p j cap = p'' at hcutb htx
        generalize j + n - j = n'' at hcutb htx
        generalize cap - j = c'' at hcutb htx
        generalize (zs.take (j + n)).drop j = tx at htx HG
        generalize zs.drop (j + n) = ys at HG HR2 hl2
        have ht := htx.out _ D1.out
        have hjn : (j : Int) + n ≤ L := by omega
        obtain ⟨N, hN⟩ : ∃ N : Int, (n : Int) = N := ⟨_, rfl⟩
        rw [hN] at CR hn1 hn' n0 wn hl' hjn
        simp only [hN] at hcut hcutb
        clear h1 h2 h3 j1 j2 n1 hn hL hr2 hN hj hl hrb
        go_enter Try.func55, Try.ntmps55
        go_wp2_with (go_at_call 54; (with_reducible refine CR.out.mono ?_); rintro e w1 ⟨rfl, rfl⟩)
        go_ret
        refine ⟨?_, .inl ⟨tx, ys, HG.out, rfl, ?_⟩⟩
        · exact gb_set (gb_set HB0.out _ _) _ _
        · exact (hS.out.fail 0).cut hl2.out HR2.out
  · have HG := Lib.hid (G1.out (by omega))
    have hne : (e : Int) ≠ 0 := by omega
    have hne2 : ((e : Int) == 0) = false := by rw [beq_eq_false_iff_ne]; exact hne
    have hne3 : ((e : Int) != 0) = true := by rw [bne_iff_ne]; exact hne
    have he0 : e ≠ 0 := by omega
    clear h1 h2 h3 he hL
    go_enter Try.func55, Try.ntmps55
    go_wp2_with (go_at_call 54; (with_reducible refine CR.out.mono ?_); rintro e w1 ⟨rfl, rfl⟩)
    go_ret
    exact ⟨gb_set HB0.out _ _, .inr ⟨e, zs, HG.out, he0, rfl, hS.out.fail e⟩⟩

/-! ### A number's bits -/
def TookF (w : World) (g : Nat) (r : Except Nat (Nat × List UInt8)) (W : World) (E : Ending) (W' : World) : Prop :=
  W.grownBy W' (some g) ∧ ((∃ f ys z, r = .ok (f, ys) ∧ E = .returned (.float .f64 z) ∧ z < 18446744073709551616 ∧ canon z = f ∧ Src w g ys 0 W') ∨ ∃ (e : Nat) (ys : List UInt8), r = .error e ∧ e ≠ 0 ∧ E = .returned (.float .f64 0) ∧ Src w g ys e W')
theorem gflt_end {zs : List UInt8} (h : zs.length < 8) : gflt zs = .error 4 := if_pos h
theorem gflt_ok {zs : List UInt8} (h : ¬ zs.length < 8) (hc : canon (un (zs.take 8)) = un (zs.take 8)) : gflt zs = .ok (un (zs.take 8), zs.drop 8) := (if_neg h).trans (if_pos hc)
theorem gflt_bad {zs : List UInt8} (h : ¬ zs.length < 8) (hc : ¬ canon (un (zs.take 8)) = un (zs.take 8)) : gflt zs = .error 3 := (if_neg h).trans (if_neg hc)
theorem is_canon {b z : Nat} {ok : Bool} (h : IsNum b z ok) : (ok = true ∧ canon b = b ∧ canon z = b) ∨ (ok = false ∧ ¬ canon b = b) := by
  cases hn : isNan b
  · obtain ⟨e1, e2⟩ := h.num hn
    left
    have : canon b = b := by unfold canon; rw [hn]; rfl
    rw [e1]; exact ⟨e2, this, this⟩
  · obtain ⟨e1, e2⟩ := h.nan hn
    have hb : canon b = 9221120237041090561 := by unfold canon; rw [if_pos hn]
    have hz : canon z = 9221120237041090561 := by unfold canon; rw [if_pos e1]
    by_cases hc : b = 9221120237041090561
    · left; rw [e2, hb, hz, decide_eq_true hc]; exact ⟨rfl, hc.symm, hc.symm⟩
    · right; rw [e2, hb, decide_eq_false hc]; exact ⟨rfl, fun h => hc h.symm⟩
set_option maxHeartbeats 4000000 in
set_option maxRecDepth 100000 in
theorem flt_ok (w : World) (g : Nat) (zs : List UInt8) (W : World) (h : Src w g zs 0 W) : Calls Try.prog 56 #[.pointer (some ⟨g, 0, none⟩)] W (TookF w g (gflt zs) W) := by
  have hS := Lib.hid h
  obtain ⟨h1, h2, h3, ⟨p, cap, c0, hr⟩, c1, f0, f1⟩ := h
  have hrow := hr
  obtain ⟨pp, cc, ee, g1, g2, g3⟩ := hr
  injection ee with e1 e2 e3
  subst e1 e3
  have HB0 := Lib.hid (gb_refl W (some g))
  by_cases h8 : zs.length < 8
  · have HG := Lib.hid (gflt_end h8)
    have h8' : (zs.length : Int) < 8 := by omega
    clear h1 h2 h3 g3 h8 hrow
    go_enter Try.func56, Try.ntmps56
    go_wp2_with fail
    go_ret
    exact ⟨gb_set HB0.out _ _, .inr ⟨4, zs, HG.out, by decide, rfl, hS.out.fail 4⟩⟩
  · have h8' : ¬ (zs.length : Int) < 8 := by omega
    obtain ⟨B, off, rfl, hi⟩ := g3 (by rintro rfl; simp at h8)
    have HI := Lib.hid (hi.on h1)
    have hN := un_lt 8 zs
    have G1 := Lib.hid (fun hc => gflt_ok h8 hc)
    have G2 := Lib.hid (fun hc => gflt_bad h8 hc)
    have hcut : ∀ w, (Instr.slice 29 (.slice (some ⟨B, off, none⟩) zs.length cap) (some (.int .i64 8)) none none).run Try.prog w = .ok (.slice (cutq (some ⟨B, off, none⟩) 8 cap) (zs.length - 8) (cap - 8)) w := fun w => cut_from (some ⟨B, off, none⟩) zs.length cap 8 (by omega) w
    have hr2 := row_cut hrow 8 zs.length cap (by omega) (Nat.le_refl _) g1 g2
    rw [List.take_length] at hr2
    have HR2 := Lib.hid hr2
    have hl2 : Hid (zs.length - 8 = (zs.drop 8).length) := Lib.hid (by rw [List.length_drop])
    generalize cutq (some ⟨B, off, none⟩) 8 cap = p' at hcut HR2
    generalize zs.length - 8 = n' at hcut HR2 hl2
    generalize cap - 8 = c' at hcut HR2
    generalize zs.drop 8 = ys at HR2 hl2 G1
    obtain ⟨N, hNN⟩ : ∃ N, un (zs.take 8) = N := ⟨_, rfl⟩
    have HN := Lib.hid hNN
    rw [hNN] at G1 G2 hN
    have CN := Lib.hid (fun w => num_any N w hN)
    obtain ⟨L, hL⟩ : ∃ L, zs.length = L := ⟨_, rfl⟩
    have HZ := Lib.hid hL
    rw [hL] at c0 hcut h8' g1 h8
    clear h1 h2 h3 hrow hi hr2 hNN hN hL g3
    go_enter Try.func56, Try.ntmps56
    go_wp2_with fail
    go_loop [3, 4] (fun a i => ∃ k : Nat, k ≤ 8 ∧ i = .int .i64 k ∧ a = .int .u64 (un (zs.take k) : Nat)) (fun _ i => 8 - (intOf i).toNat)
    case atStart => exact ⟨0, by decide, rfl, rfl⟩
    case round =>
      obtain ⟨k, hk, rfl, rfl⟩ := hrel
      have k0 : (0 : Int) ≤ k := by omega
      by_cases hk8 : k < 8
      · have kn : (k : Int) < 8 := by omega
        have kL : (k : Int) < L := by omega
        obtain ⟨c, hcc⟩ : ∃ c, layB.at zs k = c := ⟨_, rfl⟩
        have hkz : k < zs.length := by rw [HZ.out]; omega
        have c1' := cellB HI.out hkz hcc
        have HU := Lib.hid (un_step hkz)
        rw [hcc] at HU
        have hm := un_top (zs := zs) (k := k) (by omega)
        have hx := byte_lt c
        generalize un (zs.take k) = m at hm HU
        generalize c.toNat = x at c1' hx HU
        have wm : IntKind.u64.wrap ((m : Int) * 256 + x) = (m : Int) * 256 + x := by rw [IntKind.wrap_u64]; omega
        clear hcc hkz
        go_wp2_with fail
        go_round
        case rel => exact ⟨k + 1, by omega, by go_num, by rw [HU.out, Int.natCast_add, Int.natCast_mul]; rfl⟩
        case measure => simp [intOf]; omega
      · have kn : ¬ (k : Int) < 8 := by omega
        obtain rfl : k = 8 := by omega
        rw [HN.out]
        have hSd := Lib.hid (fun q => hS.out.drew q)
        have hBd := Lib.hid (fun q => gb_drew HB0.out q)
        go_wp2_with (go_at_call 76; (with_reducible refine (CN.out _).mono ?_); rintro e w1 ⟨z, ok, rfl, hnum, q, rfl⟩; have HQ := Lib.hid hnum; have HQ2 := Lib.hid (is_canon hnum); clear hnum)
        · go_ret
          rcases HQ2.out with ⟨ho, _, _⟩ | ⟨_, hc⟩
          · subst ho; contradiction
          · exact ⟨gb_set (hBd.out q) _ _, .inr ⟨3, zs, G2.out hc, by decide, rfl, (hSd.out q).fail 3⟩⟩
        · go_ret
          rcases HQ2.out with ⟨_, hc, hz⟩ | ⟨ho, _⟩
          · exact ⟨gb_set (hBd.out q) _ _, .inl ⟨N, ys, z, G1.out hc, rfl, HQ.out.lt, hz, (hSd.out q).cut hl2.out HR2.out⟩⟩
          · subst ho; contradiction
end Go.Proofs.Ytapjjeffegnflaa.Cod

/- Part: What the document's source of bytes (layer 11, codec) gives of a command. Conditions: the bytes lie in memory as their cells say; the source is a box of the call's own. -/
namespace Go.Proofs.Ytapjjeffegnflaa.Cod
open Go.RowKit F64 Cmd Bat Ids Rec Wir Dig
set_option linter.unusedVariables false

/-! ### Blocks that are known whole -/
theorem row_cell {w : World} {g i : Nat} {cur : Array Value} {t : TypeId} {v : Value} (hg : w.heap[g]? = some (.cells cur t (0, 0))) (hc : cur[i]? = some v) : w.cell? ⟨g, i, none⟩ = some v := by simp [World.cell?, hg, hc]
theorem row_free {w : World} {g i : Nat} {cur : Array Value} {t : TypeId} (hg : w.heap[g]? = some (.cells cur t (0, 0))) : w.frozen? ⟨g, i, none⟩ = false := by simp [World.frozen?, hg]
/-- A block of three. -/
structure Tri (b : Nat) (x y z : Value) (t : TypeId) (W : World) : Prop where
  blk : W.heap[b]? = some (.cells #[x, y, z] t (0, 0))
theorem Tri.cells {b : Nat} {x y z : Value} {t : TypeId} {W : World} (h : Tri b x y z t W) : W.cell? ⟨b, 0, none⟩ = some x ∧ W.cell? ⟨b, 1, none⟩ = some y ∧ W.cell? ⟨b, 2, none⟩ = some z ∧ W.frozen? ⟨b, 0, none⟩ = false ∧ W.frozen? ⟨b, 1, none⟩ = false ∧ W.frozen? ⟨b, 2, none⟩ = false :=
  ⟨row_cell h.blk rfl, row_cell h.blk rfl, row_cell h.blk rfl, row_free h.blk, row_free h.blk, row_free h.blk⟩
theorem Tri.new (W : World) (x y z : Value) (t : TypeId) : Tri W.heap.size x y z t (W.alloc (.cells #[x, y, z] t)) := ⟨heap_alloc_new W _⟩
theorem Tri.lt {b : Nat} {x y z : Value} {t : TypeId} {W : World} (h : Tri b x y z t W) : b < W.heap.size := (Array.getElem?_eq_some_iff.1 h.blk).1
theorem Tri.gb {b g : Nat} {x y z : Value} {t : TypeId} {W W' : World} (h : Tri b x y z t W) (hb : W.grownBy W' (some g)) (hne : b ≠ g) : Tri b x y z t W' := ⟨(hb.block b h.lt (fun e => hne (Option.some.inj e))).trans h.blk⟩
theorem Tri.alloc {b : Nat} {x y z : Value} {t : TypeId} {W : World} (h : Tri b x y z t W) (o : Obj) : Tri b x y z t (W.alloc o) := ⟨(Below.heap_alloc W o b h.lt).trans h.blk⟩
theorem Tri.far {b : Nat} {x y z : Value} {t : TypeId} {W : World} (h : Tri b x y z t W) {c : Nat} (hne : b ≠ c) (i : Nat) (v : Value) : Tri b x y z t (W.setCell ⟨c, i, none⟩ v) := ⟨(Below.heap_setCell W ⟨c, i, none⟩ v b hne).trans h.blk⟩
theorem Tri.set0 {b : Nat} {x y z : Value} {t : TypeId} {W : World} (h : Tri b x y z t W) (v : Value) : Tri b v y z t (W.setCell ⟨b, 0, none⟩ v) := ⟨Go.Joins.block_setCell h.blk v⟩
theorem Tri.set1 {b : Nat} {x y z : Value} {t : TypeId} {W : World} (h : Tri b x y z t W) (v : Value) : Tri b x v z t (W.setCell ⟨b, 1, none⟩ v) := ⟨Go.Joins.block_setCell h.blk v⟩
theorem Tri.set2 {b : Nat} {x y z : Value} {t : TypeId} {W : World} (h : Tri b x y z t W) (v : Value) : Tri b x y v t (W.setCell ⟨b, 2, none⟩ v) := ⟨Go.Joins.block_setCell h.blk v⟩
theorem gb_alloc {a w : World} {r : Option Nat} (h : a.grownBy w r) (o : Obj) : a.grownBy (w.alloc o) r := by
  obtain ⟨h1, h2, h3, h4, h5⟩ := h
  exact ⟨h1, h2, h3, by rw [show (w.alloc o).heap.size = w.heap.size + 1 by simp]; omega, fun k hk hne => (Below.heap_alloc w o k (Nat.lt_of_lt_of_le hk h4)).trans (h5 k hk hne)⟩
theorem gb_far {a w : World} {r : Option Nat} (h : a.grownBy w r) {c : Nat} (hc : a.heap.size ≤ c) (i : Nat) (v : Value) : a.grownBy (w.setCell ⟨c, i, none⟩ v) r := by
  obtain ⟨h1, h2, h3, h4, h5⟩ := h
  exact ⟨h1, h2, h3, by rw [Cmd.size_sc]; exact h4, fun k hk hne => (Below.heap_setCell w ⟨c, i, none⟩ v k (by show k ≠ c; omega)).trans (h5 k hk hne)⟩
theorem Src.far {w W : World} {g : Nat} {zs : List UInt8} {e : Int} (h : Src w g zs e W) {c : Nat} (hne : g ≠ c) (hc : w.heap.size ≤ c) (i : Nat) (v : Value) : Src w g zs e (W.setCell ⟨c, i, none⟩ v) := by
  obtain ⟨h1, h2, h3, ⟨p, cap, h4, h5⟩, h6, h7, h8⟩ := h
  have hb := Below.heap_setCell W ⟨c, i, none⟩ v g hne
  have e0 : ∀ j, (W.setCell ⟨c, i, none⟩ v).cell? ⟨g, j, none⟩ = W.cell? ⟨g, j, none⟩ := fun j => World.cell?_of_block hb
  have z0 : ∀ j, (W.setCell ⟨c, i, none⟩ v).frozen? ⟨g, j, none⟩ = W.frozen? ⟨g, j, none⟩ := fun j => World.frozen?_of_block hb
  exact ⟨h1.setCell hc _, h2, by rw [Cmd.size_sc]; exact h3, ⟨p, cap, (e0 0).trans h4, h5⟩, (e0 1).trans h6, (z0 0).trans h7, (z0 1).trans h8⟩
theorem Src.alloc {w W : World} {g : Nat} {zs : List UInt8} {e : Int} (h : Src w g zs e W) (o : Obj) : Src w g zs e (W.alloc o) := h.on (Cmd.below_one W o)

/-! ### Whatever comes of a key, of bits -/
def KeyAny (w : World) (g : Nat) (r : List UInt8) (W : World) (E : Ending) (W' : World) : Prop :=
  ∃ (s : List UInt8) (e : Nat) (ys : List UInt8), E = .returned (.string (str s)) ∧ W.grownBy W' (some g) ∧ Src w g ys e W' ∧ ((gkey r = .ok (s, ys) ∧ e = 0) ∨ (gkey r = .error e ∧ e ≠ 0))
set_option maxRecDepth 100000 in
theorem key_any (w : World) (g : Nat) (r : List UInt8) (W : World) (h : Src w g r 0 W) : Calls Try.prog 55 #[.pointer (some ⟨g, 0, none⟩)] W (KeyAny w g r W) :=
  (key_ok w g r W h).mono fun E W' ⟨hb, h⟩ => by
    rcases h with ⟨s, ys, h1, rfl, h2⟩ | ⟨e, ys, h1, h2, rfl, h3⟩
    · exact ⟨s, 0, ys, rfl, hb, h2, .inl ⟨h1, rfl⟩⟩
    · exact ⟨[], e, ys, rfl, hb, h3, .inr ⟨h1, h2⟩⟩
def FltAny (w : World) (g : Nat) (e0 : Nat) (r : List UInt8) (W : World) (E : Ending) (W' : World) : Prop :=
  ∃ (z e : Nat) (ys : List UInt8), E = .returned (.float .f64 z) ∧ W.grownBy W' (some g) ∧ Src w g ys e W' ∧ z < 18446744073709551616 ∧ ((e0 = 0 ∧ gflt r = .ok (canon z, ys) ∧ e = 0) ∨ (e0 = 0 ∧ gflt r = .error e ∧ e ≠ 0) ∨ (e0 ≠ 0 ∧ e = e0))
set_option maxRecDepth 100000 in
theorem flt_any (w : World) (g : Nat) (e0 : Nat) (r : List UInt8) (W : World) (h : Src w g r e0 W) : Calls Try.prog 56 #[.pointer (some ⟨g, 0, none⟩)] W (FltAny w g e0 r W) := by
  by_cases he : e0 = 0
  · subst he
    exact (flt_ok w g r W h).mono fun E W' ⟨hb, h⟩ => by
      rcases h with ⟨f, ys, z, h1, rfl, h2, h3, h4⟩ | ⟨e, ys, h1, h2, rfl, h3⟩
      · exact ⟨z, 0, ys, rfl, hb, h4, h2, .inl ⟨rfl, by rw [h3]; exact h1, rfl⟩⟩
      · exact ⟨0, e, ys, rfl, hb, h3, by decide, .inr (.inl ⟨rfl, h1, h2⟩)⟩
  · exact (flt_no g e0 W h.err (by omega)).mono fun E W' ⟨h1, h2⟩ => by
      subst h1 h2
      exact ⟨0, e0, r, rfl, gb_refl _ _, h, by decide, .inr (.inr ⟨he, rfl⟩)⟩

/-! ### A command -/
def CmdAny (w : World) (g : Nat) (zs : List UInt8) (W : World) (E : Ending) (W' : World) : Prop :=
  ∃ (k : Int) (s : List UInt8) (z e : Nat) (ys : List UInt8), E = .returned (.agg #[.int .i64 k, .string (str s), .float .f64 z]) ∧ W.grownBy W' (some g) ∧ Src w g ys e W' ∧ z < 18446744073709551616 ∧ (hasV k = false → z = 0) ∧ ((e = 0 ∧ gcmd zs = .ok (cmdC (k, s, z), ys)) ∨ (e ≠ 0 ∧ gcmd zs = .error e))
theorem num_took {w W W' : World} {g : Nat} {zs : List UInt8} {E : Ending} {n : Nat} {ys : List UInt8} (h : Took w g (gnum zs) (fun n => .int .i64 (n : Nat)) (.int .i64 0) W E W') (hr : gnum zs = .ok (n, ys)) : E = .returned (.int .i64 (n : Int)) ∧ W.grownBy W' (some g) ∧ Src w g ys 0 W' := by
  obtain ⟨hb, h⟩ := h
  rcases h with ⟨x, ys', h1, h2, h3⟩ | ⟨e, ys', h1, -⟩
  · rw [hr] at h1; injection h1 with h1; injection h1 with h4 h5; subst h4 h5; exact ⟨h2, hb, h3⟩
  · rw [hr] at h1; cases h1
theorem num_fell {w W W' : World} {g : Nat} {zs : List UInt8} {E : Ending} {e : Nat} (h : Took w g (gnum zs) (fun n => .int .i64 (n : Nat)) (.int .i64 0) W E W') (hr : gnum zs = .error e) : E = .returned (.int .i64 0) ∧ e ≠ 0 ∧ W.grownBy W' (some g) ∧ ∃ ys, Src w g ys e W' := by
  obtain ⟨hb, h⟩ := h
  rcases h with ⟨x, ys', h1, -⟩ | ⟨e', ys', h1, h2, h3, h4⟩
  · rw [hr] at h1; cases h1
  · rw [hr] at h1; injection h1 with h1; subst h1; exact ⟨h3, h2, hb, ys', h4⟩
/-- A result that is a command lies in a box. -/
theorem cmd_result {fn : Func} {p : Tmp} (h : fn.results = #[.cell p 59]) (tmps : Array Value) {W : World} {b : Nat} {k : Int} {s : List UInt8} {v : Nat} (hp : tmps.getD p undef = .pointer (some ⟨b, 0, none⟩)) (hb : Tri b (.int .i64 k) (.string (str s)) (.float .f64 v) 59 W) :
    (results fn tmps).run Try.prog W = .ok (.agg #[.int .i64 k, .string (str s), .float .f64 v]) W := by
  obtain ⟨c0, c1, c2, -, -, -⟩ := hb.cells
  have e : (results fn tmps).run Try.prog W = ((asAddr (tmps.getD p undef)).run Try.prog W).andThen fun a w₁ => (loadVar 59 a).run Try.prog w₁ := by
    simp only [results, h]
    simp [Sem.run_bind, Result.andThen]
  rw [e, hp]
  go_simp
/-- The end: the box of the result is written. -/
theorem cmd_fin {w W Wn : World} {g b : Nat} {ys : List UInt8} {e : Int} {x y z : Value} {t : TypeId} (T : Tri b x y z t Wn) (B : W.grownBy Wn (some g)) (S : Src w g ys e Wn) (hb : b = W.heap.size) (hw : w.heap.size ≤ W.heap.size) (hg : g < W.heap.size) (v0 v1 v2 : Value) :
    Tri b v0 v1 v2 t (((Wn.setCell ⟨b, 0, none⟩ v0).setCell ⟨b, 1, none⟩ v1).setCell ⟨b, 2, none⟩ v2) ∧ W.grownBy (((Wn.setCell ⟨b, 0, none⟩ v0).setCell ⟨b, 1, none⟩ v1).setCell ⟨b, 2, none⟩ v2) (some g) ∧ Src w g ys e (((Wn.setCell ⟨b, 0, none⟩ v0).setCell ⟨b, 1, none⟩ v1).setCell ⟨b, 2, none⟩ v2) := by
  subst hb
  have hne : g ≠ W.heap.size := by omega
  exact ⟨((T.set0 v0).set1 v1).set2 v2, gb_far (gb_far (gb_far B (Nat.le_refl _) _ _) (Nat.le_refl _) _ _) (Nat.le_refl _) _ _, ((S.far hne hw _ _).far hne hw _ _).far hne hw _ _⟩
abbrev boxC (k : Int) : Obj := .cells #[.int .i64 k, .string ⟨#[]⟩, .float .f64 0] 59
theorem natne {e : Nat} (h : e ≠ 0) : (e : Int) ≠ 0 := by omega
theorem natbeq {e : Nat} (h : e ≠ 0) : ((e : Int) == 0) = false := by rw [beq_eq_false_iff_ne]; omega
set_option maxHeartbeats 4000000 in
set_option maxRecDepth 100000 in
theorem cmd_a (w : World) (g : Nat) (zs : List UInt8) (W : World) (h : Src w g zs 0 W) (e : Nat) (he : gnum zs = .error e) : Calls Try.prog 32 #[.pointer (some ⟨g, 0, none⟩)] W (CmdAny w g zs W) := by
  have hg := h.lt
  have CN := Lib.hid (fun W (h : Src w g zs 0 W) => (num_ok w g zs W h).mono fun E W' h => num_fell h he)
  have S0 := Lib.hid (h.alloc (boxC 0))
  have T0 := Lib.hid (Tri.new W (.int .i64 0) (.string ⟨#[]⟩) (.float .f64 0) 59)
  have B0 := Lib.hid (gb_alloc (gb_refl W (some g)) (boxC 0))
  have HG : Hid (gcmd zs = .error e) := Lib.hid (by unfold gcmd; rw [he])
  have hgW := Lib.hid (Nat.ne_of_gt hg)
  have hgl := Lib.hid hg
  have hwW := Lib.hid h.below.size
  have CK := Lib.hid (key_no g e)
  clear he h hg
  unfold boxC at S0 B0
  go_enter Try.func32, Try.ntmps32
  go_wp2_with (first
    | (go_at_call 31; (with_reducible refine (CN.out _ S0.out).mono ?_); rintro E1 w1 ⟨rfl, he1, hb1, ys, hs1⟩; have T1 := Lib.hid (T0.out.gb hb1 hgW.out); have B1 := Lib.hid (gb_trans B0.out hb1); have S1 := Lib.hid hs1; have k1 := fun o => (hs1.alloc o).err; have k2 := fun o => (hs1.alloc o).f1; have x0 := fun o => (T1.out.alloc o).cells.1; have x1 := fun o => (T1.out.alloc o).cells.2.1; have x2 := fun o => (T1.out.alloc o).cells.2.2.1; have z0 := fun o => (T1.out.alloc o).cells.2.2.2.1; have z1 := fun o => (T1.out.alloc o).cells.2.2.2.2.1; have z2 := fun o => (T1.out.alloc o).cells.2.2.2.2.2; have hne := natne he1; have hq := natbeq he1; have HE := Lib.hid he1; clear hb1 hs1 he1)
    | (go_at_call 55; (with_reducible refine (CK.out _ (k1 _) hne).mono ?_); rintro E2 w2 ⟨rfl, rfl⟩))
  have F := cmd_fin (T1.out.alloc (.cells #[.int .i64 0, .string (str []), .float .f64 0] 59)) (gb_alloc B1.out _) (S1.out.alloc _) rfl hwW.out hgl.out (.int .i64 0) (.string (str [])) (.float .f64 0)
  exact bodyPost_ret (cmd_result rfl _ rfl F.1) rfl ⟨0, [], 0, e, ys, rfl, F.2.1, F.2.2, by decide, fun _ => rfl, .inr ⟨HE.out, HG.out⟩⟩
set_option maxHeartbeats 4000000 in
set_option maxRecDepth 100000 in
theorem cmd_b (w : World) (g : Nat) (zs : List UInt8) (W : World) (h : Src w g zs 0 W) (n : Nat) (r : List UInt8) (he : gnum zs = .ok (n, r)) (hn : n < 1 ∨ 4 < n) : Calls Try.prog 32 #[.pointer (some ⟨g, 0, none⟩)] W (CmdAny w g zs W) := by
  have hg := h.lt
  have CN := Lib.hid (fun W (h : Src w g zs 0 W) => (num_ok w g zs W h).mono fun E W' h => num_took h he)
  have S0 := Lib.hid (h.alloc (boxC 0))
  have T0 := Lib.hid (Tri.new W (.int .i64 0) (.string ⟨#[]⟩) (.float .f64 0) 59)
  have B0 := Lib.hid (gb_alloc (gb_refl W (some g)) (boxC 0))
  have hgW := Lib.hid (Nat.ne_of_gt hg)
  have hgl := Lib.hid hg
  have hwW := Lib.hid h.below.size
  have HG : Hid (gcmd zs = .error 12) := Lib.hid (by unfold gcmd; rw [he]; simp only []; rw [if_pos hn])
  have CK : Hid (∀ W, Src w g r (12 : Int) W → Calls Try.prog 55 #[.pointer (some ⟨g, 0, none⟩)] W fun E W' => ∃ (s : List UInt8) (e : Nat) (ys : List UInt8), E = .returned (.string (str s)) ∧ W.grownBy W' (some g) ∧ Src w g ys e W' ∧ e = 12) := Lib.hid fun W hs => (key_no g 12 W hs.err (by decide)).mono fun E W' ⟨h1, h2⟩ => by subst h1 h2; exact ⟨[], 12, r, rfl, gb_refl _ _, hs, rfl⟩
  obtain ⟨N, hN⟩ : ∃ N : Int, (n : Int) = N := ⟨_, rfl⟩
  have t2 : (N == 2) = false := by rw [beq_eq_false_iff_ne]; omega
  have t4 : (N == 4) = false := by rw [beq_eq_false_iff_ne]; omega
  have tn : N < 1 ∨ ¬ N < 1 ∧ 4 < N := by omega
  rw [hN] at CN
  clear he h hg hN hn
  unfold boxC at S0 B0
  rcases tn with tn | ⟨tn, tn2⟩
  all_goals
    go_enter Try.func32, Try.ntmps32
    go_wp2_with (first
      | (go_at_call 31; (with_reducible refine (CN.out _ S0.out).mono ?_); rintro E1 w1 ⟨rfl, hb1, hs1⟩; have T1 := Lib.hid (T0.out.gb hb1 hgW.out); have B1 := Lib.hid (gb_trans B0.out hb1); have S1 := Lib.hid hs1; have k1 := fun o => (hs1.alloc o).err; have k2 := fun o => (hs1.alloc o).f1; have hlt := Lib.hid (T1.out.lt); have hle := Lib.hid (Nat.le_of_lt T1.out.lt); have n1 := Nat.ne_of_lt T1.out.lt; have n2 := Nat.ne_of_gt T1.out.lt; have n3 := Lib.hid (Nat.ne_of_gt hs1.lt); have n4 := Lib.hid (Nat.ne_of_lt hs1.lt); have hw1 := Lib.hid (Nat.le_trans hwW.out hle.out); have Ta := Lib.hid ((T1.out.alloc (boxC N)).far hgW.out 1 (.int .i64 12)); have Tb := Lib.hid ((Tri.new w1 (.int .i64 N) (.string ⟨#[]⟩) (.float .f64 0) 59).far n3.out 1 (.int .i64 12)); have Ba := Lib.hid (gb_set (gb_alloc B1.out (boxC N)) 1 (.int .i64 12)); have Sa := Lib.hid ((S1.out.alloc (boxC N)).fail 12); clear hb1 hs1)
      | (go_at_call 55; (with_reducible refine (CK.out _ Sa.out).mono ?_); rintro E2 w2 ⟨s, e2, ys2, rfl, hb2, hs2, hk2⟩; have HK := Lib.hid hk2; have T2 := Lib.hid (Ta.out.gb hb2 hgW.out); have T3 := Lib.hid (Tb.out.gb hb2 n3.out); have B2 := Lib.hid (gb_trans Ba.out hb2); have S2 := Lib.hid hs2; obtain ⟨x0, x1, x2, z0, z1, z2⟩ := T2.out.cells; obtain ⟨y0, y1, y2, v0, v1, v2⟩ := T3.out.cells;  clear hb2 hs2 hk2))
    have F := cmd_fin (T2.out.far n1 1 (.string (str s))) (gb_far B2.out hle.out 1 (.string (str s))) (S2.out.far n4.out hw1.out 1 (.string (str s))) rfl hwW.out hgl.out (.int .i64 N) (.string (str s)) (.float .f64 0)
    refine bodyPost_ret (cmd_result rfl _ rfl F.1) rfl ⟨N, s, 0, e2, ys2, rfl, F.2.1, F.2.2, by decide, fun _ => rfl, .inr ?_⟩
    have := HK.out
    subst this
    exact ⟨by decide, HG.out⟩
set_option maxHeartbeats 4000000 in
set_option maxRecDepth 100000 in
theorem cmd_c (w : World) (g : Nat) (zs : List UInt8) (W : World) (h : Src w g zs 0 W) (n : Nat) (r : List UInt8) (he : gnum zs = .ok (n, r)) (hn : n = 1 ∨ n = 3) : Calls Try.prog 32 #[.pointer (some ⟨g, 0, none⟩)] W (CmdAny w g zs W) := by
  have hg := h.lt
  have CN := Lib.hid (fun W (h : Src w g zs 0 W) => (num_ok w g zs W h).mono fun E W' h => num_took h he)
  have S0 := Lib.hid (h.alloc (boxC 0))
  have T0 := Lib.hid (Tri.new W (.int .i64 0) (.string ⟨#[]⟩) (.float .f64 0) 59)
  have B0 := Lib.hid (gb_alloc (gb_refl W (some g)) (boxC 0))
  have hgW := Lib.hid (Nat.ne_of_gt hg)
  have hgl := Lib.hid hg
  have hwW := Lib.hid h.below.size
  have CK := Lib.hid (fun W hs => key_any w g r W hs)
  have HG : Hid (∀ s e ys, ((gkey r = .ok (s, ys) ∧ e = 0) ∨ (gkey r = .error e ∧ e ≠ 0)) → ((e = 0 ∧ gcmd zs = .ok (cmdC ((n : Int), s, 0), ys)) ∨ (e ≠ 0 ∧ gcmd zs = .error e))) := Lib.hid fun s e ys hk => by
    unfold gcmd; rw [he]; simp only []; rw [if_neg (by omega)]
    rcases hk with ⟨h1, h2⟩ | ⟨h1, h2⟩
    · rw [h1]; simp only []; unfold gval; rw [if_neg (by omega)]; simp only []
      left; refine ⟨h2, ?_⟩; unfold cmdC; simp only []; rw [hasV_nat, decide_eq_false (by omega)]; rfl
    · rw [h1]; exact .inr ⟨h2, rfl⟩
  clear he h hg
  unfold boxC at S0 B0
  rcases hn with rfl | rfl
  · go_enter Try.func32, Try.ntmps32
    go_wp2_with (first
      | (go_at_call 31; (with_reducible refine (CN.out _ S0.out).mono ?_); rintro E1 w1 ⟨rfl, hb1, hs1⟩; have T1 := Lib.hid (T0.out.gb hb1 hgW.out); have B1 := Lib.hid (gb_trans B0.out hb1); have S1 := Lib.hid hs1; have k1 := fun o => (hs1.alloc o).err; have k2 := fun o => (hs1.alloc o).f1; have hlt := Lib.hid (T1.out.lt); have hle := Lib.hid (Nat.le_of_lt T1.out.lt); have n1 := Nat.ne_of_lt T1.out.lt; have n2 := Nat.ne_of_gt T1.out.lt; have n3 := Lib.hid (Nat.ne_of_gt hs1.lt); have n4 := Lib.hid (Nat.ne_of_lt hs1.lt); have hw1 := Lib.hid (Nat.le_trans hwW.out hle.out); have Ta := Lib.hid (T1.out.alloc (boxC 1)); have Tb := Lib.hid (Tri.new w1 (.int .i64 1) (.string ⟨#[]⟩) (.float .f64 0) 59); have Ba := Lib.hid (gb_alloc B1.out (boxC 1)); have Sa := Lib.hid (S1.out.alloc (boxC 1)); clear hb1 hs1)
      | (go_at_call 55; (with_reducible refine (CK.out _ Sa.out).mono ?_); rintro E2 w2 ⟨s, e2, ys2, rfl, hb2, hs2, hk2⟩; have HK := Lib.hid hk2; have T2 := Lib.hid (Ta.out.gb hb2 hgW.out); have T3 := Lib.hid (Tb.out.gb hb2 n3.out); have B2 := Lib.hid (gb_trans Ba.out hb2); have S2 := Lib.hid hs2; obtain ⟨x0, x1, x2, z0, z1, z2⟩ := T2.out.cells; obtain ⟨y0, y1, y2, v0, v1, v2⟩ := T3.out.cells;  clear hb2 hs2 hk2))
    have F := cmd_fin (T2.out.far n1 1 (.string (str s))) (gb_far B2.out hle.out 1 (.string (str s))) (S2.out.far n4.out hw1.out 1 (.string (str s))) rfl hwW.out hgl.out (.int .i64 1) (.string (str s)) (.float .f64 0)
    exact bodyPost_ret (cmd_result rfl _ rfl F.1) rfl ⟨1, s, 0, e2, ys2, rfl, F.2.1, F.2.2, by decide, fun _ => rfl, HG.out s e2 ys2 HK.out⟩
  · go_enter Try.func32, Try.ntmps32
    go_wp2_with (first
      | (go_at_call 31; (with_reducible refine (CN.out _ S0.out).mono ?_); rintro E1 w1 ⟨rfl, hb1, hs1⟩; have T1 := Lib.hid (T0.out.gb hb1 hgW.out); have B1 := Lib.hid (gb_trans B0.out hb1); have S1 := Lib.hid hs1; have k1 := fun o => (hs1.alloc o).err; have k2 := fun o => (hs1.alloc o).f1; have hlt := Lib.hid (T1.out.lt); have hle := Lib.hid (Nat.le_of_lt T1.out.lt); have n1 := Nat.ne_of_lt T1.out.lt; have n2 := Nat.ne_of_gt T1.out.lt; have n3 := Lib.hid (Nat.ne_of_gt hs1.lt); have n4 := Lib.hid (Nat.ne_of_lt hs1.lt); have hw1 := Lib.hid (Nat.le_trans hwW.out hle.out); have Ta := Lib.hid (T1.out.alloc (boxC 3)); have Tb := Lib.hid (Tri.new w1 (.int .i64 3) (.string ⟨#[]⟩) (.float .f64 0) 59); have Ba := Lib.hid (gb_alloc B1.out (boxC 3)); have Sa := Lib.hid (S1.out.alloc (boxC 3)); clear hb1 hs1)
      | (go_at_call 55; (with_reducible refine (CK.out _ Sa.out).mono ?_); rintro E2 w2 ⟨s, e2, ys2, rfl, hb2, hs2, hk2⟩; have HK := Lib.hid hk2; have T2 := Lib.hid (Ta.out.gb hb2 hgW.out); have T3 := Lib.hid (Tb.out.gb hb2 n3.out); have B2 := Lib.hid (gb_trans Ba.out hb2); have S2 := Lib.hid hs2; obtain ⟨x0, x1, x2, z0, z1, z2⟩ := T2.out.cells; obtain ⟨y0, y1, y2, v0, v1, v2⟩ := T3.out.cells;  clear hb2 hs2 hk2))
    have F := cmd_fin (T2.out.far n1 1 (.string (str s))) (gb_far B2.out hle.out 1 (.string (str s))) (S2.out.far n4.out hw1.out 1 (.string (str s))) rfl hwW.out hgl.out (.int .i64 3) (.string (str s)) (.float .f64 0)
    exact bodyPost_ret (cmd_result rfl _ rfl F.1) rfl ⟨3, s, 0, e2, ys2, rfl, F.2.1, F.2.2, by decide, fun _ => rfl, HG.out s e2 ys2 HK.out⟩
set_option maxHeartbeats 4000000 in
set_option maxRecDepth 100000 in
theorem cmd_d (w : World) (g : Nat) (zs : List UInt8) (W : World) (h : Src w g zs 0 W) (n : Nat) (r : List UInt8) (he : gnum zs = .ok (n, r)) (hn : n = 2 ∨ n = 4) : Calls Try.prog 32 #[.pointer (some ⟨g, 0, none⟩)] W (CmdAny w g zs W) := by
  have hg := h.lt
  have CN := Lib.hid (fun W (h : Src w g zs 0 W) => (num_ok w g zs W h).mono fun E W' h => num_took h he)
  have S0 := Lib.hid (h.alloc (boxC 0))
  have T0 := Lib.hid (Tri.new W (.int .i64 0) (.string ⟨#[]⟩) (.float .f64 0) 59)
  have B0 := Lib.hid (gb_alloc (gb_refl W (some g)) (boxC 0))
  have hgW := Lib.hid (Nat.ne_of_gt hg)
  have hgl := Lib.hid hg
  have hwW := Lib.hid h.below.size
  have CK := Lib.hid (fun W hs => key_any w g r W hs)
  have CF := Lib.hid (fun e0 ys W hs => flt_any w g e0 ys W hs)
  have HG : Hid (∀ s e ys, ((gkey r = .ok (s, ys) ∧ e = 0) ∨ (gkey r = .error e ∧ e ≠ 0)) → ∀ z e3 ys3, ((e = 0 ∧ gflt ys = .ok (canon z, ys3) ∧ e3 = 0) ∨ (e = 0 ∧ gflt ys = .error e3 ∧ e3 ≠ 0) ∨ (e ≠ 0 ∧ e3 = e)) → ((e3 = 0 ∧ gcmd zs = .ok (cmdC ((n : Int), s, z), ys3)) ∨ (e3 ≠ 0 ∧ gcmd zs = .error e3))) := Lib.hid fun s e ys hk z e3 ys3 hf => by
    unfold gcmd; rw [he]; simp only []; rw [if_neg (by omega)]
    rcases hk with ⟨h1, h2⟩ | ⟨h1, h2⟩
    · rw [h1]; simp only []; unfold gval; rw [if_pos hn]
      rcases hf with ⟨-, f1, f2⟩ | ⟨-, f1, f2⟩ | ⟨f0, -⟩
      · rw [f1]; simp only []
        left; refine ⟨f2, ?_⟩; unfold cmdC; simp only []; rw [hasV_nat, decide_eq_true hn]; rfl
      · rw [f1]; exact .inr ⟨f2, rfl⟩
      · exact absurd h2 f0
    · rw [h1]
      rcases hf with ⟨f0, -⟩ | ⟨f0, -⟩ | ⟨-, f1⟩
      · exact absurd f0 h2
      · exact absurd f0 h2
      · subst f1; exact .inr ⟨h2, rfl⟩
  clear he h hg
  unfold boxC at S0 B0
  rcases hn with rfl | rfl
  · go_enter Try.func32, Try.ntmps32
    go_wp2_with (first
      | (go_at_call 31; (with_reducible refine (CN.out _ S0.out).mono ?_); rintro E1 w1 ⟨rfl, hb1, hs1⟩; have T1 := Lib.hid (T0.out.gb hb1 hgW.out); have B1 := Lib.hid (gb_trans B0.out hb1); have S1 := Lib.hid hs1; have k1 := fun o => (hs1.alloc o).err; have k2 := fun o => (hs1.alloc o).f1; have hlt := Lib.hid (T1.out.lt); have hle := Lib.hid (Nat.le_of_lt T1.out.lt); have n1 := Nat.ne_of_lt T1.out.lt; have n2 := Nat.ne_of_gt T1.out.lt; have n3 := Lib.hid (Nat.ne_of_gt hs1.lt); have n4 := Lib.hid (Nat.ne_of_lt hs1.lt); have hw1 := Lib.hid (Nat.le_trans hwW.out hle.out); have Ta := Lib.hid (T1.out.alloc (boxC 2)); have Tb := Lib.hid (Tri.new w1 (.int .i64 2) (.string ⟨#[]⟩) (.float .f64 0) 59); have Ba := Lib.hid (gb_alloc B1.out (boxC 2)); have Sa := Lib.hid (S1.out.alloc (boxC 2)); clear hb1 hs1)
      | (go_at_call 55; (with_reducible refine (CK.out _ Sa.out).mono ?_); rintro E2 w2 ⟨s, e2, ys2, rfl, hb2, hs2, hk2⟩; have HK := Lib.hid hk2; have T2 := Lib.hid (Ta.out.gb hb2 hgW.out); have T3 := Lib.hid (Tb.out.gb hb2 n3.out); have B2 := Lib.hid (gb_trans Ba.out hb2); have S2 := Lib.hid hs2; obtain ⟨x0, x1, x2, z0, z1, z2⟩ := T2.out.cells; obtain ⟨y0, y1, y2, v0, v1, v2⟩ := T3.out.cells; have T2b := Lib.hid (T2.out.far n1 1 (.string (str s))); have T3b := Lib.hid (T3.out.set1 (.string (str s))); have B2b := Lib.hid (gb_far B2.out hle.out 1 (.string (str s))); have S2b := Lib.hid (hs2.far n4.out hw1.out 1 (.string (str s))); clear hb2 hs2 hk2)
      | (go_at_call 56; (with_reducible refine (CF.out e2 ys2 _ S2b.out).mono ?_); rintro E3 w3 ⟨z, e3, ys3, rfl, hb3, hs3, hz3, hf3⟩; have HF := Lib.hid hf3; have HZ := Lib.hid hz3; have T4 := Lib.hid (T2b.out.gb hb3 hgW.out); have T5 := Lib.hid (T3b.out.gb hb3 n3.out); have B3 := Lib.hid (gb_trans B2b.out hb3); have S3 := Lib.hid hs3; obtain ⟨p0, p1, p2, q0, q1, q2⟩ := T4.out.cells; obtain ⟨r0, r1, r2, s0, s1, s2⟩ := T5.out.cells; clear hb3 hs3 hf3 hz3))
    have F := cmd_fin (T4.out.far n1 2 (.float .f64 z)) (gb_far B3.out hle.out 2 (.float .f64 z)) (S3.out.far n4.out hw1.out 2 (.float .f64 z)) rfl hwW.out hgl.out (.int .i64 2) (.string (str s)) (.float .f64 z)
    exact bodyPost_ret (cmd_result rfl _ rfl F.1) rfl ⟨2, s, z, e3, ys3, rfl, F.2.1, F.2.2, HZ.out, fun h => absurd h (by decide), HG.out s e2 ys2 HK.out z e3 ys3 HF.out⟩
  · go_enter Try.func32, Try.ntmps32
    go_wp2_with (first
      | (go_at_call 31; (with_reducible refine (CN.out _ S0.out).mono ?_); rintro E1 w1 ⟨rfl, hb1, hs1⟩; have T1 := Lib.hid (T0.out.gb hb1 hgW.out); have B1 := Lib.hid (gb_trans B0.out hb1); have S1 := Lib.hid hs1; have k1 := fun o => (hs1.alloc o).err; have k2 := fun o => (hs1.alloc o).f1; have hlt := Lib.hid (T1.out.lt); have hle := Lib.hid (Nat.le_of_lt T1.out.lt); have n1 := Nat.ne_of_lt T1.out.lt; have n2 := Nat.ne_of_gt T1.out.lt; have n3 := Lib.hid (Nat.ne_of_gt hs1.lt); have n4 := Lib.hid (Nat.ne_of_lt hs1.lt); have hw1 := Lib.hid (Nat.le_trans hwW.out hle.out); have Ta := Lib.hid (T1.out.alloc (boxC 4)); have Tb := Lib.hid (Tri.new w1 (.int .i64 4) (.string ⟨#[]⟩) (.float .f64 0) 59); have Ba := Lib.hid (gb_alloc B1.out (boxC 4)); have Sa := Lib.hid (S1.out.alloc (boxC 4)); clear hb1 hs1)
      | (go_at_call 55; (with_reducible refine (CK.out _ Sa.out).mono ?_); rintro E2 w2 ⟨s, e2, ys2, rfl, hb2, hs2, hk2⟩; have HK := Lib.hid hk2; have T2 := Lib.hid (Ta.out.gb hb2 hgW.out); have T3 := Lib.hid (Tb.out.gb hb2 n3.out); have B2 := Lib.hid (gb_trans Ba.out hb2); have S2 := Lib.hid hs2; obtain ⟨x0, x1, x2, z0, z1, z2⟩ := T2.out.cells; obtain ⟨y0, y1, y2, v0, v1, v2⟩ := T3.out.cells; have T2b := Lib.hid (T2.out.far n1 1 (.string (str s))); have T3b := Lib.hid (T3.out.set1 (.string (str s))); have B2b := Lib.hid (gb_far B2.out hle.out 1 (.string (str s))); have S2b := Lib.hid (hs2.far n4.out hw1.out 1 (.string (str s))); clear hb2 hs2 hk2)
      | (go_at_call 56; (with_reducible refine (CF.out e2 ys2 _ S2b.out).mono ?_); rintro E3 w3 ⟨z, e3, ys3, rfl, hb3, hs3, hz3, hf3⟩; have HF := Lib.hid hf3; have HZ := Lib.hid hz3; have T4 := Lib.hid (T2b.out.gb hb3 hgW.out); have T5 := Lib.hid (T3b.out.gb hb3 n3.out); have B3 := Lib.hid (gb_trans B2b.out hb3); have S3 := Lib.hid hs3; obtain ⟨p0, p1, p2, q0, q1, q2⟩ := T4.out.cells; obtain ⟨r0, r1, r2, s0, s1, s2⟩ := T5.out.cells; clear hb3 hs3 hf3 hz3))
    have F := cmd_fin (T4.out.far n1 2 (.float .f64 z)) (gb_far B3.out hle.out 2 (.float .f64 z)) (S3.out.far n4.out hw1.out 2 (.float .f64 z)) rfl hwW.out hgl.out (.int .i64 4) (.string (str s)) (.float .f64 z)
    exact bodyPost_ret (cmd_result rfl _ rfl F.1) rfl ⟨4, s, z, e3, ys3, rfl, F.2.1, F.2.2, HZ.out, fun h => absurd h (by decide), HG.out s e2 ys2 HK.out z e3 ys3 HF.out⟩
theorem cmd_any' (w : World) (g : Nat) (zs : List UInt8) (W : World) (h : Src w g zs 0 W) : Calls Try.prog 32 #[.pointer (some ⟨g, 0, none⟩)] W (CmdAny w g zs W) := by
  cases hr : gnum zs with
  | error e => exact cmd_a w g zs W h e hr
  | ok v =>
    obtain ⟨n, r⟩ := v
    by_cases h1 : n < 1 ∨ 4 < n
    · exact cmd_b w g zs W h n r hr h1
    · by_cases h2 : n = 1 ∨ n = 3
      · exact cmd_c w g zs W h n r hr h2
      · exact cmd_d w g zs W h n r hr (by omega)
end Go.Proofs.Ytapjjeffegnflaa.Cod
