/- What GetText gives; the statements' small play of layer 9 (wire). Conditions: the bytes lie in memory as their cells say, and are not more than 100000. -/
import Derived.Test.YtapjjeffegnflaaWirF
namespace Go.Proofs.Ytapjjeffegnflaa.Wir
open Go.RowKit Cmd Bat
set_option linter.unusedVariables false

/-- What GetText answers. -/
def gtext (zs : List UInt8) (most : Nat) : List UInt8 × Nat × Nat :=
  if (rd zs 0 0).2.2 ≠ 0 then ([], 0, (rd zs 0 0).2.2) else if most < (rd zs 0 0).1 then ([], 0, 18) else if zs.length - (rd zs 0 0).2.1 < (rd zs 0 0).1 then ([], 0, 4)
  else ((zs.take ((rd zs 0 0).2.1 + (rd zs 0 0).1)).drop (rd zs 0 0).2.1, (rd zs 0 0).2.1 + (rd zs 0 0).1, 0)
theorem gt_err {zs : List UInt8} {most n j e : Nat} (h : rd zs 0 0 = (n, j, e)) (he : e ≠ 0) : gtext zs most = ([], 0, e) := by unfold gtext; rw [h]; exact if_pos he
theorem gt_long {zs : List UInt8} {most n j : Nat} (h : rd zs 0 0 = (n, j, 0)) (hm : most < n) : gtext zs most = ([], 0, 18) := by unfold gtext; rw [h]; rw [if_neg (by simp), if_pos hm]
theorem gt_end {zs : List UInt8} {most n j : Nat} (h : rd zs 0 0 = (n, j, 0)) (hm : ¬ most < n) (hl : zs.length - j < n) : gtext zs most = ([], 0, 4) := by unfold gtext; rw [h]; rw [if_neg (by simp), if_neg hm, if_pos hl]
theorem gt_ok {zs : List UInt8} {most n j : Nat} (h : rd zs 0 0 = (n, j, 0)) (hm : ¬ most < n) (hl : ¬ zs.length - j < n) : gtext zs most = ((zs.take (j + n)).drop j, j + n, 0) := by unfold gtext; rw [h]; rw [if_neg (by simp), if_neg hm, if_neg hl]
def retT (r : List UInt8 × Nat × Nat) : Ending := .returned (.tuple #[.string (str r.1), .int .i64 (r.2.1 : Int), .int .i64 (r.2.2 : Int)])
theorem retT_eq {r : List UInt8 × Nat × Nat} {t : ByteArray} {b c : Int} {s : List UInt8} {j e : Nat} (h : r = (s, j, e)) (ha : t = str s) (hb : b = j) (hc : c = e) : Ending.returned (.tuple #[.string t, .int .i64 b, .int .i64 c]) = retT r := by subst h ha hb hc; rfl

set_option maxHeartbeats 4000000 in
set_option maxRecDepth 100000 in
theorem gettext_any (v : Value) (zs : List UInt8) (most : Nat) (w : World) (h : layB.Row w v zs) (hl : zs.length ≤ 100000) (hm : most ≤ 100000) : Calls Try.prog 83 #[v, .int .i64 most] w fun e w' => e = retT (gtext zs most) ∧ w = w' := by
  have HC := Lib.hid (get_any v zs w h)
  obtain ⟨n, j, e, hr⟩ : ∃ n j e, rd zs 0 0 = (n, j, e) := ⟨_, _, _, rfl⟩
  have hi := rd_is zs 0 0 n j e hr (by decide) (by decide)
  have G1 := Lib.hid (fun he => gt_err (most := most) hr he)
  have G2 := Lib.hid (fun (he : e = 0) hm => gt_long (zs := zs) (most := most) (n := n) (j := j) (by rw [hr, he]) hm)
  have G3 := Lib.hid (fun (he : e = 0) hm hl => gt_end (zs := zs) (most := most) (n := n) (j := j) (by rw [hr, he]) hm hl)
  have G4 := Lib.hid (fun (he : e = 0) hm hl => gt_ok (zs := zs) (most := most) (n := n) (j := j) (by rw [hr, he]) hm hl)
  rw [hr] at HC
  generalize gtext zs most = g at G1 G2 G3 G4 ⊢
  have hrow := Lib.hid h
  obtain ⟨p, cap, rfl, g1, g2, -⟩ := h
  obtain ⟨L, hL⟩ : ∃ L, L = zs.length := ⟨_, rfl⟩
  rw [← hL] at g1 hl hi HC ⊢
  have HLL := Lib.hid hL
  rw [← hL] at G3 G4
  have hm1 : (most : Int) ≤ 100000 := by omega
  have hm0 : (0 : Int) ≤ most := by omega
  have hL1 : (L : Int) ≤ 100000 := by omega
  clear hr hL
  unfold ret3 at HC
  rcases hi with ⟨rfl, j1, j2, n1⟩ | ⟨he, rfl, rfl⟩
  · by_cases h1 : most < n
    · have h2 : (most : Int) < n := by omega
      have HG := Lib.hid (G2.out rfl h1)
      go_enter Try.func83, Try.ntmps83
      go_wp2_with (first
        | (go_at_call 68; (with_reducible refine HC.out.mono ?_); rintro e w1 ⟨rfl, rfl⟩))
      go_ret3
      exact ⟨retT_eq HG.out rfl rfl rfl, rfl⟩
    · have h2 : ¬ (most : Int) < n := by omega
      by_cases h3 : L - j < n
      · have h4 : (L : Int) - j < n := by omega
        have HG := Lib.hid (G3.out rfl h1 h3)
        go_enter Try.func83, Try.ntmps83
        go_wp2_with (first
          | (go_at_call 68; (with_reducible refine HC.out.mono ?_); rintro e w1 ⟨rfl, rfl⟩))
        go_ret3
        exact ⟨retT_eq HG.out rfl rfl rfl, rfl⟩
      · have h4 : ¬ (L : Int) - j < n := by omega
        have HG := Lib.hid (G4.out rfl h1 h3)
        have hcut := fun w => cut_both p L cap j (j + n) (by omega) (by omega) w
        have hrc := row_cut hrow.out j (j + n) cap (by omega) (by rw [← HLL.out]; omega) (by omega) g2
        obtain ⟨V, hV⟩ : ∃ V, V = Value.slice (cutq p j cap) (j + n - j) (cap - j) := ⟨_, rfl⟩
        have ht := text_run hrc
        rw [← hV] at ht
        simp only [← hV, Int.natCast_add] at hcut
        have h5 : (j : Int) + n ≤ 200000 := by omega
        clear hrc hV
        go_enter Try.func83, Try.ntmps83
        go_wp2_with (first
          | (go_at_call 68; (with_reducible refine HC.out.mono ?_); rintro e w1 ⟨rfl, rfl⟩))
        go_ret3
        exact ⟨retT_eq HG.out rfl (Int.natCast_add _ _).symm rfl, rfl⟩
  · have hne : (e : Int) ≠ 0 := by omega
    have hne2 : ((e : Int) != 0) = true := by rw [bne_iff_ne]; exact hne
    have HG := Lib.hid (G1.out (by omega))
    go_enter Try.func83, Try.ntmps83
    go_wp2_with (first
      | (go_at_call 68; (with_reducible refine HC.out.mono ?_); rintro e w1 ⟨rfl, rfl⟩))
    go_ret3
    exact ⟨retT_eq HG.out rfl rfl rfl, rfl⟩

/-! ### The statements' play -/
/-- A new row, its value written out. -/
def GivesR (zs : List UInt8) (n : Nat) (w : World) (e : Ending) (w' : World) : Prop := ∃ p cap, e = .returned (.slice p n cap) ∧ (n ≤ cap ∧ cap ≤ 9223372036854775807) ∧ layB.Row w' (.slice p n cap) zs ∧ Below w.heap.size w w'
theorem gives_row {zs ys : List UInt8} {n : Nat} {w : World} {e : Ending} {w' : World} (h : GivesB zs w e w') (hy : zs = ys) (hn : ys.length = n) : GivesR ys n w e w' := by
  subst hy hn
  obtain ⟨u, rfl, ho, hb⟩ := h
  obtain ⟨p, cap, rfl, h1, h2⟩ := own_len ho
  exact ⟨p, cap, rfl, ⟨h1, h2⟩, rowB ho, hb⟩
theorem nil_row (w : World) : layB.Row w (.slice none 0 0) [] := ⟨none, 0, rfl, Nat.le_refl _, by omega, fun h => absurd rfl h⟩
theorem seven_row (w : World) : layB.Row (w.alloc (.cells #[.int .u8 7] 5)) (.slice (some ⟨w.heap.size, 0, none⟩) 1 1) [7] := by
  refine ⟨_, 1, rfl, Nat.le_refl _, by omega, fun _ => ⟨w.heap.size, 0, rfl, by simp, fun j hj => ?_⟩⟩
  have : j = 0 := by simpa using hj
  subst this
  show (w.alloc (.cells #[.int .u8 7] 5)).cell? ⟨w.heap.size, 0, none⟩ = _
  rw [World.cell?_alloc_mark]; rfl
theorem enc_300 : [7] ++ enc 300 = [7, 172, 2] := by rw [enc_more (by decide), enc_small (by decide)]; decide
theorem txt_ab : [] ++ txt [97, 98] = [2, 97, 98] := by unfold txt; rw [enc_small (by decide)]; decide
theorem rd_300 : rd [172, 2] 0 0 = (300, 2, 0) := by decide
set_option maxRecDepth 100000 in
theorem cut_one (p : Option Addr) (cap : Nat) (h1 : 3 ≤ cap) (h2 : cap ≤ 9223372036854775807) : ∃ V, (∀ w, (Instr.slice 29 (.slice p 3 cap) (some (.int .i64 1)) none none).run Try.prog w = .ok V w) ∧ ∀ W, layB.Row W (.slice p 3 cap) [7, 172, 2] → layB.Row W V [172, 2] :=
  ⟨.slice (cutq p 1 cap) 2 (cap - 1), fun w => cut_from p 3 cap 1 (by decide) w, fun W h => row_cut h 1 3 cap (by decide) (by decide) h1 h2⟩
end Go.Proofs.Ytapjjeffegnflaa.Wir
