/- What Put, Eight, and the document's Bytes and Big give (layer 9, wire). Conditions: the bytes lie in memory as their cells say, and are not more than 100000; the number is a word of 64 bits. -/
import Derived.Test.YtacgmhnalbbgbaaWirB
namespace Go.Proofs.Ytacgmhnalbbgbaa.Wir
open Go.RowKit Cmd Bat
set_option linter.unusedVariables false

theorem own_full {w : World} {q : Option Addr} {zs : List UInt8} (base : Nat) (h : layB.Row w (.slice q zs.length zs.length) zs) (h0 : q = none → zs.length = 0) : Grows w base (.slice q zs.length zs.length) zs := .inr ⟨h, q, rfl, h0⟩
theorem one_is (w : World) (c : UInt8) (k : Int) (h : (c.toNat : Int) = k) : ∀ j u, ([c].map encB)[j]? = some u → (w.alloc (.cells #[.int .u8 k] 5)).cell? ((⟨w.heap.size, 0, none⟩ : Addr).add j) = some u := by
  subst h; exact cell_one_new _ _ _
theorem below_one' {n : Nat} {w : World} (h : n ≤ w.heap.size) (o : Obj) : Below n w (w.alloc o) := (below_one w o).mono h
theorem alloc_le {n : Nat} {w : World} (h : n ≤ w.heap.size) (o : Obj) : n ≤ (w.alloc o).heap.size := by simp; omega
theorem put_step {ys zs r : List UInt8} {m : Nat} (h : ys ++ enc m = zs ++ r) (hm : ¬ m < 128) : (ys ++ [UInt8.ofNat (m % 128 + 128)]) ++ enc (m / 128) = zs ++ r := by
  rw [← h, enc_more hm, List.append_assoc, List.singleton_append]
theorem put_last {ys zs r : List UInt8} {m : Nat} (h : ys ++ enc m = zs ++ r) (hm : m < 128) : ys ++ [UInt8.ofNat m] = zs ++ r := by
  rw [← h, enc_small hm]
theorem put_len {ys zs r : List UInt8} {m : Nat} (h : ys ++ enc m = zs ++ r) (hm : ¬ m < 128) (hz : zs.length ≤ 100000) (hr : r.length ≤ 10) : (ys ++ [UInt8.ofNat (m % 128 + 128)]).length ≤ 100010 := by
  have e := congrArg List.length (put_step h hm)
  have e1 : (ys ++ [UInt8.ofNat (m % 128 + 128)] ++ enc (m / 128)).length = (ys ++ [UInt8.ofNat (m % 128 + 128)]).length + (enc (m / 128)).length := List.length_append
  have e2 : (zs ++ r).length = zs.length + r.length := List.length_append
  omega
theorem byte_int (n : Nat) (h : n < 256) : ((UInt8.ofNat n).toNat : Int) = n := by rw [ofNat_toNat]; omega



/-! ### Eight, the document's Big -/
theorem eight_quo (n k : Nat) : (n : Int) / 2 ^ (8 * (k : Int)).toNat = ((n / 256 ^ k : Nat) : Int) := by
  rw [show (8 * (k : Int)).toNat = 8 * k by omega, show (256 : Nat) = 2 ^ 8 from rfl, ← Nat.pow_mul, Int.natCast_ediv]
  simp
theorem byte_wrap (q : Nat) : IntKind.u8.wrap (q : Int) = ((UInt8.ofNat q).toNat : Int) := by rw [IntKind.wrap_u8, ofNat_toNat]; omega
theorem big_step (zs : List UInt8) (n j : Nat) (hj : j ≤ 7) : (zs ++ bigT n (8 - (j + 1))) ++ [UInt8.ofNat (n / 256 ^ j)] = zs ++ bigT n (8 - j) := by
  rw [show 8 - j = 8 - (j + 1) + 1 by omega, bigT_succ, show 7 - (8 - (j + 1)) = j by omega, List.append_assoc]
set_option maxHeartbeats 4000000 in
set_option maxRecDepth 100000 in
theorem eight_any (v : Value) (zs : List UInt8) (n : Nat) (w : World) (h : layB.Row w v zs) (hl : zs.length ≤ 100000) (hn : n < 18446744073709551616) : Calls Try.prog 47 #[v, .int .u64 n] w (GivesB (zs ++ big n) w) := by
  have HF := Lib.hid (full_any v zs w h)
  clear h
  go_enter Try.func47, Try.ntmps47
  go_wp2_with (first
    | (go_at_call 66; (with_reducible refine HF.out.mono ?_); rintro e w1 ⟨⟨q, rfl, hr, h0⟩, rfl⟩; have HG := Lib.hid (own_full w.heap.size hr h0); clear hr h0))
  go_loopw [0, 5] (fun o i wr => ∃ k : Nat, k ≤ 8 ∧ i = .int .i64 ((k : Int) - 1) ∧ Hid (Below w.heap.size w wr) ∧ Hid (Grows wr w.heap.size o (zs ++ bigT n (8 - k))) ∧ Hid (k < 8 → OwnB wr w.heap.size o (zs ++ bigT n (8 - k)))) (fun _ i _ => (intOf i + 1).toNat)
  case atStart => exact ⟨8, Nat.le_refl _, rfl, Lib.hid (Below.refl _ _), Lib.hid (by rw [Nat.sub_self]; show Grows w _ _ (zs ++ []); rw [List.append_nil]; exact HG.out), Lib.hid fun h => absurd h (Nat.lt_irrefl _)⟩
  case round =>
    obtain ⟨k, hk, rfl, hbw, hown, hend⟩ := hrel
    have hs : w.heap.size ≤ wr.heap.size := hbw.out.size
    have HR := Lib.hid (fun o => hown.out.on (below_one wr o))
    rcases k with _ | j
    · go_wp2
      go_ret
      exact ⟨_, rfl, hend.out (by decide), hbw.out⟩
    · rw [show (((j + 1 : Nat) : Int) - 1) = (j : Int) by omega]
      have j0 : (0 : Int) ≤ (j : Int) := by omega
      have hq := eight_quo n j
      have HS := Lib.hid (big_step zs n j (by omega))
      obtain ⟨q', hq'⟩ : ∃ q', n / 256 ^ j = q' := ⟨_, rfl⟩
      rw [hq'] at hq HS
      have hb := byte_wrap q'
      have HC := Lib.hid (fun o => one_is o (UInt8.ofNat q') _ rfl)
      have HY : Hid ((zs ++ bigT n (8 - (j + 1))).length + [UInt8.ofNat q'].length ≤ 1000000) := Lib.hid (by rw [List.length_singleton, List.length_append, bigT_len]; omega)
      generalize UInt8.ofNat q' = c at hb HS HC HY
      go_wp2_with (first
        | (at_builtin; refine wp_more rfl _ _ rfl w.heap.size _ (zs ++ bigT n (8 - (j + 1))) rfl (HR.out _) (alloc_le hs _) ⟨wr.heap.size, 0, none⟩ 1 1 [c] rfl rfl (HC.out _) HY.out (Nat.succ_pos _) ?_; intro v1 w3 HO HB))
      go_roundw
      case rel => exact ⟨j, by omega, by go_num, Lib.hid ((hbw.out.trans (below_one' hs _)).trans HB.out), Lib.hid (.inl (by rw [← HS.out]; exact HO.out)), Lib.hid fun _ => by rw [← HS.out]; exact HO.out⟩
      case measure => simp [intOf]
set_option maxHeartbeats 4000000 in
set_option maxRecDepth 100000 in
theorem big_any (n : Nat) (w : World) (hn : n < 18446744073709551616) : Calls Try.prog 60 #[.int .u64 n] w (GivesB (big n) w) := by
  go_enter Try.func60, Try.ntmps60
  go_wp2
  go_loopw [3, 4] (fun o i wr => ∃ k : Nat, k ≤ 8 ∧ i = .int .i64 ((k : Int) - 1) ∧ Hid (Below w.heap.size w wr) ∧ Hid (Grows wr w.heap.size o ([] ++ bigT n (8 - k))) ∧ Hid (k < 8 → OwnB wr w.heap.size o ([] ++ bigT n (8 - k)))) (fun _ i _ => (intOf i + 1).toNat)
  case atStart => exact ⟨8, Nat.le_refl _, rfl, Lib.hid (below_one _ _), Lib.hid (.inl (World.ownsRow_made w #[] 0 (Nat.le_refl _) (by decide) rfl)), Lib.hid fun h => absurd h (Nat.lt_irrefl _)⟩
  case round =>
    obtain ⟨k, hk, rfl, hbw, hown, hend⟩ := hrel
    have hs : w.heap.size ≤ wr.heap.size := hbw.out.size
    have HR := Lib.hid (fun o => hown.out.on (below_one wr o))
    rcases k with _ | j
    · go_wp2
      go_ret
      exact ⟨_, rfl, hend.out (by decide), hbw.out⟩
    · rw [show (((j + 1 : Nat) : Int) - 1) = (j : Int) by omega]
      have j0 : (0 : Int) ≤ (j : Int) := by omega
      have hq := eight_quo n j
      have HS := Lib.hid (big_step [] n j (by omega))
      obtain ⟨q', hq'⟩ : ∃ q', n / 256 ^ j = q' := ⟨_, rfl⟩
      rw [hq'] at hq HS
      have hb := byte_wrap q'
      have HC := Lib.hid (fun o => one_is o (UInt8.ofNat q') _ rfl)
      have HY : Hid (([] ++ bigT n (8 - (j + 1))).length + [UInt8.ofNat q'].length ≤ 1000000) := Lib.hid (by rw [List.length_singleton, List.nil_append, bigT_len]; omega)
      generalize UInt8.ofNat q' = c at hb HS HC HY
      go_wp2_with (first
        | (at_builtin; refine wp_more rfl _ _ rfl w.heap.size _ ([] ++ bigT n (8 - (j + 1))) rfl (HR.out _) (alloc_le hs _) ⟨wr.heap.size, 0, none⟩ 1 1 [c] rfl rfl (HC.out _) HY.out (Nat.succ_pos _) ?_; intro v1 w3 HO HB))
      go_roundw
      case rel => exact ⟨j, by omega, by go_num, Lib.hid ((hbw.out.trans (below_one' hs _)).trans HB.out), Lib.hid (.inl (by rw [← HS.out]; exact HO.out)), Lib.hid fun _ => by rw [← HS.out]; exact HO.out⟩
      case measure => simp [intOf]
end Go.Proofs.Ytacgmhnalbbgbaa.Wir
