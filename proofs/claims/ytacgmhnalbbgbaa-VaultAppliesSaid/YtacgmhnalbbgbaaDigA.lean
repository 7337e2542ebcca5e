/- Plain facts on the digest (layer 10): byte by byte, exclusive or, times an odd number, modulo 2^64; what is sealed is opened, not with one byte changed. No condition but those in each statement. -/
import Derived.Test.YtacgmhnalbbgbaaWirA
namespace Go.Proofs.Ytacgmhnalbbgbaa.Dig
open Wir
set_option linter.unusedVariables false

/-! ### The digest -/
def dstep (h : Nat) (c : UInt8) : Nat := ((h ^^^ c.toNat) * 1099511628211) % 18446744073709551616
theorem dstep_lt (h : Nat) (c : UInt8) : dstep h c < 18446744073709551616 := by unfold dstep; omega
def dig (h : Nat) (zs : List UInt8) : Nat := zs.foldl dstep h
theorem dig_nil (h : Nat) : dig h [] = h := rfl
theorem dig_append (h : Nat) (a b : List UInt8) : dig h (a ++ b) = dig (dig h a) b := List.foldl_append
theorem dig_cons (h : Nat) (c : UInt8) (a : List UInt8) : dig h (c :: a) = dig (dstep h c) a := by unfold dig; rw [List.foldl_cons]
theorem dig_snoc (h : Nat) (a : List UInt8) (c : UInt8) : dig h (a ++ [c]) = dstep (dig h a) c := by rw [dig_append, dig_cons, dig_nil]
theorem dig_lt : ∀ (zs : List UInt8) {h : Nat}, h < 18446744073709551616 → dig h zs < 18446744073709551616
  | [], _, hh => hh
  | c :: r, h, _ => dig_lt r (dstep_lt h c)
def dg (zs : List UInt8) : Nat := dig 14695981039346656037 zs
theorem dg_lt (zs : List UInt8) : dg zs < 18446744073709551616 := dig_lt zs (by decide)

/-! ### One to one -/
theorem fac_inj {x y : Nat} (hx : x < 18446744073709551616) (hy : y < 18446744073709551616) (h : (x * 1099511628211) % 18446744073709551616 = (y * 1099511628211) % 18446744073709551616) : x = y := by
  have key : ∀ z : Nat, z < 18446744073709551616 → ((z * 1099511628211) % 18446744073709551616 * 14886173955864302971) % 18446744073709551616 = z := fun z hz => by
    rw [Nat.mod_mul_mod, Nat.mul_assoc]
    rw [show 1099511628211 * 14886173955864302971 = 1 + 18446744073709551616 * 887285111055 by decide, Nat.mul_add, Nat.mul_one, ← Nat.mul_assoc, Nat.mul_comm z 18446744073709551616, Nat.mul_assoc, Nat.add_mul_mod_self_left]
    exact Nat.mod_eq_of_lt hz
  rw [← key x hx, ← key y hy, h]
theorem xor_lt {h : Nat} (hh : h < 18446744073709551616) (c : UInt8) : h ^^^ c.toNat < 18446744073709551616 := Nat.xor_lt_two_pow (n := 64) hh (Nat.lt_trans (byte_lt c) (by decide))
theorem xor_left {a b c : Nat} (h : a ^^^ c = b ^^^ c) : a = b := by
  have := congrArg (· ^^^ c) h
  simpa [Nat.xor_assoc] using this
theorem xor_right {a b c : Nat} (h : a ^^^ b = a ^^^ c) : b = c := by
  rw [Nat.xor_comm a b, Nat.xor_comm a c] at h; exact xor_left h
theorem dstep_sum {h g : Nat} {c : UInt8} (hh : h < 18446744073709551616) (hg : g < 18446744073709551616) (e : dstep h c = dstep g c) : h = g := xor_left (fac_inj (xor_lt hh c) (xor_lt hg c) e)
theorem dstep_byte {h : Nat} {c d : UInt8} (hh : h < 18446744073709551616) (e : dstep h c = dstep h d) : c = d := byte_eq (xor_right (fac_inj (xor_lt hh c) (xor_lt hh d) e))
theorem dig_sum : ∀ (zs : List UInt8) {h g : Nat}, h < 18446744073709551616 → g < 18446744073709551616 → dig h zs = dig g zs → h = g
  | [], _, _, _, _, e => e
  | c :: r, h, g, hh, hg, e => dstep_sum hh hg (dig_sum r (dstep_lt h c) (dstep_lt g c) e)
theorem dg_set {zs : List UInt8} {k : Nat} (hk : k < zs.length) {c : UInt8} (h : dg (zs.set k c) = dg zs) : c = zs[k] := by
  have e1 : zs.set k c = zs.take k ++ c :: zs.drop (k + 1) := List.set_eq_take_append_cons_drop .. |>.trans (if_pos hk)
  have e2 : zs = zs.take k ++ zs[k] :: zs.drop (k + 1) := by rw [List.getElem_cons_drop, List.take_append_drop]
  unfold dg at h
  rw [e1] at h
  have h2 : dig 14695981039346656037 (zs.take k ++ c :: zs.drop (k + 1)) = dig 14695981039346656037 (zs.take k ++ zs[k] :: zs.drop (k + 1)) := h.trans (congrArg _ e2)
  rw [dig_append, dig_append, dig_cons, dig_cons] at h2
  exact dstep_byte (dig_lt _ (by decide)) (dig_sum _ (dstep_lt _ _) (dstep_lt _ _) h2)

/-! ### Sealed, opened -/
def sealt (zs : List UInt8) : List UInt8 := zs ++ big (dg zs)
theorem seal_len (zs : List UInt8) : (sealt zs).length = zs.length + 8 := by unfold sealt; rw [List.length_append, big_len]
/-- What Open answers. -/
def opn (zs : List UInt8) : List UInt8 × Nat := if zs.length < 8 then ([], 4) else if un (zs.drop (zs.length - 8)) = dg (zs.take (zs.length - 8)) then (zs.take (zs.length - 8), 0) else ([], 21)
theorem opn_short {zs : List UInt8} (h : zs.length < 8) : opn zs = ([], 4) := if_pos h
theorem opn_ok {zs : List UInt8} (h : ¬ zs.length < 8) (hd : un (zs.drop (zs.length - 8)) = dg (zs.take (zs.length - 8))) : opn zs = (zs.take (zs.length - 8), 0) := (if_neg h).trans (if_pos hd)
theorem opn_bad {zs : List UInt8} (h : ¬ zs.length < 8) (hd : ¬ un (zs.drop (zs.length - 8)) = dg (zs.take (zs.length - 8))) : opn zs = ([], 21) := (if_neg h).trans (if_neg hd)
theorem seal_take (zs : List UInt8) : (sealt zs).take ((sealt zs).length - 8) = zs := by
  rw [seal_len, Nat.add_sub_cancel]; unfold sealt; exact List.take_left
theorem seal_drop (zs : List UInt8) : (sealt zs).drop ((sealt zs).length - 8) = big (dg zs) := by
  rw [seal_len, Nat.add_sub_cancel]; unfold sealt; exact List.drop_left
theorem seal_left {zs : List UInt8} {k : Nat} (hk : k < (sealt zs).length) (h : k < zs.length) : (sealt zs)[k] = zs[k] := List.getElem_append_left h
theorem seal_right {zs : List UInt8} {k : Nat} (hk : k < (sealt zs).length) (h : zs.length ≤ k) (h2 : k - zs.length < (big (dg zs)).length) : (sealt zs)[k] = (big (dg zs))[k - zs.length] := List.getElem_append_right h
theorem opn_seal (zs : List UInt8) : opn (sealt zs) = (zs, 0) := by
  rw [opn_ok (by rw [seal_len]; omega) (by rw [seal_take, seal_drop, un_big (dg_lt zs)]), seal_take]
theorem opn_big {zs : List UInt8} (h : ¬ zs.length < 8) : (opn zs).2 = 0 ↔ zs.drop (zs.length - 8) = big (dg (zs.take (zs.length - 8))) := by
  have hl : (zs.drop (zs.length - 8)).length = 8 := by rw [List.length_drop]; omega
  by_cases hd : un (zs.drop (zs.length - 8)) = dg (zs.take (zs.length - 8))
  · rw [opn_ok h hd, ← hd, big_of_un hl]; exact ⟨fun _ => rfl, fun _ => rfl⟩
  · rw [opn_bad h hd]
    exact ⟨fun e => by simp at e, fun e => absurd (by rw [e, un_big (dg_lt _)]) hd⟩
/-- With one byte changed there is nothing. -/
theorem opn_set (zs : List UInt8) {k : Nat} (hk : k < (sealt zs).length) (c : UInt8) : (opn ((sealt zs).set k c)).2 = 0 ↔ c = (sealt zs)[k] := by
  have hL := seal_len zs
  constructor
  · intro h
    have hl : ((sealt zs).set k c).length = zs.length + 8 := by rw [List.length_set, hL]
    rw [opn_big (by rw [hl]; omega), hl, Nat.add_sub_cancel] at h
    by_cases hz : k < zs.length
    · have e1 : ((sealt zs).set k c).take zs.length = zs.set k c := by
        rw [List.take_set]; congr 1; unfold sealt; exact List.take_left
      have e2 : ((sealt zs).set k c).drop zs.length = big (dg zs) := by
        rw [List.drop_set_of_lt hz]; unfold sealt; exact List.drop_left
      rw [e1, e2] at h
      have h3 := congrArg un h
      rw [un_big (dg_lt _), un_big (dg_lt _)] at h3
      have h4 := dg_set hz h3.symm
      rw [h4, seal_left hk hz]
    · have e1 : ((sealt zs).set k c).take zs.length = zs := by
        rw [List.take_set_of_le (by omega)]; unfold sealt; exact List.take_left
      have e2 : ((sealt zs).set k c).drop zs.length = (big (dg zs)).set (k - zs.length) c := by
        rw [List.drop_set, if_neg hz]; congr 1; unfold sealt; exact List.drop_left
      rw [e1, e2] at h
      have hb : k - zs.length < (big (dg zs)).length := by rw [big_len]; omega
      have h3 : ((big (dg zs)).set (k - zs.length) c)[k - zs.length]'(by rw [List.length_set]; exact hb) = (big (dg zs))[k - zs.length] := by
        simp only [h]
      rw [List.getElem_set_self] at h3
      rw [h3, seal_right hk (by omega) hb]
  · rintro rfl
    rw [List.set_getElem_self, opn_seal]
theorem opn_err (zs : List UInt8) : (opn zs).2 = 0 ∨ (opn zs).2 = 4 ∨ (opn zs).2 = 21 := by
  by_cases h : zs.length < 8
  · rw [opn_short h]; simp
  · by_cases hd : un (zs.drop (zs.length - 8)) = dg (zs.take (zs.length - 8))
    · rw [opn_ok h hd]; simp
    · rw [opn_bad h hd]; simp
end Go.Proofs.Ytacgmhnalbbgbaa.Dig
