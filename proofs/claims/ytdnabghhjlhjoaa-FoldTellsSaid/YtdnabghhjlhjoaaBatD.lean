/- What the document's Check, Conflict and Same give over lists of commands, and the program's Same (layer 7, batch). Conditions: the lists lie in memory as their cells say; numbers' words of 64 bits; texts of a length that Go reads. -/
import Derived.Test.YtdnabghhjlhjoaaBatC

namespace Go.Proofs.Ytdnabghhjlhjoaa.Bat
open Go.RowKit Cmd
set_option linter.unusedVariables false

/-- A float is one cell: a store of it. -/
@[go_sem] theorem run_store_float {P : Program} {w : World} {m : Mode} (a : Addr) (k : FloatKind) (b : Nat) : (store a (.float k b) m).run P w = stored P w a (.float k b) m := run_store P w a _ m rfl
theorem wf_len {c : Int} {s : List UInt8} {f : Nat} (h : wfC (c, s, f)) : (s.length : Int) ≤ 9223372036854775807 := by have := h.2; simp at this; omega
theorem wf_at {zs : List Cmdn} (h : ∀ x ∈ zs, wfC x) {k : Nat} (hk : k < zs.length) {c : Int} {s : List UInt8} {f : Nat} (hx : layC.at zs k = (c, s, f)) : wfC (c, s, f) := hx ▸ h _ (layC.at_mem hk)

set_option maxHeartbeats 1000000 in
theorem refcheck_any (v : Value) (zs : List Cmdn) (w : World) (h : layC.Row w v zs) (hw : ∀ x ∈ zs, wfC x) : Calls Try.prog 20 #[v] w (RetBelow (.int .i64 (bErr zs)) w) := by
  obtain ⟨p, cap, rfl, h1, hd⟩ := h.parts
  obtain ⟨n, hn⟩ : ∃ n, n = zs.length := ⟨_, rfl⟩
  have HE : Hid (bErr zs = if 8 < zs.length then 5 else if (zs.any fun x => !right x) = true then 12 else 0) := Lib.hid rfl
  rw [← hn] at h1 hd HE ⊢
  have HZ := Lib.hid hn
  have HW := Lib.hid hw
  clear h hn hw
  by_cases h8 : 8 < n
  · have h2 : 8 < (n : Int) := by omega
    rw [if_pos h8] at HE
    clear h8 hd
    go_enter Try.func20, Try.ntmps20
    go_wp2
    go_ret
    exact ⟨ret_int HE.out.symm, Below.refl _ _⟩
  · have h2 : ¬ 8 < (n : Int) := by omega
    rw [if_neg h8] at HE
    have HT : Hid (∀ j, j < n → right (layC.at zs j) = false → (zs.any fun x => !right x) = true) := Lib.hid fun j hj h => List.any_eq_true.2 ⟨_, layC.at_mem (by rw [← HZ.out]; exact hj), by rw [h]; rfl⟩
    have HF : Hid ((∀ j, j < n → right (layC.at zs j) = true) → (zs.any fun x => !right x) = false) := Lib.hid fun h => by
      rw [List.any_eq_false]
      intro x hx
      obtain ⟨j, hj, rfl⟩ := (Lay.mem (L := layC)).1 hx
      rw [h j (by rw [HZ.out]; exact hj)]; decide
    generalize (zs.any fun x => !right x) = r at HE HT HF
    clear h8
    go_enter Try.func20, Try.ntmps20
    go_wp2
    go_loopw [3] (fun i wr => ∃ k : Nat, k ≤ n ∧ i = .int .i64 k ∧ Hid (Below w.heap.size w wr) ∧ Hid (∀ j, j < k → right (layC.at zs j) = true)) (fun i _ => n - (intOf i).toNat)
    case atStart => exact ⟨0, Nat.zero_le _, rfl, Lib.hid (Below.refl _ _), Lib.hid fun j hj => absurd hj (Nat.not_lt_zero _)⟩
    case round =>
      obtain ⟨k, hk, rfl, hbw, hno⟩ := hrel
      by_cases hkn : k < n
      · obtain ⟨B, off, rfl, HC⟩ := hd.resolve_left (by omega)
        have hkz : k < zs.length := by rw [← HZ.out]; exact hkn
        obtain ⟨c, s, f, hx⟩ : ∃ c s f, layC.at zs k = (c, s, f) := ⟨_, _, _, rfl⟩
        obtain ⟨c0, c1, c2⟩ := cellC (HC.out.on hbw.out) hkz hx
        have hwx := wf_at HW.out hkz hx
        have HR := Lib.hid (fun w => right_any c s f w hwx.1 (wf_len hwx))
        have hrx : right (layC.at zs k) = cRight c s f := by rw [hx]; rfl
        have HX := Lib.hid hrx
        have k0 : (0 : Int) ≤ k := by omega
        have kn : (k : Int) < n := by omega
        clear hx hd hrx hwx hkz
        generalize cRight c s f = q at HR HX
        cases q with
        | true =>
          go_wp2_with (go_at_call 26; (with_reducible refine (HR.out _).mono ?_); rintro e w1 ⟨rfl, hb⟩; have HB := Lib.hid hb; clear hb)
          go_roundw
          case rel => exact ⟨k + 1, by omega, by go_num, Lib.hid (hbw.out.trans (HB.out.mono hbw.out.size)), Lib.hid fun j hj => by
            by_cases e : j = k
            · rw [e]; exact HX.out
            · exact hno.out j (by omega)⟩
          case measure => simp [intOf]; omega
        | false =>
          have HR2 : Hid (r = true) := Lib.hid (HT.out k hkn HX.out)
          go_wp2_with (go_at_call 26; (with_reducible refine (HR.out _).mono ?_); rintro e w1 ⟨rfl, hb⟩; have HB := Lib.hid hb; clear hb)
          go_ret
          exact ⟨ret_int (by rw [HE.out, HR2.out]; rfl), hbw.out.trans (HB.out.mono hbw.out.size)⟩
      · have kn : ¬ (k : Int) < n := by omega
        obtain rfl : k = n := by omega
        clear hd
        have HR2 : Hid (r = false) := Lib.hid (HF.out hno.out)
        go_wp2
        go_ret
        exact ⟨ret_int (by rw [HE.out, HR2.out]; rfl), hbw.out⟩

/-! ### Same -/
def bSame (xs ys : List Cmdn) : Bool := decide (xs.length = ys.length) && (List.range xs.length).all fun j => same (layC.at xs j) (layC.at ys j)
theorem bsame_len {xs ys : List Cmdn} (h : xs.length ≠ ys.length) : bSame xs ys = false := by unfold bSame; rw [decide_eq_false h]; rfl
theorem bsame_no {xs ys : List Cmdn} {k : Nat} (hk : k < xs.length) (h : same (layC.at xs k) (layC.at ys k) = false) : bSame xs ys = false := by
  unfold bSame
  rw [Bool.and_eq_false_iff]; right
  rw [List.all_eq_false]
  exact ⟨k, List.mem_range.2 hk, by rw [h]; decide⟩
theorem bsame_yes {xs ys : List Cmdn} (hl : xs.length = ys.length) (h : ∀ j, j < xs.length → same (layC.at xs j) (layC.at ys j) = true) : bSame xs ys = true := by
  unfold bSame
  rw [decide_eq_true hl, Bool.true_and, List.all_eq_true]
  exact fun j hj => h j (List.mem_range.1 hj)

theorem pairC {w : World} {B off B' off' : Nat} {xs ys : List Cmdn} (h : layC.In w B off xs) (h' : layC.In w B' off' ys) {j k : Nat} (hj : j < xs.length) (hk : k < ys.length) {c : Int} {s : List UInt8} {f : Nat} {c' : Int} {s' : List UInt8} {f' : Nat} (hx : layC.at xs j = (c, s, f)) (hy : layC.at ys k = (c', s', f')) {W : World} (hb : Below w.heap.size w W) :
    W.cell? ⟨B, off + j * 3, none⟩ = some (.int .i64 c) ∧ W.cell? ⟨B, off + j * 3 + 1, none⟩ = some (.string (str s)) ∧ W.cell? ⟨B, off + j * 3 + 2, none⟩ = some (.float .f64 f) ∧ W.cell? ⟨B', off' + k * 3, none⟩ = some (.int .i64 c') ∧ W.cell? ⟨B', off' + k * 3 + 1, none⟩ = some (.string (str s')) ∧ W.cell? ⟨B', off' + k * 3 + 2, none⟩ = some (.float .f64 f') := by
  obtain ⟨a0, a1, a2⟩ := cellC (h.on hb) hj hx
  obtain ⟨b0, b1, b2⟩ := cellC (h'.on hb) hk hy
  exact ⟨a0, a1, a2, b0, b1, b2⟩


end Go.Proofs.Ytdnabghhjlhjoaa.Bat
