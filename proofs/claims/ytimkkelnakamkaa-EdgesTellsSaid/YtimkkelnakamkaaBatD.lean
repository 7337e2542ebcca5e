/- What the document's Check, Conflict and Same give over lists of commands, and the program's Same (layer 7, batch). Conditions: the lists lie in memory as their cells say; numbers' words of 64 bits; texts of a length that Go reads. -/
import Derived.Test.YtimkkelnakamkaaBatC

namespace Go.Proofs.Ytimkkelnakamkaa.Bat
open Go.RowKit Cmd
set_option linter.unusedVariables false

/-- A float is one cell: a store of it. -/
@[go_sem] theorem run_store_float {P : Program} {w : World} {m : Mode} (a : Addr) (k : FloatKind) (b : Nat) : (store a (.float k b) m).run P w = stored P w a (.float k b) m := run_store P w a _ m rfl
theorem wf_len {c : Int} {s : List UInt8} {f : Nat} (h : wfC (c, s, f)) : (s.length : Int) ≤ 9223372036854775807 := by have := h.2; simp at this; omega
theorem wf_at {zs : List Cmdn} (h : ∀ x ∈ zs, wfC x) {k : Nat} (hk : k < zs.length) {c : Int} {s : List UInt8} {f : Nat} (hx : layC.at zs k = (c, s, f)) : wfC (c, s, f) := hx ▸ h _ (layC.at_mem hk)

set_option maxHeartbeats 1000000 in
theorem refcheck_any (v : Value) (zs : List Cmdn) (w : World) (h : layC.Row w v zs) (hw : ∀ x ∈ zs, wfC x) : Calls Try.prog 37 #[v] w (RetBelow (.int .i64 (bErr zs)) w) := by
  obtain ⟨p, cap, rfl, h1, hd⟩ := h.parts
  obtain ⟨n, hn⟩ : ∃ n, n = zs.length := ⟨_, rfl⟩
  have HE : Hid (bErr zs = if 8 < zs.length then 5 else if (zs.any fun x => !right x) = true then 12 else 0) := Lib.hid rfl
  rw [← hn] at h1 hd HE ⊢
  have HZ := Lib.hid hn
  have HW := Lib.hid hw
  clear h hn hw
  by_cases h8 : 8 < n
  · have h2 : 8 < (n : Int) := by omega
    rw [if_pos h8] at HE
    clear h8 hd
    go_enter Try.func37, Try.ntmps37
    go_wp2
    go_ret
    exact ⟨ret_int HE.out.symm, Below.refl _ _⟩
  · have h2 : ¬ 8 < (n : Int) := by omega
    rw [if_neg h8] at HE
    have HT : Hid (∀ j, j < n → right (layC.at zs j) = false → (zs.any fun x => !right x) = true) := Lib.hid fun j hj h => List.any_eq_true.2 ⟨_, layC.at_mem (by rw [← HZ.out]; exact hj), by rw [h]; rfl⟩
    have HF : Hid ((∀ j, j < n → right (layC.at zs j) = true) → (zs.any fun x => !right x) = false) := Lib.hid fun h => by
      rw [List.any_eq_false]
      intro x hx
      obtain ⟨j, hj, rfl⟩ := (Lay.mem (L := layC)).1 hx
      rw [h j (by rw [HZ.out]; exact hj)]; decide
    generalize (zs.any fun x => !right x) = r at HE HT HF
    clear h8
    go_enter Try.func37, Try.ntmps37
    go_wp2
    go_loopw [3] (fun i wr => ∃ k : Nat, k ≤ n ∧ i = .int .i64 k ∧ Hid (Below w.heap.size w wr) ∧ Hid (∀ j, j < k → right (layC.at zs j) = true)) (fun i _ => n - (intOf i).toNat)
    case atStart => exact ⟨0, Nat.zero_le _, rfl, Lib.hid (Below.refl _ _), Lib.hid fun j hj => absurd hj (Nat.not_lt_zero _)⟩
    case round =>
      obtain ⟨k, hk, rfl, hbw, hno⟩ := hrel
      by_cases hkn : k < n
      · obtain ⟨B, off, rfl, HC⟩ := hd.resolve_left (by omega)
        have hkz : k < zs.length := by rw [← HZ.out]; exact hkn
        obtain ⟨c, s, f, hx⟩ : ∃ c s f, layC.at zs k = (c, s, f) := ⟨_, _, _, rfl⟩
        obtain ⟨c0, c1, c2⟩ := cellC (HC.out.on hbw.out) hkz hx
        have hwx := wf_at HW.out hkz hx
        have HR := Lib.hid (fun w => right_any c s f w hwx.1 (wf_len hwx))
        have hrx : right (layC.at zs k) = cRight c s f := by rw [hx]; rfl
        have HX := Lib.hid hrx
        have k0 : (0 : Int) ≤ k := by omega
        have kn : (k : Int) < n := by omega
        clear hx hd hrx hwx hkz
        generalize cRight c s f = q at HR HX
        cases q with
        | true =>
          go_wp2_with (go_at_call 53; (with_reducible refine (HR.out _).mono ?_); rintro e w1 ⟨rfl, hb⟩; have HB := Lib.hid hb; clear hb)
          go_roundw
          case rel => exact ⟨k + 1, by omega, by go_num, Lib.hid (hbw.out.trans (HB.out.mono hbw.out.size)), Lib.hid fun j hj => by
            by_cases e : j = k
            · rw [e]; exact HX.out
            · exact hno.out j (by omega)⟩
          case measure => simp [intOf]; omega
        | false =>
          have HR2 : Hid (r = true) := Lib.hid (HT.out k hkn HX.out)
          go_wp2_with (go_at_call 53; (with_reducible refine (HR.out _).mono ?_); rintro e w1 ⟨rfl, hb⟩; have HB := Lib.hid hb; clear hb)
          go_ret
          exact ⟨ret_int (by rw [HE.out, HR2.out]; rfl), hbw.out.trans (HB.out.mono hbw.out.size)⟩
      · have kn : ¬ (k : Int) < n := by omega
        obtain rfl : k = n := by omega
        clear hd
        have HR2 : Hid (r = false) := Lib.hid (HF.out hno.out)
        go_wp2
        go_ret
        exact ⟨ret_int (by rw [HE.out, HR2.out]; rfl), hbw.out⟩

/-! ### Same -/
def bSame (xs ys : List Cmdn) : Bool := decide (xs.length = ys.length) && (List.range xs.length).all fun j => same (layC.at xs j) (layC.at ys j)
theorem bsame_len {xs ys : List Cmdn} (h : xs.length ≠ ys.length) : bSame xs ys = false := by unfold bSame; rw [decide_eq_false h]; rfl
theorem bsame_no {xs ys : List Cmdn} {k : Nat} (hk : k < xs.length) (h : same (layC.at xs k) (layC.at ys k) = false) : bSame xs ys = false := by
  unfold bSame
  rw [Bool.and_eq_false_iff]; right
  rw [List.all_eq_false]
  exact ⟨k, List.mem_range.2 hk, by rw [h]; decide⟩
theorem bsame_yes {xs ys : List Cmdn} (hl : xs.length = ys.length) (h : ∀ j, j < xs.length → same (layC.at xs j) (layC.at ys j) = true) : bSame xs ys = true := by
  unfold bSame
  rw [decide_eq_true hl, Bool.true_and, List.all_eq_true]
  exact fun j hj => h j (List.mem_range.1 hj)

theorem pairC {w : World} {B off B' off' : Nat} {xs ys : List Cmdn} (h : layC.In w B off xs) (h' : layC.In w B' off' ys) {j k : Nat} (hj : j < xs.length) (hk : k < ys.length) {c : Int} {s : List UInt8} {f : Nat} {c' : Int} {s' : List UInt8} {f' : Nat} (hx : layC.at xs j = (c, s, f)) (hy : layC.at ys k = (c', s', f')) {W : World} (hb : Below w.heap.size w W) :
    W.cell? ⟨B, off + j * 3, none⟩ = some (.int .i64 c) ∧ W.cell? ⟨B, off + j * 3 + 1, none⟩ = some (.string (str s)) ∧ W.cell? ⟨B, off + j * 3 + 2, none⟩ = some (.float .f64 f) ∧ W.cell? ⟨B', off' + k * 3, none⟩ = some (.int .i64 c') ∧ W.cell? ⟨B', off' + k * 3 + 1, none⟩ = some (.string (str s')) ∧ W.cell? ⟨B', off' + k * 3 + 2, none⟩ = some (.float .f64 f') := by
  obtain ⟨a0, a1, a2⟩ := cellC (h.on hb) hj hx
  obtain ⟨b0, b1, b2⟩ := cellC (h'.on hb) hk hy
  exact ⟨a0, a1, a2, b0, b1, b2⟩

set_option maxHeartbeats 2000000 in
theorem refbsame_any (v u : Value) (xs ys : List Cmdn) (w : World) (h : layC.Row w v xs) (g : layC.Row w u ys) (hx : ∀ x ∈ xs, wfC x) (hy : ∀ x ∈ ys, wfC x) : Calls Try.prog 30 #[v, u] w (RetBelow (.bool (bSame xs ys)) w) := by
  obtain ⟨p, cap, rfl, h1, hd⟩ := h.parts
  obtain ⟨q, cap', rfl, g1, hd'⟩ := g.parts
  obtain ⟨n, hn⟩ : ∃ n, n = xs.length := ⟨_, rfl⟩
  obtain ⟨m, hm⟩ : ∃ m, m = ys.length := ⟨_, rfl⟩
  rw [← hn] at h1 hd ⊢
  rw [← hm] at g1 hd' ⊢
  clear h g
  by_cases hnm : n = m
  · subst hnm
    have HN := Lib.hid hn
    have HM := Lib.hid hm
    have HWX := Lib.hid hx
    have HWY := Lib.hid hy
    have HE : Hid ((∀ j, j < n → same (layC.at xs j) (layC.at ys j) = true) → bSame xs ys = true) := Lib.hid fun h => bsame_yes (by rw [← hn, ← hm]) fun j hj => h j (by rw [hn]; exact hj)
    have HF : Hid (∀ j, j < n → same (layC.at xs j) (layC.at ys j) = false → bSame xs ys = false) := Lib.hid fun j hj h => bsame_no (by rw [← hn]; exact hj) h
    generalize bSame xs ys = r at HE HF
    have hnn : ((n : Int) != (n : Int)) = false := by simp
    clear hn hm hx hy
    go_enter Try.func30, Try.ntmps30
    go_wp2
    go_loopw [5] (fun i wr => ∃ k : Nat, k ≤ n ∧ i = .int .i64 k ∧ Hid (Below w.heap.size w wr) ∧ Hid (∀ j, j < k → same (layC.at xs j) (layC.at ys j) = true)) (fun i _ => n - (intOf i).toNat)
    case atStart => exact ⟨0, Nat.zero_le _, rfl, Lib.hid (Below.refl _ _), Lib.hid fun j hj => absurd hj (Nat.not_lt_zero _)⟩
    case round =>
      obtain ⟨k, hk, rfl, hbw, hno⟩ := hrel
      by_cases hkn : k < n
      · obtain ⟨B, off, rfl, HC⟩ := hd.resolve_left (by omega)
        obtain ⟨B', off', rfl, HC'⟩ := hd'.resolve_left (by omega)
        have hkx : k < xs.length := by rw [← HN.out]; exact hkn
        have hky : k < ys.length := by rw [← HM.out]; exact hkn
        obtain ⟨c, s, f, hx⟩ : ∃ c s f, layC.at xs k = (c, s, f) := ⟨_, _, _, rfl⟩
        obtain ⟨c', s', f', hy⟩ : ∃ c s f, layC.at ys k = (c, s, f) := ⟨_, _, _, rfl⟩
        obtain ⟨c0, c1, c2⟩ := cellC (HC.out.on hbw.out) hkx hx
        obtain ⟨d0, d1, d2⟩ := cellC (HC'.out.on hbw.out) hky hy
        have hwx := wf_at HWX.out hkx hx
        have hwy := wf_at HWY.out hky hy
        have HR := Lib.hid (fun w => refsame_c c s f c' s' f' w hwx.1 hwy.1)
        have HX : Hid (same (layC.at xs k) (layC.at ys k) = cSame c s f c' s' f') := Lib.hid (by rw [hx, hy]; rfl)
        have HK := Lib.hid (fun W (hb : Below wr.heap.size wr W) => pairC (HC.out.on hbw.out) (HC'.out.on hbw.out) hkx hky hx hy hb)
        have HD := Lib.hid ((Below.refl wr.heap.size wr).drew)
        have k0 : (0 : Int) ≤ k := by omega
        have kn : (k : Int) < n := by omega
        clear hx hy hd hd' hwx hwy hkx hky
        generalize cSame c s f c' s' f' = z at HR HX
        cases z with
        | true =>
          go_wp2
          go_region_held3 (fun w' => w'.cell? ⟨B, off + k * 3, none⟩ = some (.int .i64 c) ∧ w'.cell? ⟨B, off + k * 3 + 1, none⟩ = some (.string (str s)) ∧ w'.cell? ⟨B, off + k * 3 + 2, none⟩ = some (.float .f64 f) ∧ w'.cell? ⟨B', off' + k * 3, none⟩ = some (.int .i64 c') ∧ w'.cell? ⟨B', off' + k * 3 + 1, none⟩ = some (.string (str s')) ∧ w'.cell? ⟨B', off' + k * 3 + 2, none⟩ = some (.float .f64 f'))
            (first
              | exact HK.out _ HB.out
              | exact HK.out _ HD.out
              | go_keep)
            (first
              | (go_at_call 43; (with_reducible refine (HR.out _).mono ?_); rintro e w1 ⟨rfl, hb⟩; have HB := Lib.hid (HD.out.trans hb); clear hb))
          go_wp2
          go_roundw
          case rel => exact ⟨k + 1, by omega, by go_num, Lib.hid (hbw.out.trans (HB.out.mono hbw.out.size)), Lib.hid fun j hj => by
            by_cases e : j = k
            · rw [e]; exact HX.out
            · exact hno.out j (by omega)⟩
          case measure => simp [intOf]; omega
        | false =>
          have HR2 : Hid (r = false) := Lib.hid (HF.out k hkn HX.out)
          go_wp2
          go_region_held3 (fun w' => w'.cell? ⟨B, off + k * 3, none⟩ = some (.int .i64 c) ∧ w'.cell? ⟨B, off + k * 3 + 1, none⟩ = some (.string (str s)) ∧ w'.cell? ⟨B, off + k * 3 + 2, none⟩ = some (.float .f64 f) ∧ w'.cell? ⟨B', off' + k * 3, none⟩ = some (.int .i64 c') ∧ w'.cell? ⟨B', off' + k * 3 + 1, none⟩ = some (.string (str s')) ∧ w'.cell? ⟨B', off' + k * 3 + 2, none⟩ = some (.float .f64 f'))
            (first
              | exact HK.out _ HB.out
              | exact HK.out _ HD.out
              | go_keep)
            (first
              | (go_at_call 43; (with_reducible refine (HR.out _).mono ?_); rintro e w1 ⟨rfl, hb⟩; have HB := Lib.hid (HD.out.trans hb); clear hb))
          go_wp2
          go_ret
          exact ⟨ret_bool HR2.out.symm, hbw.out.trans (HB.out.mono hbw.out.size)⟩
      · have kn : ¬ (k : Int) < n := by omega
        obtain rfl : k = n := by omega
        clear hd hd'
        go_wp2
        go_ret
        exact ⟨ret_bool (HE.out hno.out).symm, hbw.out⟩
  · have h2 : ((n : Int) != (m : Int)) = true := by rw [bne_iff_ne]; omega
    have h3 : (n : Int) ≠ m := by omega
    have HX : Hid (bSame xs ys = false) := Lib.hid (bsame_len fun e => hnm (by rw [hn, hm, e]))
    clear hn hm hnm hd hd'
    go_enter Try.func30, Try.ntmps30
    go_wp2
    go_ret
    exact ⟨ret_bool HX.out.symm, Below.refl _ _⟩

end Go.Proofs.Ytimkkelnakamkaa.Bat
