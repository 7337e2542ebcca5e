/- What the program's New gives (layer 4, idset): a set of the list's ids, in new memory. Condition: the list lies in memory as its cells say; its ids fit into their kind. -/
import Derived.Test.YtjkjbpfpmghlaaaSetB
namespace Go.Proofs.Ytjkjbpfpmghlaaa
open Go.RowKit Go.Maps
set_option linter.unusedVariables false

theorem RowAt.grown {w w' : World} {m : Nat} {v : Value} {zs : List Idn} (h : RowAt w v zs) (hg : w.grownBy w' (some m)) (hm : ∃ es c, w.heap[m]? = some (.map es c)) : RowAt w' v zs := by
  obtain ⟨p, cap, rfl, h1, h2, h0, h3⟩ := h
  obtain ⟨es, c, hm⟩ := hm
  refine ⟨p, cap, rfl, h1, h2, h0, fun hz => ?_⟩
  obtain ⟨B, off, rfl, hlt, hc⟩ := h3 hz
  have hpos : 0 < zs.length := List.length_pos_iff.2 hz
  have hne := cell_not_map (hc 0 hpos).1 hm
  have hB := hg.block B hlt (by simpa using hne)
  exact ⟨B, off, rfl, Nat.lt_of_lt_of_le hlt hg.size, fun j hj => ⟨(World.cell?_of_block (w := w) (a := ⟨B, _, none⟩) hB).trans (hc j hj).1, (World.cell?_of_block (w := w) (a := ⟨B, _, none⟩) hB).trans (hc j hj).2⟩⟩
theorem RowAt.row2 {w : World} {p : Option Addr} {n cap : Nat} {zs : List Idn} (h : RowAt w (.slice p n cap) zs) (hz : 0 < zs.length) : ∃ B off, p = some ⟨B, off, none⟩ ∧ Row2 w B off zs := by
  obtain ⟨p', cap', e, h1, h2, h0, h3⟩ := h
  cases e
  obtain ⟨B, off, rfl, hlt, hc⟩ := h3 (List.length_pos_iff.1 hz)
  exact ⟨B, off, rfl, ⟨hlt, fun j hj => (hc j hj).1, fun j hj => (hc j hj).2⟩⟩
theorem RowAt.shape {w : World} {v : Value} {zs : List Idn} (h : RowAt w v zs) : ∃ p cap, v = .slice p zs.length cap ∧ zs.length ≤ cap ∧ cap ≤ 9223372036854775807 := by
  obtain ⟨p, cap, rfl, h1, h2, -, -⟩ := h
  exact ⟨p, cap, rfl, h1, h2⟩

theorem grown_cell {W W' : World} {m : Nat} (hg : W.grownBy W' (some m)) (hm : ∃ es c, W.heap[m]? = some (.map es c)) {h o : Nat} {v : Value} (hc : W.cell? ⟨h, o, none⟩ = some v) : W'.cell? ⟨h, o, none⟩ = some v := by
  obtain ⟨es, c, hm⟩ := hm
  have hne := cell_not_map hc hm
  exact (World.cell?_of_block (w := W) (a := ⟨h, o, none⟩) (hg.block h (World.block_lt_of_cell? _ _ hc) (by simpa using hne))).trans hc
def RetTrue (w : World) (e : Ending) (w' : World) : Prop := e = .returned (.bool true) ∧ Below w.heap.size w w'
def RetB (v : Value) (w : World) (e : Ending) (w' : World) : Prop := e = .returned v ∧ Below w.heap.size w w'
theorem wf_small {x : Idn} (h : 0 ≤ x.1 ∧ x.1 ≤ 100 ∧ 0 ≤ x.2 ∧ x.2 ≤ 100) : wfId x := ⟨⟨by omega, by omega⟩, ⟨by omega, by omega⟩⟩
theorem same_true (v u : Value) (zs : List Idn) (w : World) (h : RowAt w v zs) (g : RowAt w u zs) : Calls Try.prog 16 #[v, u] w (RetTrue w) := by
  have := same_any v u zs zs w h g
  rw [decide_eq_true rfl] at this
  exact this

set_option maxHeartbeats 1000000 in
theorem renew_p (g m : Nat) (zs : List Idn) (v : Value) (ys : List Idn) (w : World) (h : SetP w g m zs) (hr : RowAt w v ys) (hwf : ∀ y ∈ ys, wfId y) (hl : ys.length ≤ 100000) : Calls Try.prog 26 #[.pointer (some ⟨g, 0, none⟩), v] w fun e w' => e = .returned (.tuple #[]) ∧ Turns g m (srt ys) w w' := by
  obtain ⟨p, cap, rfl, h1, h2⟩ := hr.shape
  have c0 := h.cell
  obtain ⟨w1, hcl, hs1, ht1⟩ := h.set.clear 0
  have hp1 := h.turn ht1 hs1
  have HM := Lib.hid h.set.isMap
  obtain ⟨n, hn⟩ : ∃ n, n = ys.length := ⟨_, rfl⟩
  have HZ := Lib.hid hn
  rw [← hn] at hr h1 hl ⊢
  have HR := Lib.hid hr
  have HW := Lib.hid hwf
  have HP1 := Lib.hid hp1
  have HG1 := Lib.hid ht1.grown
  clear hr hwf hs1 ht1 hp1 h hn
  go_enter Try.func26, Try.ntmps26
  go_wp2
  go_loopw [12] (fun i wr => ∃ k : Nat, k ≤ n ∧ i = .int .i64 k ∧ Hid (SetP wr g m (srt (ys.take k))) ∧ Hid (w.grownBy wr (some m))) (fun i _ => n - (intOf i).toNat)
  case atStart => exact ⟨0, Nat.zero_le _, rfl, HP1, HG1⟩
  case round =>
    obtain ⟨k, hk, rfl, hset, hgr⟩ := hrel
    by_cases hkn : k < n
    · have hrow := HR.out.grown hgr.out HM.out
      obtain ⟨B, off, rfl, hrow2⟩ := hrow.row2 (by rw [← HZ.out]; omega)
      have c1 := hrow2.fst k (by rw [← HZ.out]; exact hkn)
      have c2 := hrow2.snd k (by rw [← HZ.out]; exact hkn)
      have k0 : (0 : Int) ≤ k := by omega
      have kn : (k : Int) < n := by omega
      obtain ⟨x, y, hxy⟩ : ∃ x y, nth ys k = (x, y) := ⟨_, _, rfl⟩
      rw [hxy] at c1 c2
      have hwx : wfId (x, y) := HW.out _ (by rw [← hxy]; exact mem_nth.2 ⟨k, by rw [← HZ.out]; exact hkn, rfl⟩)
      have HS : Hid (srt (ys.take (k + 1)) = put (srt (ys.take k)) (x, y)) := Lib.hid (by rw [srt_take ys k (by rw [← HZ.out]; exact hkn), hxy])
      have HA : Hid (∀ W, SetP W g m (srt (ys.take k)) → Calls Try.prog 21 #[.pointer (some ⟨g, 0, none⟩), .agg #[.int .i64 x, .int .i64 y]] W fun e w' => ∃ r, e = .returned (.bool r) ∧ Turns g m (srt (ys.take (k + 1))) W w') := Lib.hid fun W hW =>
        (add_p g m _ x y W hW hwx (by have := srt_length (ys.take k); rw [List.length_take] at this; omega)).mono fun e w' ⟨he, ht⟩ => ⟨_, he, by rw [HS.out]; exact ht⟩
      clear hrow hrow2 hxy hwx
      have HP : Hid (SetP (wr.alloc (.cells #[.int .i64 x, .int .i64 y] 24)) g m (srt (ys.take k))) := Lib.hid (hset.out.on (below_one wr (cells x y)))
      have HG : Hid (w.grownBy (wr.alloc (.cells #[.int .i64 x, .int .i64 y] 24)) (some m)) := Lib.hid (hgr.out.andThen (World.grownBy_alloc wr (cells x y) none) (fun j hj => by cases hj))
      go_wp2_with (go_at_call 21; ((with_reducible refine (HA.out _ HP.out).mono ?_); rintro e w2 ⟨r, rfl, ht⟩; have HT := Lib.hid ht; clear ht))
      go_roundw
      case rel => exact ⟨k + 1, by omega, by go_num, Lib.hid HT.out.set, Lib.hid (HG.out.andThen HT.out.grown fun j hj => .inr hj)⟩
      case measure => simp [intOf]; omega
    · have kn : ¬ (k : Int) < n := by omega
      have HE : Hid (ys.take k = ys) := Lib.hid (List.take_of_length_le (by rw [← HZ.out]; omega))
      rw [HE.out] at hset
      go_wp2
      go_end0
      exact ⟨rfl, hset.out, hgr.out⟩

/-! ### New -/
def GivesSet (zs : List Idn) (w : World) (e : Ending) (w' : World) : Prop := ∃ g m, e = .returned (setPtr g) ∧ w.heap.size ≤ g ∧ w.heap.size ≤ m ∧ SetP w' g m zs ∧ Below w.heap.size w w'
theorem new_any (v : Value) (ys : List Idn) (w : World) (hr : RowAt w v ys) (hwf : ∀ y ∈ ys, wfId y) (hl : ys.length ≤ 100000) : Calls Try.prog 18 #[v] w (GivesSet (srt ys) w) := by
  have hb1 : Below w.heap.size w (w.alloc (.map #[] 0)) := below_one _ _
  have hb2 : Below w.heap.size w ((w.alloc (.map #[] 0)).alloc (.cells #[.map (some w.heap.size)] 50)) := hb1.trans ((below_one _ _).mono hb1.size)
  have hs : IsSet ((w.alloc (.map #[] 0)).alloc (.cells #[.map (some w.heap.size)] 50)) w.heap.size [] := (IsSet.made w).block (Below.heap_alloc _ _ _ (by simp))
  have hp : SetP ((w.alloc (.map #[] 0)).alloc (.cells #[.map (some w.heap.size)] 50)) (w.heap.size + 1) w.heap.size [] := ⟨by simp, by simp, hs⟩
  have HC := Lib.hid ((renew_p _ _ [] v ys _ hp (hr.on hb2) hwf hl).mono fun e w' ⟨he, ht⟩ => And.intro he (And.intro ht.set (Below.grown hb2 ht.grown hb2.size (fun k hk => by cases hk; exact Nat.le_refl _))))
  have hmm := @run_makeMap Try.prog
  clear hb1 hb2 hs hp hr hwf
  go_enter Try.func18, Try.ntmps18
  go_wp2_with (go_at_call 26; ((with_reducible refine HC.out.mono ?_); rintro e w2 ⟨rfl, ht⟩; have HT := Lib.hid ht; clear ht))
  go_ret
  exact ⟨_, _, rfl, by omega, Nat.le_refl _, HT.out.1, HT.out.2⟩
end Go.Proofs.Ytjkjbpfpmghlaaa
