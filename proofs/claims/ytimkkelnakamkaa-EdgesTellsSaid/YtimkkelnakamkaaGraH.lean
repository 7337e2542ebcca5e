/- The statement's function of layer 15 (edges): it returns true, whatever way graphs are kept (under Graphs). Conditions: the records lie in memory as their cells say; numbers' words of 64 bits; texts of a length that Go reads. (Written by tools/gen_grah.py.) -/
import Derived.Test.YtimkkelnakamkaaGraW
import Derived.Deep.RegionWith
namespace Go.Proofs.Ytimkkelnakamkaa.Gra
open Go.RowKit Cmd Bat Ids Rec Wid
set_option linter.unusedVariables false
set_option linter.unusedSimpArgs false

set_option maxRecDepth 100000 in
theorem etells_long {G : Nat → Nat → List Rcd → World → Prop} (HG : Graphs G) (v : Value) (rs : List Rcd) (a b : Int) (w : World) (h : layG.Row w v rs) (hl : fewG rs 40 = false) : Calls Try.prog 3 #[v, .agg #[.int .i64 a, .int .i64 b]] w (RetBelow (.bool true) w) := by
  have CP := Lib.hid (gplay_any HG)
  have X0 := Lib.hid (Boxed.start w a b)
  have CF : Hid (∀ W, Below w.heap.size w W → Calls Try.prog 4 #[v, .int .i64 40] W (RetBelow (.bool false) W)) := Lib.hid fun W hb => by have := few_any v rs 40 (by decide) W (h.on hb); rw [hl] at this; exact this
  unfold Ids.cells at X0
  have CF0 := Lib.hid (CF.out _ X0.out.below)
  clear h hl
  go_enter Try.func3, Try.ntmps3
  go_wp2_with (first
    | (go_at_call 4; ((with_reducible refine (CF0.out).mono ?_); rintro E w1 ⟨rfl, hb⟩; have B1 := Lib.hid (X0.out.below.trans (hb.mono X0.out.below.size)); clear hb))
    | (go_at_call 5; ((with_reducible refine (CP.out _).mono ?_); rintro E w2 ⟨rfl, hb⟩; have B2 := Lib.hid (B1.out.trans (hb.mono B1.out.size)); clear hb)))
  go_ret
  exact ⟨rfl, B2.out⟩
/-- The id's box, and that of the zero record. -/
structure Eb (w : World) (a b : Int) (rb : Nat) (W : World) : Prop where
  x : Boxed w a b W
  r : W.heap[rb]? = some (.cells #[.int .i64 0, .int .i64 0, .int .i64 0, .slice none 0 0, .slice none 0 0] 35 (0, 0))
theorem Eb.on {w W W' : World} {a b : Int} {rb : Nat} (h : Eb w a b rb W) (hb : Below W.heap.size W W') : Eb w a b rb W' := ⟨h.x.on hb, (hb.block _ (Array.getElem?_eq_some_iff.1 h.r).1).trans h.r⟩
theorem Eb.facts {w W : World} {a b : Int} {rb : Nat} (h : Eb w a b rb W) : W.cell? ⟨w.heap.size, 0, none⟩ = some (.int .i64 a) ∧ W.cell? ⟨w.heap.size, 1, none⟩ = some (.int .i64 b) ∧ W.cell? ⟨rb, 1, none⟩ = some (.int .i64 0) ∧ W.cell? ⟨rb, 2, none⟩ = some (.int .i64 0) := ⟨h.x.fst, h.x.snd, cell_row h.r rfl, cell_row h.r rfl⟩
theorem row_nil {w : World} {v : Value} (h : RowAt w v []) : ∃ p cap, v = .slice p 0 cap := by obtain ⟨p, cap, e, _⟩ := h; exact ⟨p, cap, e⟩
set_option maxHeartbeats 16000000 in
set_option maxRecDepth 100000 in
theorem etells_bad {G : Nat → Nat → List Rcd → World → Prop} (HG : Graphs G) (v : Value) (rs : List Rcd) (a b : Int) (w : World) (h : layG.Row w v rs) (hw : ∀ x ∈ rs, wfG x) (hl : fewG rs 40 = true) (he : gErr rs ≠ 0) : Calls Try.prog 3 #[v, .agg #[.int .i64 a, .int .i64 b]] w (RetBelow (.bool true) w) := by
  have CP := Lib.hid (gplay_any HG)
  have X0 := Lib.hid (Boxed.start w a b)
  have CF : Hid (∀ W, Below w.heap.size w W → Calls Try.prog 4 #[v, .int .i64 40] W (RetBelow (.bool true) W)) := Lib.hid fun W hb => by have := few_any v rs 40 (by decide) W (h.on hb); rw [hl] at this; exact this
  have hlot : Lot rs := ⟨hw, by have := (few_out hl).1; omega, fun r hr => by have := (few_out hl).2 r hr; exact ⟨by omega, by omega⟩⟩
  have CN : Hid (∀ W, Below w.heap.size w W → Calls Try.prog 6 #[v] W (RetBelow (.tuple #[.pointer none, .int .i64 (gErr rs)]) W)) := Lib.hid fun W hb => (HG.new v rs W (h.on hb) hlot).mono fun E w' ⟨h1, h2⟩ => by
    rcases h2 with ⟨h3, -⟩ | ⟨-, h3⟩
    · exact absurd h3 he
    · exact ⟨h3, h1⟩
  have CC : Hid (∀ W, Below w.heap.size w W → Calls Try.prog 7 #[v] W (RetBelow (.int .i64 (gErr rs)) W)) := Lib.hid fun W hb => refgerr_any v rs W (h.on hb) hw
  have HK := Lib.hid HG
  unfold Ids.cells at X0
  have CF0 := Lib.hid (CF.out _ X0.out.below)
  generalize gErr rs = e0 at CN CC he
  have q1 : (e0 == (0 : Int)) = false := beq_eq_false_iff_ne.2 he
  have q2 : (e0 != (0 : Int)) = true := by rw [bne, q1]; rfl
  have q3 : (e0 == e0) = true := beq_self_eq_true _
  clear h hw hl hlot CF
  go_enter Try.func3, Try.ntmps3
  go_wp2_with (first
    | (go_at_call 4; ((with_reducible refine (CF0.out).mono ?_); rintro E w1 ⟨rfl, hb⟩; have X1 := Lib.hid (X0.out.on hb); have CN1 := Lib.hid (CN.out w1 X1.out.below); clear hb CF0))
    | (go_at_call 6; ((with_reducible refine (CN1.out).mono ?_); rintro E w2 ⟨rfl, hb⟩; have X2 := Lib.hid (X1.out.on hb); have CC2 := Lib.hid (CC.out w2 X2.out.below); clear hb CN1))
    | (go_at_call 7; ((with_reducible refine (CC2.out).mono ?_); rintro E w3 ⟨rfl, hb⟩; have X3 := Lib.hid (X2.out.on hb); have c0 := X3.out.fst; have c1 := X3.out.snd; have CR3 := Lib.hid (HK.out.nrec w3 a b); clear hb CC2))
    | (go_at_call 8; ((with_reducible refine (CR3.out).mono ?_); rintro E w4 ⟨rfl, hb⟩; have X4 := Lib.hid (X3.out.on hb); have E4 : Hid (Eb w a b w4.heap.size (w4.alloc (.cells #[.int .i64 0, .int .i64 0, .int .i64 0, .slice none 0 0, .slice none 0 0] 35))) := Lib.hid ⟨X4.out.on (Cmd.below_one _ _), heap_alloc_new _ _⟩; have CL4 := Lib.hid (HK.out.nlen (w4.alloc (.cells #[.int .i64 0, .int .i64 0, .int .i64 0, .slice none 0 0, .slice none 0 0] 35))); clear hb CR3))
    | (go_at_call 9; ((with_reducible refine (CL4.out).mono ?_); rintro E w5 ⟨rfl, hb⟩; have E5 := Lib.hid (E4.out.on hb); obtain ⟨d0, d1, d2, d3⟩ := E5.out.facts; have CI5 := Lib.hid (HK.out.nids w5); clear hb CL4))
    | (go_at_call 10; ((with_reducible refine (CI5.out).mono ?_); rintro E w6 ⟨v6, rfl, hr, hb⟩; obtain ⟨p6, k6, rfl⟩ := row_nil hr; have E6 := Lib.hid (E5.out.on hb); obtain ⟨d0, d1, d2, d3⟩ := E6.out.facts; have CH6 := Lib.hid (HK.out.nhas w6 a b); clear hb CI5))
    | (go_at_call 11; ((with_reducible refine (CH6.out).mono ?_); rintro E w7 ⟨rfl, hb⟩; have E7 := Lib.hid (E6.out.on hb); obtain ⟨d0, d1, d2, d3⟩ := E7.out.facts; have CM7 := Lib.hid (HK.out.nmiss w7); clear hb CH6))
    | (go_at_call 12; ((with_reducible refine (CM7.out).mono ?_); rintro E w8 ⟨v8, rfl, hr, hb⟩; obtain ⟨p8, k8, rfl⟩ := row_nil hr; have E8 := Lib.hid (E7.out.on hb); obtain ⟨d0, d1, d2, d3⟩ := E8.out.facts; have CU8 := Lib.hid (HK.out.nusers w8 a b); clear hb CM7))
    | (go_at_call 13; ((with_reducible refine (CU8.out).mono ?_); rintro E w9 ⟨v9, rfl, hr, hb⟩; obtain ⟨p9, k9, rfl⟩ := row_nil hr; have E9 := Lib.hid (E8.out.on hb); obtain ⟨d0, d1, d2, d3⟩ := E9.out.facts; have CE9 := Lib.hid (HK.out.nedges w9); clear hb CU8))
    | (go_at_call 14; ((with_reducible refine (CE9.out).mono ?_); rintro E w10 ⟨rfl, hb⟩; have E10 := Lib.hid (E9.out.on hb); obtain ⟨d0, d1, d2, d3⟩ := E10.out.facts; have CP10 := Lib.hid (CP.out w10); clear hb CE9))
    | (go_at_call 5; ((with_reducible refine (CP10.out).mono ?_); rintro E w11 ⟨rfl, hb⟩; have E11 := Lib.hid (E10.out.on hb); obtain ⟨d0, d1, d2, d3⟩ := E11.out.facts; clear hb CP10)))
  go_ret
  exact ⟨rfl, E11.out.x.below⟩
theorem gives_ok {G : Nat → Nat → List Rcd → World → Prop} (HG : Graphs G) {v : Value} {rs : List Rcd} {w : World} (h : layG.Row w v rs) (hlot : Lot rs) (he : gErr rs = 0) : Calls Try.prog 6 #[v] w (fun E w' => ∃ g, E = .returned (.tuple #[gptr g, .int .i64 0]) ∧ G w'.heap.size g rs w' ∧ Below w.heap.size w w') :=
  (HG.new v rs w h hlot).mono fun E w' ⟨h1, h2⟩ => by
    rcases h2 with ⟨-, g, h3, h4⟩ | ⟨h3, -⟩
    · exact ⟨g, h3, h4, h1⟩
    · exact absurd he h3
theorem depsG_at {rs : List Rcd} {k : Nat} (h : k < rs.length) : (depsG (rs.take (k + 1))).length = (depsG (rs.take k)).length + (layG.at rs k).2.2.1.length := by rw [layG.take h, depsG_snoc, List.length_append]
/-- The id's box, and a graph. -/
structure Gb (G : Nat → Nat → List Rcd → World → Prop) (w : World) (a b : Int) (N g : Nat) (rs : List Rcd) (W : World) : Prop where
  x : Boxed w a b W
  g : G N g rs W
  n : w.heap.size < N
theorem Gb.on {G : Nat → Nat → List Rcd → World → Prop} (HG : Graphs G) {w W W' : World} {a b : Int} {N g : Nat} {rs : List Rcd} (h : Gb G w a b N g rs W) (hb : Below W.heap.size W W') : Gb G w a b N g rs W' := ⟨h.x.on hb, HG.on h.g (hb.mono (HG.le h.g)), h.n⟩
theorem Gb.low {G : Nat → Nat → List Rcd → World → Prop} (HG : Graphs G) {w W W' : World} {a b : Int} {N g : Nat} {rs : List Rcd} (h : Gb G w a b N g rs W) {M : Nat} (hb : Below M W W') (hN : N ≤ M) : Gb G w a b N g rs W' := by
  have hlt := h.n
  have hk := h.x.lt
  refine ⟨⟨h.x.below.trans (hb.mono (by omega)), Nat.lt_of_lt_of_le hk hb.size, (World.cell?_of_block (w := W) (hb.block w.heap.size (by omega))).trans h.x.fst, (World.cell?_of_block (w := W) (hb.block w.heap.size (by omega))).trans h.x.snd, ?_, ?_⟩, HG.on h.g (hb.mono hN), h.n⟩
  · rw [← h.x.fr0]; unfold World.frozen?; rw [hb.block w.heap.size (by omega)]
  · rw [← h.x.fr1]; unfold World.frozen?; rw [hb.block w.heap.size (by omega)]
/-- A row whose elements are written: it lies above. -/
structure Pit (base : Nat) (m gb : Nat) (W : World) : Prop where
  lo : base ≤ gb
  lt : gb < W.heap.size
  row : ∃ cur : Array Value, W.heap[gb]? = some (.cells cur 24 (0, 0)) ∧ m * 2 ≤ cur.size
theorem Pit.on {base m gb : Nat} {W W' : World} (h : Pit base m gb W) (hb : Below W.heap.size W W') : Pit base m gb W' := ⟨h.lo, Nat.lt_of_lt_of_le h.lt hb.size, by obtain ⟨cur, h1, h2⟩ := h.row; exact ⟨cur, (hb.block gb h.lt).trans h1, h2⟩⟩
theorem Pit.cells {base m gb : Nat} {W : World} (h : Pit base m gb W) {i : Nat} (hi : i < m * 2) : (∃ x, W.cell? ⟨gb, i, none⟩ = some x) ∧ W.frozen? ⟨gb, i, none⟩ = false := by
  obtain ⟨cur, h1, h2⟩ := h.row
  exact ⟨⟨cur[i], cell_row h1 (Array.getElem?_eq_getElem (by omega))⟩, free_row h1⟩
theorem Pit.set {base m gb : Nat} {W : World} (h : Pit base m gb W) (i : Nat) (v : Value) : Pit base m gb (W.setCell ⟨gb, i, none⟩ v) := by
  obtain ⟨cur, h1, h2⟩ := h.row
  exact ⟨h.lo, by rw [size_sc]; exact h.lt, _, heap_set h1 i v, by simpa using h2⟩
theorem own_slice {W : World} {base : Nat} {v : Value} {ds : List Idn} (h : Owns W base v ds) : ∃ (p : Option Addr) (cap : Nat), v = .slice p ds.length cap ∧ (ds.length = 0 ∨ ∃ gb off, p = some ⟨gb, off, none⟩ ∧ off = 0 ∧ Hid (Pit base ds.length gb W)) := by
  have hlt := World.ownsRow.lt h
  rcases h.2 with ⟨rfl, h0⟩ | ⟨g, cap, cur, rfl, hb, hg, hn, hm, hcs, -⟩
  · exact ⟨none, 0, by rw [h0], .inl h0⟩
  · exact ⟨_, cap, rfl, .inr ⟨g, 0, rfl, rfl, Lib.hid ⟨hb, (Array.getElem?_eq_some_iff.1 hg).1, cur, hg, by rw [hcs]; exact Nat.mul_le_mul_right 2 hn⟩⟩⟩
set_option maxHeartbeats 32000000 in
set_option maxRecDepth 100000 in
theorem etells_ok {G : Nat → Nat → List Rcd → World → Prop} (HG : Graphs G) (v : Value) (rs : List Rcd) (a b : Int) (hab : wfId (a, b)) (w : World) (h : layG.Row w v rs) (hw : ∀ x ∈ rs, wfG x) (hl : fewG rs 40 = true) (he : gErr rs = 0) : Calls Try.prog 3 #[v, .agg #[.int .i64 a, .int .i64 b]] w (RetBelow (.bool true) w) := by
  have CP := Lib.hid (gplay_any HG)
  have X0 := Lib.hid (Boxed.start w a b)
  have CF : Hid (∀ W, Below w.heap.size w W → Calls Try.prog 4 #[v, .int .i64 40] W (RetBelow (.bool true) W)) := Lib.hid fun W hb => by have := few_any v rs 40 (by decide) W (h.on hb); rw [hl] at this; exact this
  have hfo := few_out hl
  have hlot : Lot rs := ⟨hw, by have := hfo.1; omega, fun r hr => by have := hfo.2 r hr; exact ⟨by omega, by omega⟩⟩
  have HDL : Hid ((depsG rs).length ≤ 800) := Lib.hid (by have h1 := deps_few (rs := rs) (m := 20) (fun r hr => (hfo.2 r hr).1); have h2 := hfo.1; omega)
  have HNL : Hid (rs.length ≤ 40) := Lib.hid hfo.1
  have CN : Hid (∀ W, Below w.heap.size w W → Calls Try.prog 6 #[v] W (fun E w' => ∃ g, E = .returned (.tuple #[gptr g, .int .i64 0]) ∧ G w'.heap.size g rs w' ∧ Below W.heap.size W w')) := Lib.hid fun W hb => gives_ok HG (h.on hb) hlot he
  have CC : Hid (∀ W, Below w.heap.size w W → Calls Try.prog 7 #[v] W (RetBelow (.int .i64 0) W)) := Lib.hid fun W hb => by have := refgerr_any v rs W (h.on hb) hw; rw [he] at this; exact this
  have HK := Lib.hid HG
  have HROW := Lib.hid h
  have HWF := Lib.hid hw
  have HAB := Lib.hid hab
  unfold Ids.cells at X0
  have CF0 := Lib.hid (CF.out _ X0.out.below)
  obtain ⟨p, cap, rfl, h1, hd⟩ := id h.parts
  obtain ⟨n, hn⟩ : ∃ n, n = rs.length := ⟨_, rfl⟩
  rw [← hn] at h1 hd HROW CF0 CN CC
  have HN := Lib.hid hn
  have HLEN : Hid ((rs.length : Int) = n) := Lib.hid (by rw [hn])
  rw [← hn]
  clear h hw hl hlot CF hfo he hab hn
  go_enter Try.func3, Try.ntmps3
  go_wp2_with (first
    | (go_at_call 4; ((with_reducible refine (CF0.out).mono ?_); rintro E w1 ⟨rfl, hb⟩; have X1 := Lib.hid (X0.out.on hb); have CN1 := Lib.hid (CN.out w1 X1.out.below); clear hb CF0))
    | (go_at_call 6; ((with_reducible refine (CN1.out).mono ?_); rintro E w2 ⟨g, rfl, hg, hb⟩; have Y2 : Hid (Gb G w a b w2.heap.size g rs w2) := Lib.hid ⟨X1.out.on hb, hg, (X1.out.on hb).lt⟩; have CC2 := Lib.hid (CC.out w2 Y2.out.x.below); clear hb hg CN1))
    | (go_at_call 7; ((with_reducible refine (CC2.out).mono ?_); rintro E w3 ⟨rfl, hb⟩; have Y3 := Lib.hid (Y2.out.on HK.out hb); clear hb CC2)))
  obtain ⟨N, hN⟩ : ∃ N, N = w2.heap.size := ⟨_, rfl⟩
  rw [← hN] at Y3
  clear hN Y2 X1 X0
  go_loopw [10, 11] (fun t i wr => ∃ k : Nat, k ≤ n ∧ t = .int .i64 (depsG (rs.take k)).length ∧ i = .int .i64 k ∧ Hid (Gb G w a b N g rs wr)) (fun _ i _ => n - (intOf i).toNat)
  case atStart => exact ⟨0, Nat.zero_le _, rfl, rfl, Y3⟩
  case round =>
    obtain ⟨k, hk, rfl, rfl, hY⟩ := hrel
    have k0 : (0 : Int) ≤ k := by omega
    by_cases hkn : k < n
    · have kn : (k : Int) < n := by omega
      obtain ⟨B, off, rfl, HC⟩ := hd.resolve_left (by omega)
      have hkx : k < rs.length := by rw [← HN.out]; exact hkn
      obtain ⟨x, y, q, ds, cs, hx⟩ : ∃ x y q ds cs, layG.at rs k = ((x, y), q, ds, cs) := ⟨_, _, _, _, _, rfl⟩
      obtain ⟨p1, k1, p2, k2, hr, -, -⟩ := rcdAt (HC.out.on hY.out.x.below) hkx hx
      have c3 := hr.c3
      have hst := depsG_at hkx
      have hpt := depsG_part hkx
      rw [hx] at hst hpt
      simp only [] at hst hpt
      have hle := HDL.out
      obtain ⟨l, hl⟩ : ∃ l, l = ds.length := ⟨_, rfl⟩
      rw [← hl] at c3 hst hpt
      obtain ⟨t, ht⟩ : ∃ t, t = (depsG (rs.take k)).length := ⟨_, rfl⟩
      rw [← ht] at hst hpt ⊢
      have HS : Hid ((depsG (rs.take (k + 1))).length = t + l) := Lib.hid hst
      have ew : IntKind.i64.wrap ((t : Int) + (l : Int)) = (t : Int) + (l : Int) := IntWalk.i64_in _ (by omega)
      clear hr hx hkx hd hst hpt hl ht hle
      go_wp2_with fail
      go_roundw
      case rel => exact ⟨k + 1, by omega, by rw [HS.out]; first | rfl | (congr 1) | (simp), by go_num, hY⟩
      case measure => simp [intOf]; omega
    · obtain rfl : k = n := by omega
      have kn : ¬ (k : Int) < k := by omega
      have HTK : Hid (rs.take k = rs) := Lib.hid (by rw [HN.out, List.take_length])
      rw [HTK.out]
      obtain ⟨w4, hw4⟩ : ∃ w4, w4 = wr := ⟨_, rfl⟩
      subst hw4
      have hfd := find_any (.slice p k cap) rs a b w4 (HROW.out.on hY.out.x.below)
      obtain ⟨T, hT⟩ : ∃ T, T = (depsG rs).length := ⟨_, rfl⟩
      have HTT : Hid ((depsG rs).length = T) := Lib.hid hT.symm
      rw [← hT]
      clear hT kn
      have b0 := hY.out.x.fst
      have b1 := hY.out.x.snd
      rcases find_cases rs (a, b) with ⟨i, hi, hia, -, hfi, hmem⟩ | ⟨hfi, hmem⟩
      · skip
        rw [hfi] at hfd
        have CFD := Lib.hid hfd
        obtain ⟨B, off, rfl, HC⟩ := hd.resolve_left (by rw [HN.out]; omega)
        obtain ⟨q, ds, cs, hx⟩ : ∃ q ds cs, layG.at rs i = ((a, b), q, ds, cs) := ⟨_, _, _, by rw [← hia]⟩
        obtain ⟨p1, k1, p2, k2, hr, hlm, -⟩ := rcdAt HC.out hi hx
        have hmr := layG.at_mem hi
        have hwf := HWF.out _ hmr
        rw [hx] at hwf
        have i0 : (0 : Int) ≤ i := by omega
        have ik : (i : Int) < k := by have := HN.out; omega
        have ige : decide ((0 : Int) ≤ (i : Int)) = true := decide_eq_true i0
        have hyes : decide ((a, b) ∈ idsG rs) = true := decide_eq_true hmem
        obtain ⟨m, hm⟩ : ∃ m, m = ds.length := ⟨_, rfl⟩
        obtain ⟨l, hl⟩ : ∃ l, l = cs.length := ⟨_, rfl⟩
        have CR : Hid (∀ W, Gb G w a b N g rs W → Calls Try.prog 8 #[gptr g, .agg #[.int .i64 a, .int .i64 b]] W (fun E w' => ∃ p6 c6 q6 d6, E = .returned (.tuple #[.agg #[.int .i64 a, .int .i64 b, .int .i64 q, .slice p6 m c6, .slice q6 l d6], .bool true]) ∧ (m = 0 ∨ ∃ gb off, p6 = some ⟨gb, off, none⟩ ∧ off = 0 ∧ Hid (Pit W.heap.size m gb w')) ∧ RowAt w' (.slice p6 m c6) ds ∧ layC.Row w' (.slice q6 l d6) cs ∧ Below W.heap.size W w')) := Lib.hid fun W hy => (HK.out.recY hy.g a b HAB.out _ hmr (by rw [hx])).mono fun E w' hh => by
          rw [hx] at hh
          obtain ⟨v6, u6, h1, h2, h3, h4⟩ := hh
          obtain ⟨p6, c6, rfl, h5⟩ := own_slice h2
          obtain ⟨q6, d6, rfl, -, -⟩ := lay_slice h3
          exact ⟨p6, c6, q6, d6, by rw [hm, hl]; exact h1, by rw [hm]; exact h5, by rw [hm]; exact Owns.row h2, by rw [hl]; exact h3, h4⟩
        have CH : Hid (∀ W, Gb G w a b N g rs W → Calls Try.prog 11 #[gptr g, .agg #[.int .i64 a, .int .i64 b]] W (RetBelow (.bool true) W)) := Lib.hid fun W hy => by have := HK.out.has hy.g a b HAB.out; rw [hyes] at this; exact this
        have CSR : Hid (∀ (W : World) (p6 : Option Addr) (c6 : Nat) (q6 : Option Addr) (d6 : Nat), Below w.heap.size w W → RowAt W (.slice p6 m c6) ds → layC.Row W (.slice q6 l d6) cs → Calls Try.prog 16 #[.agg #[.int .i64 a, .int .i64 b, .int .i64 q, .slice p6 m c6, .slice q6 l d6], .agg #[.int .i64 a, .int .i64 b, .int .i64 q, .slice p1 m k1, .slice p2 l k2]] W (RetBelow (.bool true) W)) := Lib.hid fun W p6 c6 q6 d6 hb h1 h2 => by
          have := refsame_r a b q (.slice p6 m c6) (.slice q6 l d6) a b q (.slice p1 m k1) (.slice p2 l k2) ds ds cs cs W h1 h2 (by rw [hm]; exact hr.rd.on hb) (by rw [hl]; exact hr.rc.on hb) hwf.batch hwf.batch
          rw [rsame_self] at this; exact this
        rw [← hm, ← hl] at hr
        rw [← hm] at hlm
        have HR := Lib.hid hr
        clear hfd hfi hmem hyes hr hx hwf hmr hia hi hm hl hd
        go_wp2_with (first
          | (go_at_call 15; ((with_reducible refine (CFD.out).mono ?_); rintro E w5 ⟨rfl, hb⟩; have Y5 := Lib.hid (hY.out.on HK.out hb); have c0 := Y5.out.x.fst; have c1 := Y5.out.x.snd; have CR5 := Lib.hid (CR.out w5 Y5.out); clear hb CFD))
          | (go_at_call 8; ((with_reducible refine (CR5.out).mono ?_); rintro E w6 ⟨p6, c6, q6, d6, rfl, hpt, hrd, hrc, hb⟩; have Y6 := Lib.hid (Y5.out.on HK.out hb); have HPT := Lib.hid hpt; have RD6 := Lib.hid hrd; have RC6 := Lib.hid hrc; have B56 := Lib.hid hb; clear hb hpt hrd hrc CR5)))
        obtain ⟨rb, hrb⟩ : ∃ rb, rb = w6.heap.size := ⟨_, rfl⟩
        obtain ⟨W7, hW7⟩ : ∃ W7, W7 = w6.alloc (.cells #[.int .i64 a, .int .i64 b, .int .i64 q, .slice p6 m c6, .slice q6 l d6] 35) := ⟨_, rfl⟩
        have b67 := Cmd.below_one w6 (.cells #[.int .i64 a, .int .i64 b, .int .i64 q, .slice p6 m c6, .slice q6 l d6] 35)
        rw [← hW7] at b67
        have Y7 : Hid (Gb G w a b N g rs W7) := Lib.hid (Y6.out.on HK.out b67)
        have RB7 : Hid (W7.heap[rb]? = some (.cells #[.int .i64 a, .int .i64 b, .int .i64 q, .slice p6 m c6, .slice q6 l d6] 35 (0, 0))) := Lib.hid (by rw [hW7, hrb]; exact heap_alloc_new _ _)
        have RD7 := Lib.hid (RD6.out.on b67)
        have RC7 := Lib.hid (RC6.out.on b67)
        have B57 := Lib.hid (B56.out.trans (b67.mono B56.out.size))
        have PT7 : Hid (m = 0 ∨ ∃ gb off, p6 = some ⟨gb, off, none⟩ ∧ off = 0 ∧ gb < rb ∧ Hid (Pit w5.heap.size m gb W7)) := Lib.hid (by
          rcases HPT.out with h0 | ⟨gb, off, h1, h2, h3⟩
          · exact .inl h0
          · exact .inr ⟨gb, off, h1, h2, by rw [hrb]; exact h3.out.lt, Lib.hid (h3.out.on b67)⟩)
        have HRB : Hid (w5.heap.size ≤ rb ∧ N ≤ w5.heap.size) := Lib.hid ⟨by rw [hrb]; exact B56.out.size, HK.out.le Y5.out.g⟩
        rw [← hW7, ← hrb]
        clear hW7 hrb Y6 b0 b1 c0 c1 b67 RD6 RC6 B56 HPT
        have HS7 : Hid (∀ w', Below W7.heap.size W7 w' → (w'.cell? ⟨w.heap.size, 0, none⟩ = some (.int .i64 a) ∧ w'.cell? ⟨w.heap.size, 1, none⟩ = some (.int .i64 b) ∧ w'.cell? ⟨rb, 0, none⟩ = some (.int .i64 a) ∧ w'.cell? ⟨rb, 1, none⟩ = some (.int .i64 b) ∧ w'.cell? ⟨rb, 2, none⟩ = some (.int .i64 q) ∧ w'.cell? ⟨rb, 3, none⟩ = some (.slice p6 m c6) ∧ w'.cell? ⟨rb, 4, none⟩ = some (.slice q6 l d6) ∧ w'.cell? ⟨B, off + i * 5, none⟩ = some (.int .i64 a) ∧ w'.cell? ⟨B, off + i * 5 + 1, none⟩ = some (.int .i64 b) ∧ w'.cell? ⟨B, off + i * 5 + 2, none⟩ = some (.int .i64 q) ∧ w'.cell? ⟨B, off + i * 5 + 3, none⟩ = some (.slice p1 m k1) ∧ w'.cell? ⟨B, off + i * 5 + 4, none⟩ = some (.slice p2 l k2))) := Lib.hid fun W hb => by
          have hrow := (hb.block rb (Array.getElem?_eq_some_iff.1 RB7.out).1).trans RB7.out
          have h5 := (HR.out.on (Y7.out.on HK.out hb).x.below).five
          exact ⟨(Y7.out.on HK.out hb).x.fst, (Y7.out.on HK.out hb).x.snd, cell_row hrow rfl, cell_row hrow rfl, cell_row hrow rfl, cell_row hrow rfl, cell_row hrow rfl, h5.1, h5.2.1, h5.2.2.1, h5.2.2.2.1, h5.2.2.2.2⟩
        have D7 := Lib.hid (Below.refl W7.heap.size W7)
        have Y8 := Lib.hid (Y7.out.on HK.out (Below.refl _ _).drew)
        have CH8 := Lib.hid (CH.out _ Y8.out)
        have CS9 : Hid (∀ W, Below W7.heap.size W7 W → Calls Try.prog 16 #[.agg #[.int .i64 a, .int .i64 b, .int .i64 q, .slice p6 m c6, .slice q6 l d6], .agg #[.int .i64 a, .int .i64 b, .int .i64 q, .slice p1 m k1, .slice p2 l k2]] W (RetBelow (.bool true) W)) := Lib.hid fun W hb => CSR.out W p6 c6 q6 d6 (Y7.out.on HK.out hb).x.below (RD7.out.on hb) (RC7.out.on hb)
        go_region_held3 (fun w' => w'.cell? ⟨w.heap.size, 0, none⟩ = some (.int .i64 a) ∧ w'.cell? ⟨w.heap.size, 1, none⟩ = some (.int .i64 b) ∧ w'.cell? ⟨rb, 0, none⟩ = some (.int .i64 a) ∧ w'.cell? ⟨rb, 1, none⟩ = some (.int .i64 b) ∧ w'.cell? ⟨rb, 2, none⟩ = some (.int .i64 q) ∧ w'.cell? ⟨rb, 3, none⟩ = some (.slice p6 m c6) ∧ w'.cell? ⟨rb, 4, none⟩ = some (.slice q6 l d6) ∧ w'.cell? ⟨B, off + i * 5, none⟩ = some (.int .i64 a) ∧ w'.cell? ⟨B, off + i * 5 + 1, none⟩ = some (.int .i64 b) ∧ w'.cell? ⟨B, off + i * 5 + 2, none⟩ = some (.int .i64 q) ∧ w'.cell? ⟨B, off + i * 5 + 3, none⟩ = some (.slice p1 m k1) ∧ w'.cell? ⟨B, off + i * 5 + 4, none⟩ = some (.slice p2 l k2))
          (first
            | exact HS7.out _ D9.out
            | exact HS7.out _ D8.out
            | exact HS7.out _ D7.out.drew
            | exact HS7.out _ D7.out)
          (first
            | (go_at_call 16; ((with_reducible refine (CS8.out).mono ?_); rintro E w9 ⟨rfl, hb⟩; have D9 := Lib.hid (D8.out.trans (hb.mono D8.out.size)); clear hb))
            | (go_at_call 11; ((with_reducible refine (CH8.out).mono ?_); rintro E w8 ⟨rfl, hb⟩; have D8 := Lib.hid (D7.out.drew.trans (hb.mono D7.out.drew.size)); have CS8 := Lib.hid (CS9.out _ D8.out); clear hb)))
        have Z9 : Hid (Below w5.heap.size w5 w9) := Lib.hid (B57.out.trans (D9.out.mono B57.out.size))
        have RB9 := Lib.hid ((D9.out.block rb (Array.getElem?_eq_some_iff.1 RB7.out).1).trans RB7.out)
        have PT9 : Hid (m = 0 ∨ ∃ gb off, p6 = some ⟨gb, off, none⟩ ∧ off = 0 ∧ gb < rb ∧ Hid (Pit w5.heap.size m gb w9)) := Lib.hid (by
          rcases PT7.out with h0 | ⟨gb, off, h1, h2, h3, h4⟩
          · exact .inl h0
          · exact .inr ⟨gb, off, h1, h2, h3, Lib.hid (h4.out.on D9.out)⟩)
        go_wp2_with fail
        go_loopw [15] (fun j wr => ∃ t : Nat, t ≤ m ∧ j = .int .i64 t ∧ Hid (Below w5.heap.size w5 wr) ∧ Hid (wr.heap[rb]? = some (.cells #[.int .i64 a, .int .i64 b, .int .i64 q, .slice p6 m c6, .slice q6 l d6] 35 (0, 0))) ∧ Hid (m = 0 ∨ ∃ gb off, p6 = some ⟨gb, off, none⟩ ∧ off = 0 ∧ gb < rb ∧ Hid (Pit w5.heap.size m gb wr))) (fun j _ => m - (intOf j).toNat)
        case atStart => exact ⟨0, Nat.zero_le _, rfl, Z9, RB9, PT9⟩
        case round =>
          obtain ⟨t, ht, rfl, hZ, hRB, hPT⟩ := hrel
          have t0 : (0 : Int) ≤ t := by omega
          have r3 := cell_row (i := 3) hRB.out rfl
          by_cases htm : t < m
          · have tm : (t : Int) < m := by omega
            obtain ⟨gb, off', rfl, hoff, hgr, hP⟩ := hPT.out.resolve_left (by omega)
            have HOF := Lib.hid hoff
            have HGR := Lib.hid hgr
            obtain ⟨⟨z0, e0⟩, f0⟩ := hP.out.cells (i := t * 2) (by omega)
            obtain ⟨⟨z1, e1⟩, f1⟩ := (hP.out.set (t * 2) (.int .i64 0)).cells (i := t * 2 + 1) (by omega)
            have e0' : wr.cell? ⟨gb, off' + t * 2, none⟩ = some z0 := by rw [hoff, Nat.zero_add]; exact e0
            have f0' : wr.frozen? ⟨gb, off' + t * 2, none⟩ = false := by rw [hoff, Nat.zero_add]; exact f0
            have e1' : (wr.setCell ⟨gb, off' + t * 2, none⟩ (.int .i64 0)).cell? ⟨gb, off' + t * 2 + 1, none⟩ = some z1 := by rw [hoff, Nat.zero_add]; exact e1
            have f1' : (wr.setCell ⟨gb, off' + t * 2, none⟩ (.int .i64 0)).frozen? ⟨gb, off' + t * 2 + 1, none⟩ = false := by rw [hoff, Nat.zero_add]; exact f1
            have Z2 : Hid (Below w5.heap.size w5 ((wr.setCell ⟨gb, off' + t * 2, none⟩ (.int .i64 0)).setCell ⟨gb, off' + t * 2 + 1, none⟩ (.int .i64 0))) := Lib.hid ((hZ.out.setCell (p := ⟨gb, off' + t * 2, none⟩) hP.out.lo _).setCell (p := ⟨gb, off' + t * 2 + 1, none⟩) hP.out.lo _)
            have RB2 : Hid (((wr.setCell ⟨gb, off' + t * 2, none⟩ (.int .i64 0)).setCell ⟨gb, off' + t * 2 + 1, none⟩ (.int .i64 0)).heap[rb]? = some (.cells #[.int .i64 a, .int .i64 b, .int .i64 q, .slice (some ⟨gb, off', none⟩) m c6, .slice q6 l d6] 35 (0, 0))) := Lib.hid (by rw [Below.heap_setCell _ _ _ _ (show rb ≠ gb by omega), Below.heap_setCell _ _ _ _ (show rb ≠ gb by omega)]; exact hRB.out)
            have PT2 : Hid (Pit w5.heap.size m gb ((wr.setCell ⟨gb, off' + t * 2, none⟩ (.int .i64 0)).setCell ⟨gb, off' + t * 2 + 1, none⟩ (.int .i64 0))) := Lib.hid ((hP.out.set _ _).set _ _)
            clear hoff hgr e0 f0 e1 f1 htm
            go_wp2_with fail
            go_roundw
            case rel => exact ⟨t + 1, by omega, by go_num, Z2, RB2, Lib.hid (.inr ⟨gb, off', rfl, HOF.out, HGR.out, PT2⟩)⟩
            case measure => simp [intOf]; omega
          · have tm : ¬ (t : Int) < m := by omega
            have Y9 : Hid (Gb G w a b N g rs wr) := Lib.hid (Y5.out.low HK.out hZ.out HRB.out.2)
            go_wp2_with fail
            obtain ⟨W9, hW9⟩ : ∃ W9, W9 = wr := ⟨_, rfl⟩
            subst hW9
            have HS9 : Hid (∀ W, Below W9.heap.size W9 W → (W.cell? ⟨w.heap.size, 0, none⟩ = some (.int .i64 a) ∧ W.cell? ⟨w.heap.size, 1, none⟩ = some (.int .i64 b))) := Lib.hid fun W hb => ⟨(Y9.out.on HK.out hb).x.fst, (Y9.out.on HK.out hb).x.snd⟩
            have L1 : Hid (∀ W, Below W9.heap.size W9 W → Calls Try.prog 9 #[gptr g] W (RetBelow (.int .i64 k) W)) := Lib.hid fun W hb => by have := HK.out.len (Y9.out.on HK.out hb).g; rw [← HN.out] at this; exact this
            have L2 : Hid (∀ W, Below W9.heap.size W9 W → Calls Try.prog 14 #[gptr g] W (RetBelow (.int .i64 T) W)) := Lib.hid fun W hb => by have := HK.out.edges (Y9.out.on HK.out hb).g; rw [HTT.out] at this; exact this
            have L3 : Hid (∀ W, Below W9.heap.size W9 W → Calls Try.prog 10 #[gptr g] W (GivesRow (gIds rs) W)) := Lib.hid fun W hb => HK.out.ids (Y9.out.on HK.out hb).g
            have L4 : Hid (∀ W, Below W9.heap.size W9 W → Calls Try.prog 18 #[.slice (some ⟨B, off, none⟩) k cap] W (GivesRow (gIds rs) W)) := Lib.hid fun W hb => refids_any _ rs W (HROW.out.on (Y9.out.on HK.out hb).x.below) (by have := HNL.out; omega)
            have L6 : Hid (∀ W, Below W9.heap.size W9 W → Calls Try.prog 12 #[gptr g] W (GivesRow (gMiss rs) W)) := Lib.hid fun W hb => HK.out.miss (Y9.out.on HK.out hb).g
            have L7 : Hid (∀ W, Below W9.heap.size W9 W → Calls Try.prog 19 #[.slice (some ⟨B, off, none⟩) k cap] W (GivesRow (gMiss rs) W)) := Lib.hid fun W hb => refmissing_any _ rs W (HROW.out.on (Y9.out.on HK.out hb).x.below) (by have := HDL.out; omega)
            have L9 : Hid (∀ W, Below W9.heap.size W9 W → Calls Try.prog 13 #[gptr g, .agg #[.int .i64 a, .int .i64 b]] W (GivesRow (gUsers rs (a, b)) W)) := Lib.hid fun W hb => HK.out.users (Y9.out.on HK.out hb).g a b HAB.out
            have L10 : Hid (∀ W, Below W9.heap.size W9 W → Calls Try.prog 20 #[.slice (some ⟨B, off, none⟩) k cap, .agg #[.int .i64 a, .int .i64 b]] W (GivesRow (gUsers rs (a, b)) W)) := Lib.hid fun W hb => refusers_any _ rs a b W (HROW.out.on (Y9.out.on HK.out hb).x.below) (by have := HNL.out; omega)
            have LS : Hid (∀ (W : World) (v v' : Value) (zs : List Idn), RowAt W v zs → RowAt W v' zs → Calls Try.prog 17 #[v, v'] W (RetBelow (.bool true) W)) := Lib.hid fun W v v' zs h g => by have := Ids.same_any v v' zs zs W h g; rw [decide_eq_true rfl] at this; exact this
            have D0 := Lib.hid (Below.refl W9.heap.size W9)
            try clear hd
            go_region_held3 (fun w' => w'.cell? ⟨w.heap.size, 0, none⟩ = some (.int .i64 a) ∧ w'.cell? ⟨w.heap.size, 1, none⟩ = some (.int .i64 b))
              (first
                | exact HS9.out _ D12.out
                | exact HS9.out _ D11.out
                | exact HS9.out _ D10.out
                | exact HS9.out _ D9.out
                | exact HS9.out _ D8.out
                | exact HS9.out _ D7.out
                | exact HS9.out _ D6.out
                | exact HS9.out _ D5.out
                | exact HS9.out _ D4.out
                | exact HS9.out _ D3.out
                | exact HS9.out _ D2.out
                | exact HS9.out _ D1.out
                | exact HS9.out _ D0.out.drew
                | exact HS9.out _ D0.out)
              (first
                | (go_at_call 5; ((with_reducible refine (CP.out _).mono ?_); rintro E x12 ⟨rfl, hb⟩; have D12 := Lib.hid (D11.out.trans (hb.mono D11.out.size)); clear hb))
                | (go_at_call 17; ((with_reducible refine (LS.out _ _ _ _ S9.out R10.out).mono ?_); rintro E x11 ⟨rfl, hb⟩; have D11 := Lib.hid (D10.out.trans (hb.mono D10.out.size)); clear hb))
                | (go_at_call 20; ((with_reducible refine (L10.out _ D9.out).mono ?_); rintro E x10 ⟨v10, rfl, hr, hb⟩; have D10 := Lib.hid (D9.out.trans (hb.mono D9.out.size)); have R10 := Lib.hid hr; have S9 := Lib.hid (R9.out.on hb); clear hr; clear hb))
                | (go_at_call 13; ((with_reducible refine (L9.out _ D8.out).mono ?_); rintro E x9 ⟨v9, rfl, hr, hb⟩; have D9 := Lib.hid (D8.out.trans (hb.mono D8.out.size)); have R9 := Lib.hid hr; clear hr; clear hb))
                | (go_at_call 17; ((with_reducible refine (LS.out _ _ _ _ S6.out R7.out).mono ?_); rintro E x8 ⟨rfl, hb⟩; have D8 := Lib.hid (D7.out.trans (hb.mono D7.out.size)); clear hb))
                | (go_at_call 19; ((with_reducible refine (L7.out _ D6.out).mono ?_); rintro E x7 ⟨v7, rfl, hr, hb⟩; have D7 := Lib.hid (D6.out.trans (hb.mono D6.out.size)); have R7 := Lib.hid hr; have S6 := Lib.hid (R6.out.on hb); clear hr; clear hb))
                | (go_at_call 12; ((with_reducible refine (L6.out _ D5.out).mono ?_); rintro E x6 ⟨v6, rfl, hr, hb⟩; have D6 := Lib.hid (D5.out.trans (hb.mono D5.out.size)); have R6 := Lib.hid hr; clear hr; clear hb))
                | (go_at_call 17; ((with_reducible refine (LS.out _ _ _ _ S3.out R4.out).mono ?_); rintro E x5 ⟨rfl, hb⟩; have D5 := Lib.hid (D4.out.trans (hb.mono D4.out.size)); clear hb))
                | (go_at_call 18; ((with_reducible refine (L4.out _ D3.out).mono ?_); rintro E x4 ⟨v4, rfl, hr, hb⟩; have D4 := Lib.hid (D3.out.trans (hb.mono D3.out.size)); have R4 := Lib.hid hr; have S3 := Lib.hid (R3.out.on hb); clear hr; clear hb))
                | (go_at_call 10; ((with_reducible refine (L3.out _ D2.out).mono ?_); rintro E x3 ⟨v3, rfl, hr, hb⟩; have D3 := Lib.hid (D2.out.trans (hb.mono D2.out.size)); have R3 := Lib.hid hr; clear hr; clear hb))
                | (go_at_call 14; ((with_reducible refine (L2.out _ D1.out).mono ?_); rintro E x2 ⟨rfl, hb⟩; have D2 := Lib.hid (D1.out.trans (hb.mono D1.out.size)); clear hb))
                | (go_at_call 9; ((with_reducible refine (L1.out _ D0.out.drew).mono ?_); rintro E x1 ⟨rfl, hb⟩; have D1 := Lib.hid (D0.out.drew.trans (hb.mono D0.out.drew.size)); clear hb)))
            go_wp2_with fail
            go_ret
            exact ⟨rfl, Y9.out.x.below.trans (D12.out.mono Y9.out.x.below.size)⟩
      · skip
        rw [hfi] at hfd
        have CFD := Lib.hid hfd
        have hno : decide ((a, b) ∈ idsG rs) = false := decide_eq_false hmem
        have CR : Hid (∀ W, Gb G w a b N g rs W → Calls Try.prog 8 #[gptr g, .agg #[.int .i64 a, .int .i64 b]] W (RetBelow (.tuple #[zeroRec, .bool false]) W)) := Lib.hid fun W hy => HK.out.recN hy.g a b HAB.out hmem
        have CH : Hid (∀ W, Gb G w a b N g rs W → Calls Try.prog 11 #[gptr g, .agg #[.int .i64 a, .int .i64 b]] W (RetBelow (.bool false) W)) := Lib.hid fun W hy => by have := HK.out.has hy.g a b HAB.out; rw [hno] at this; exact this
        clear hfd hfi hmem hno
        go_wp2_with (first
          | (go_at_call 15; ((with_reducible refine (CFD.out).mono ?_); rintro E w5 ⟨rfl, hb⟩; have Y5 := Lib.hid (hY.out.on HK.out hb); have c0 := Y5.out.x.fst; have c1 := Y5.out.x.snd; have CR5 := Lib.hid (CR.out w5 Y5.out); clear hb CFD))
          | (go_at_call 8; ((with_reducible refine (CR5.out).mono ?_); rintro E w6 ⟨rfl, hb⟩; have Y6 := Lib.hid (Y5.out.on HK.out hb); clear hb CR5)))
        obtain ⟨rb, hrb⟩ : ∃ rb, rb = w6.heap.size := ⟨_, rfl⟩
        obtain ⟨W7, hW7⟩ : ∃ W7, W7 = w6.alloc (.cells #[.int .i64 0, .int .i64 0, .int .i64 0, .slice none 0 0, .slice none 0 0] 35) := ⟨_, rfl⟩
        have Y7 : Hid (Gb G w a b N g rs W7) := Lib.hid (by rw [hW7]; exact Y6.out.on HK.out (Cmd.below_one _ _))
        have RB7 : Hid (W7.heap[rb]? = some (.cells #[.int .i64 0, .int .i64 0, .int .i64 0, .slice none 0 0, .slice none 0 0] 35 (0, 0))) := Lib.hid (by rw [hW7, hrb]; exact heap_alloc_new _ _)
        rw [← hW7, ← hrb]
        clear hW7 hrb Y6 Y5 b0 b1 c0 c1
        have HS7 : Hid (∀ W, Below W7.heap.size W7 W → (W.cell? ⟨w.heap.size, 0, none⟩ = some (.int .i64 a) ∧ W.cell? ⟨w.heap.size, 1, none⟩ = some (.int .i64 b))) := Lib.hid fun W hb => ⟨(Y7.out.on HK.out hb).x.fst, (Y7.out.on HK.out hb).x.snd⟩
        have Y8 := Lib.hid (Y7.out.on HK.out (Below.refl _ _).drew)
        have CH8 := Lib.hid (CH.out _ Y8.out)
        have D7 := Lib.hid (Below.refl W7.heap.size W7).drew
        refine wp_region_held_drew (S := (fun w' => w'.cell? ⟨w.heap.size, 0, none⟩ = some (.int .i64 a) ∧ w'.cell? ⟨w.heap.size, 1, none⟩ = some (.int .i64 b))) (by kernel_rfl) (HS7.out _ D7.out) (fun hHeld => ?_)
        refine wpAnyH_take (i := 0) (v := ?_) rfl (by kernel_rfl) (by kernel_rfl) (by kernel_rfl) (fun _ _ _ h => h) (Or.inl ⟨by rfl, fun w hSw => ?_⟩) (by assumption) ?_
        rotate_left
        · (try dsimp only at hSw); go_simp; (try with_reducible rfl)
        try simp only [List.getElem_toArray, List.getElem_cons_succ, List.getElem_cons_zero, Act.put, List.setIfInBounds_toArray, List.set_cons_zero, List.set_cons_succ]
        refine wpAnyH_take (i := 1) (v := ?_) rfl (by kernel_rfl) (by kernel_rfl) (by kernel_rfl) (fun _ _ _ h => h) (Or.inl ⟨by rfl, fun w hSw => ?_⟩) (by assumption) ?_
        rotate_left
        · (try dsimp only at hSw); go_simp; (try with_reducible rfl)
        try simp only [List.getElem_toArray, List.getElem_cons_succ, List.getElem_cons_zero, Act.put, List.setIfInBounds_toArray, List.set_cons_zero, List.set_cons_succ]
        refine wpAnyH_take (i := 2) (v := ?_) rfl (by kernel_rfl) (by kernel_rfl) (by kernel_rfl) (fun _ _ _ h => h) (Or.inl ⟨by rfl, fun w hSw => ?_⟩) (by assumption) ?_
        rotate_left
        · (try dsimp only at hSw); go_simp; (try with_reducible rfl)
        try simp only [List.getElem_toArray, List.getElem_cons_succ, List.getElem_cons_zero, Act.put, List.setIfInBounds_toArray, List.set_cons_zero, List.set_cons_succ]
        refine wpAnyH_take (i := 3) (v := ?_) rfl (by kernel_rfl) (by kernel_rfl) (by kernel_rfl) (fun _ _ _ h => h) (Or.inl ⟨by rfl, fun w hSw => ?_⟩) (by assumption) ?_
        rotate_left
        · (try dsimp only at hSw); go_simp; (try with_reducible rfl)
        try simp only [List.getElem_toArray, List.getElem_cons_succ, List.getElem_cons_zero, Act.put, List.setIfInBounds_toArray, List.set_cons_zero, List.set_cons_succ]
        refine wpAnyH_take (i := 4) (v := ?_) rfl (by kernel_rfl) (by kernel_rfl) (by kernel_rfl) (fun _ _ _ h => h) (Or.inl ⟨by rfl, fun w hSw => ?_⟩) (by assumption) ?_
        rotate_left
        · (try dsimp only at hSw); go_simp; (try with_reducible rfl)
        try simp only [List.getElem_toArray, List.getElem_cons_succ, List.getElem_cons_zero, Act.put, List.setIfInBounds_toArray, List.set_cons_zero, List.set_cons_succ]
        refine wpAnyH_take (i := 5) (v := ?_) rfl (by kernel_rfl) (by kernel_rfl) (by kernel_rfl) (fun _ _ _ h => h) (Or.inl ⟨by rfl, fun w hSw => ?_⟩) (by assumption) ?_
        rotate_left
        · (try dsimp only at hSw); go_simp; (try with_reducible rfl)
        try simp only [List.getElem_toArray, List.getElem_cons_succ, List.getElem_cons_zero, Act.put, List.setIfInBounds_toArray, List.set_cons_zero, List.set_cons_succ]
        refine wpAnyH_take (i := 6) (v := ?_) rfl (by kernel_rfl) (by kernel_rfl) (by kernel_rfl) (fun _ _ _ h => h) (Or.inl ⟨by rfl, fun w hSw => ?_⟩) (by assumption) ?_
        rotate_left
        · (try dsimp only at hSw); go_simp; (try with_reducible rfl)
        try simp only [List.getElem_toArray, List.getElem_cons_succ, List.getElem_cons_zero, Act.put, List.setIfInBounds_toArray, List.set_cons_zero, List.set_cons_succ]
        refine wpAnyH_take (i := 8) (v := ?_) rfl (by kernel_rfl) (by kernel_rfl) (by kernel_rfl) (fun _ _ _ h => h) (Or.inl ⟨by rfl, fun w hSw => ?_⟩) (by assumption) ?_
        rotate_left
        · (try dsimp only at hSw); go_simp; (try with_reducible rfl)
        try simp only [List.getElem_toArray, List.getElem_cons_succ, List.getElem_cons_zero, Act.put, List.setIfInBounds_toArray, List.set_cons_zero, List.set_cons_succ]
        refine wpAnyH_ready (rs := [7]) (by kernel_rfl) (by simp) ?_
        refine AllReadyH.cons rfl (fun K hK => ?_) ?_
        rotate_left
        · exact AllReadyH.nil
        go_simp
        (go_at_call 11; (with_reducible refine CH8.out.mono ?_); rintro E w8 ⟨rfl, hb⟩; have D8 := Lib.hid (D7.out.trans (hb.mono D7.out.size)); clear hb)
        refine hK.out _ _ ?_ (fun hHeld => ?_)
        · exact HS7.out _ D8.out
        clear hK K
        try simp only [List.getElem_toArray, List.getElem_cons_succ, List.getElem_cons_zero, Act.put, List.setIfInBounds_toArray, List.set_cons_zero, List.set_cons_succ]
        refine wpAnyH_take (i := 9) (v := ?_) rfl (by kernel_rfl) (by kernel_rfl) (by kernel_rfl) (fun _ _ _ h => h) (Or.inl ⟨by rfl, fun w hSw => ?_⟩) (by assumption) ?_
        rotate_left
        · (try dsimp only at hSw); go_simp; (try with_reducible rfl)
        try simp only [List.getElem_toArray, List.getElem_cons_succ, List.getElem_cons_zero, Act.put, List.setIfInBounds_toArray, List.set_cons_zero, List.set_cons_succ]
        refine wpAnyH_take (i := 10) (v := ?_) rfl (by kernel_rfl) (by kernel_rfl) (by kernel_rfl) (fun _ _ _ h => h) (Or.inl ⟨by rfl, fun w hSw => ?_⟩) (by assumption) ?_
        rotate_left
        · (try dsimp only at hSw); go_simp; (try with_reducible rfl)
        try simp only [List.getElem_toArray, List.getElem_cons_succ, List.getElem_cons_zero, Act.put, List.setIfInBounds_toArray, List.set_cons_zero, List.set_cons_succ]
        refine wpAnyH_take (i := 11) (v := ?_) rfl (by kernel_rfl) (by kernel_rfl) (by kernel_rfl) (fun _ _ _ h => h) (Or.inl ⟨by rfl, fun w hSw => ?_⟩) (by assumption) ?_
        rotate_left
        · (try dsimp only at hSw); go_simp; (try with_reducible rfl)
        try simp only [List.getElem_toArray, List.getElem_cons_succ, List.getElem_cons_zero, Act.put, List.setIfInBounds_toArray, List.set_cons_zero, List.set_cons_succ]
        refine wpAnyH_take (i := 12) (v := ?_) rfl (by kernel_rfl) (by kernel_rfl) (by kernel_rfl) (fun _ _ _ h => h) (Or.inl ⟨by rfl, fun w hSw => ?_⟩) (by assumption) ?_
        rotate_left
        · (try dsimp only at hSw); go_simp; (try with_reducible rfl)
        try simp only [List.getElem_toArray, List.getElem_cons_succ, List.getElem_cons_zero, Act.put, List.setIfInBounds_toArray, List.set_cons_zero, List.set_cons_succ]
        refine wpAnyH_take (i := 13) (v := ?_) rfl (by kernel_rfl) (by kernel_rfl) (by kernel_rfl) (fun _ _ _ h => h) (Or.inl ⟨by rfl, fun w hSw => ?_⟩) (by assumption) ?_
        rotate_left
        · (try dsimp only at hSw); go_simp; (try with_reducible rfl)
        try simp only [List.getElem_toArray, List.getElem_cons_succ, List.getElem_cons_zero, Act.put, List.setIfInBounds_toArray, List.set_cons_zero, List.set_cons_succ]
        refine wpAnyH_take (i := 14) (v := _) rfl (by kernel_rfl) (by kernel_rfl) (by kernel_rfl) (fun _ _ _ h => h) (Or.inr ⟨by rfl, rfl⟩) (by assumption) ?_
        try simp only [List.getElem_toArray, List.getElem_cons_succ, List.getElem_cons_zero, Act.put, List.setIfInBounds_toArray, List.set_cons_zero, List.set_cons_succ]
        refine wpAnyH_take (i := 15) (v := _) rfl (by kernel_rfl) (by kernel_rfl) (by kernel_rfl) (fun _ _ _ h => h) (Or.inr ⟨by rfl, rfl⟩) (by assumption) ?_
        try simp only [List.getElem_toArray, List.getElem_cons_succ, List.getElem_cons_zero, Act.put, List.setIfInBounds_toArray, List.set_cons_zero, List.set_cons_succ]
        refine wpAnyH_take (i := 16) (v := _) rfl (by kernel_rfl) (by kernel_rfl) (by kernel_rfl) (fun _ _ _ h => h) (Or.inr ⟨by rfl, rfl⟩) (by assumption) ?_
        try simp only [List.getElem_toArray, List.getElem_cons_succ, List.getElem_cons_zero, Act.put, List.setIfInBounds_toArray, List.set_cons_zero, List.set_cons_succ]
        refine wpAnyH_take (i := 17) (v := _) rfl (by kernel_rfl) (by kernel_rfl) (by kernel_rfl) (fun _ _ _ h => h) (Or.inr ⟨by rfl, rfl⟩) (by assumption) ?_
        try simp only [List.getElem_toArray, List.getElem_cons_succ, List.getElem_cons_zero, Act.put, List.setIfInBounds_toArray, List.set_cons_zero, List.set_cons_succ]
        refine wpAnyH_take (i := 18) (v := _) rfl (by kernel_rfl) (by kernel_rfl) (by kernel_rfl) (fun _ _ _ h => h) (Or.inr ⟨by rfl, rfl⟩) (by assumption) ?_
        try simp only [List.getElem_toArray, List.getElem_cons_succ, List.getElem_cons_zero, Act.put, List.setIfInBounds_toArray, List.set_cons_zero, List.set_cons_succ]
        refine wpAnyH_take (i := 19) (v := _) rfl (by kernel_rfl) (by kernel_rfl) (by kernel_rfl) (fun _ _ _ h => h) (Or.inr ⟨by rfl, rfl⟩) (by assumption) ?_
        try simp only [List.getElem_toArray, List.getElem_cons_succ, List.getElem_cons_zero, Act.put, List.setIfInBounds_toArray, List.set_cons_zero, List.set_cons_succ]
        refine wpAnyH_take (i := 20) (v := _) rfl (by kernel_rfl) (by kernel_rfl) (by kernel_rfl) (fun _ _ _ h => h) (Or.inr ⟨by rfl, rfl⟩) (by assumption) ?_
        try simp only [List.getElem_toArray, List.getElem_cons_succ, List.getElem_cons_zero, Act.put, List.setIfInBounds_toArray, List.set_cons_zero, List.set_cons_succ]
        refine wpAnyH_take (i := 21) (v := ?_) rfl (by kernel_rfl) (by kernel_rfl) (by kernel_rfl) (fun _ _ _ h => h) (Or.inl ⟨by rfl, fun w hSw => ?_⟩) (by assumption) ?_
        rotate_left
        · (try dsimp only at hSw); go_simp; (try with_reducible rfl)
        try simp only [List.getElem_toArray, List.getElem_cons_succ, List.getElem_cons_zero, Act.put, List.setIfInBounds_toArray, List.set_cons_zero, List.set_cons_succ]
        refine wpAnyH_take (i := 22) (v := ?_) rfl (by kernel_rfl) (by kernel_rfl) (by kernel_rfl) (fun _ _ _ h => h) (Or.inl ⟨by rfl, fun w hSw => ?_⟩) (by assumption) ?_
        rotate_left
        · (try dsimp only at hSw); go_simp; (try with_reducible rfl)
        try simp only [List.getElem_toArray, List.getElem_cons_succ, List.getElem_cons_zero, Act.put, List.setIfInBounds_toArray, List.set_cons_zero, List.set_cons_succ]
        refine wpAnyH_done (by kernel_rfl) ?_ _
        have Y8 := Lib.hid (Y7.out.on HK.out D8.out)
        have R8 : Hid (w8.cell? ⟨rb, 3, none⟩ = some (.slice none 0 0)) := Lib.hid (cell_row ((D8.out.block rb (Array.getElem?_eq_some_iff.1 RB7.out).1).trans RB7.out) rfl)
        go_wp2_with fail
        go_loopw [15] (fun j wr => j = .int .i64 0 ∧ Hid (Gb G w a b N g rs wr) ∧ Hid (wr.cell? ⟨rb, 3, none⟩ = some (.slice none 0 0))) (fun _ _ => 0)
        case atStart => exact ⟨rfl, Y8, R8⟩
        case round =>
          obtain ⟨rfl, Y9, hR9⟩ := hrel
          have r3 := hR9.out
          go_wp2_with fail
          obtain ⟨W9, hW9⟩ : ∃ W9, W9 = wr := ⟨_, rfl⟩
          subst hW9
          have HS9 : Hid (∀ W, Below W9.heap.size W9 W → (W.cell? ⟨w.heap.size, 0, none⟩ = some (.int .i64 a) ∧ W.cell? ⟨w.heap.size, 1, none⟩ = some (.int .i64 b))) := Lib.hid fun W hb => ⟨(Y9.out.on HK.out hb).x.fst, (Y9.out.on HK.out hb).x.snd⟩
          have L1 : Hid (∀ W, Below W9.heap.size W9 W → Calls Try.prog 9 #[gptr g] W (RetBelow (.int .i64 k) W)) := Lib.hid fun W hb => by have := HK.out.len (Y9.out.on HK.out hb).g; rw [← HN.out] at this; exact this
          have L2 : Hid (∀ W, Below W9.heap.size W9 W → Calls Try.prog 14 #[gptr g] W (RetBelow (.int .i64 T) W)) := Lib.hid fun W hb => by have := HK.out.edges (Y9.out.on HK.out hb).g; rw [HTT.out] at this; exact this
          have L3 : Hid (∀ W, Below W9.heap.size W9 W → Calls Try.prog 10 #[gptr g] W (GivesRow (gIds rs) W)) := Lib.hid fun W hb => HK.out.ids (Y9.out.on HK.out hb).g
          have L4 : Hid (∀ W, Below W9.heap.size W9 W → Calls Try.prog 18 #[.slice p k cap] W (GivesRow (gIds rs) W)) := Lib.hid fun W hb => refids_any _ rs W (HROW.out.on (Y9.out.on HK.out hb).x.below) (by have := HNL.out; omega)
          have L6 : Hid (∀ W, Below W9.heap.size W9 W → Calls Try.prog 12 #[gptr g] W (GivesRow (gMiss rs) W)) := Lib.hid fun W hb => HK.out.miss (Y9.out.on HK.out hb).g
          have L7 : Hid (∀ W, Below W9.heap.size W9 W → Calls Try.prog 19 #[.slice p k cap] W (GivesRow (gMiss rs) W)) := Lib.hid fun W hb => refmissing_any _ rs W (HROW.out.on (Y9.out.on HK.out hb).x.below) (by have := HDL.out; omega)
          have L9 : Hid (∀ W, Below W9.heap.size W9 W → Calls Try.prog 13 #[gptr g, .agg #[.int .i64 a, .int .i64 b]] W (GivesRow (gUsers rs (a, b)) W)) := Lib.hid fun W hb => HK.out.users (Y9.out.on HK.out hb).g a b HAB.out
          have L10 : Hid (∀ W, Below W9.heap.size W9 W → Calls Try.prog 20 #[.slice p k cap, .agg #[.int .i64 a, .int .i64 b]] W (GivesRow (gUsers rs (a, b)) W)) := Lib.hid fun W hb => refusers_any _ rs a b W (HROW.out.on (Y9.out.on HK.out hb).x.below) (by have := HNL.out; omega)
          have LS : Hid (∀ (W : World) (v v' : Value) (zs : List Idn), RowAt W v zs → RowAt W v' zs → Calls Try.prog 17 #[v, v'] W (RetBelow (.bool true) W)) := Lib.hid fun W v v' zs h g => by have := Ids.same_any v v' zs zs W h g; rw [decide_eq_true rfl] at this; exact this
          have D0 := Lib.hid (Below.refl W9.heap.size W9)
          try clear hd
          go_region_held3 (fun w' => w'.cell? ⟨w.heap.size, 0, none⟩ = some (.int .i64 a) ∧ w'.cell? ⟨w.heap.size, 1, none⟩ = some (.int .i64 b))
            (first
              | exact HS9.out _ D12.out
              | exact HS9.out _ D11.out
              | exact HS9.out _ D10.out
              | exact HS9.out _ D9.out
              | exact HS9.out _ D8.out
              | exact HS9.out _ D7.out
              | exact HS9.out _ D6.out
              | exact HS9.out _ D5.out
              | exact HS9.out _ D4.out
              | exact HS9.out _ D3.out
              | exact HS9.out _ D2.out
              | exact HS9.out _ D1.out
              | exact HS9.out _ D0.out.drew
              | exact HS9.out _ D0.out)
            (first
              | (go_at_call 5; ((with_reducible refine (CP.out _).mono ?_); rintro E x12 ⟨rfl, hb⟩; have D12 := Lib.hid (D11.out.trans (hb.mono D11.out.size)); clear hb))
              | (go_at_call 17; ((with_reducible refine (LS.out _ _ _ _ S9.out R10.out).mono ?_); rintro E x11 ⟨rfl, hb⟩; have D11 := Lib.hid (D10.out.trans (hb.mono D10.out.size)); clear hb))
              | (go_at_call 20; ((with_reducible refine (L10.out _ D9.out).mono ?_); rintro E x10 ⟨v10, rfl, hr, hb⟩; have D10 := Lib.hid (D9.out.trans (hb.mono D9.out.size)); have R10 := Lib.hid hr; have S9 := Lib.hid (R9.out.on hb); clear hr; clear hb))
              | (go_at_call 13; ((with_reducible refine (L9.out _ D8.out).mono ?_); rintro E x9 ⟨v9, rfl, hr, hb⟩; have D9 := Lib.hid (D8.out.trans (hb.mono D8.out.size)); have R9 := Lib.hid hr; clear hr; clear hb))
              | (go_at_call 17; ((with_reducible refine (LS.out _ _ _ _ S6.out R7.out).mono ?_); rintro E x8 ⟨rfl, hb⟩; have D8 := Lib.hid (D7.out.trans (hb.mono D7.out.size)); clear hb))
              | (go_at_call 19; ((with_reducible refine (L7.out _ D6.out).mono ?_); rintro E x7 ⟨v7, rfl, hr, hb⟩; have D7 := Lib.hid (D6.out.trans (hb.mono D6.out.size)); have R7 := Lib.hid hr; have S6 := Lib.hid (R6.out.on hb); clear hr; clear hb))
              | (go_at_call 12; ((with_reducible refine (L6.out _ D5.out).mono ?_); rintro E x6 ⟨v6, rfl, hr, hb⟩; have D6 := Lib.hid (D5.out.trans (hb.mono D5.out.size)); have R6 := Lib.hid hr; clear hr; clear hb))
              | (go_at_call 17; ((with_reducible refine (LS.out _ _ _ _ S3.out R4.out).mono ?_); rintro E x5 ⟨rfl, hb⟩; have D5 := Lib.hid (D4.out.trans (hb.mono D4.out.size)); clear hb))
              | (go_at_call 18; ((with_reducible refine (L4.out _ D3.out).mono ?_); rintro E x4 ⟨v4, rfl, hr, hb⟩; have D4 := Lib.hid (D3.out.trans (hb.mono D3.out.size)); have R4 := Lib.hid hr; have S3 := Lib.hid (R3.out.on hb); clear hr; clear hb))
              | (go_at_call 10; ((with_reducible refine (L3.out _ D2.out).mono ?_); rintro E x3 ⟨v3, rfl, hr, hb⟩; have D3 := Lib.hid (D2.out.trans (hb.mono D2.out.size)); have R3 := Lib.hid hr; clear hr; clear hb))
              | (go_at_call 14; ((with_reducible refine (L2.out _ D1.out).mono ?_); rintro E x2 ⟨rfl, hb⟩; have D2 := Lib.hid (D1.out.trans (hb.mono D1.out.size)); clear hb))
              | (go_at_call 9; ((with_reducible refine (L1.out _ D0.out.drew).mono ?_); rintro E x1 ⟨rfl, hb⟩; have D1 := Lib.hid (D0.out.drew.trans (hb.mono D0.out.drew.size)); clear hb)))
          go_wp2_with fail
          go_ret
          exact ⟨rfl, Y9.out.x.below.trans (D12.out.mono Y9.out.x.below.size)⟩
end Go.Proofs.Ytimkkelnakamkaa.Gra
