/- The statement's function of layer 13 (vault) on two batches behind any items: it returns true. Conditions: the items lie in memory as their cells say; numbers' words of 64 bits; texts of a length that Go reads. (Written by tools/gen_vauw.py.) -/
import Derived.Test.YtacgmhnalbbgbaaVauV
namespace Go.Proofs.Ytacgmhnalbbgbaa.Vau
open Go.RowKit F64 Cmd Bat Cel Wid Go.Maps Go.WideElems Go.ChangeMaps Go.Sort
set_option linter.unusedVariables false
set_option linter.unusedSimpArgs false

/-! ### One vault, two vaults, what was told -/
structure Lp (base : Nat) (w2 : World) (g i : Nat) (F : Nat → Prop) (C : Key → Cell2) (L : Key → List Wr) (cnt : Int) (W : World) : Prop where
  vp : VP W base F g C L (16 * i) cnt
  pl : ∀ s, Pl (C s)
  ll : ∀ s, (L s).length ≤ 8 * i
  c0 : 0 ≤ cnt
  c1 : cnt ≤ i
  below : Below base w2 W
theorem Lp.on {base : Nat} {w2 : World} {g i : Nat} {F : Nat → Prop} {C : Key → Cell2} {L : Key → List Wr} {cnt : Int} {W W' : World} (h : Lp base w2 g i F C L cnt W) (hb : Below W.heap.size W W') (hs : base ≤ W.heap.size) : Lp base w2 g i F C L cnt W' := ⟨h.vp.on hb, h.pl, h.ll, h.c0, h.c1, h.below.trans (hb.mono hs)⟩
theorem Lp.next {base : Nat} {w2 : World} {g i : Nat} {F G : Nat → Prop} {C : Key → Cell2} {L : Key → List Wr} {cnt c' : Int} {id : Int × Int} {cs : List Cmdn} {W W' : World} (h : Lp base w2 g i F C L cnt W) (hs : base ≤ W.heap.size) (hv : VP W' base G g (stC C cs) (stL L id cs) (16 * i + 16) c') (ho : Only F W W') (hc : c' = if bErr cs = 0 then cnt + 1 else cnt) : Lp base w2 g (i + 1) G (stC C cs) (stL L id cs) c' W' := by
  have h0 := h.c0
  have h1 := h.c1
  refine ⟨hv.mono (by omega), fun s => stC_pl h.pl s, fun s => by have := stL_len (id := id) (cs := cs) h.ll s; omega, ?_, ?_, h.below.trans (ho.low hs (fun k hk => (h.vp.foot k hk).1))⟩
  · rw [hc]; split <;> omega
  · rw [hc]; split <;> omega
structure Bt (base : Nat) (w2 : World) (G1 G2 : Nat → Prop) (g1 g2 : Nat) (C1 C2 : Key → Cell2) (L1 L2 : Key → List Wr) (N1 N2 : Nat) (c1 c2 : Int) (W : World) : Prop where
  v1 : VP W base G1 g1 C1 L1 N1 c1
  v2 : VP W base G2 g2 C2 L2 N2 c2
  dis : ∀ j, G1 j → ¬ G2 j
  below : Below base w2 W
  size : base ≤ W.heap.size
structure Xt (G1 G2 : Nat → Prop) (v : Value) (ys : List Rs) (W : World) : Prop where
  tr : TR v ys W
  no1 : ∀ k, v.ownBlock = some k → ¬ G1 k
  no2 : ∀ k, v.ownBlock = some k → ¬ G2 k
section
variable {base : Nat} {w2 : World} {G1 G2 G : Nat → Prop} {g1 g2 : Nat} {C1 C2 C' : Key → Cell2} {L1 L2 L' : Key → List Wr} {N1 N2 N' : Nat} {c1 c2 c' : Int} {W W' : World}
theorem Bt.app1 (h : Bt base w2 G1 G2 g1 g2 C1 C2 L1 L2 N1 N2 c1 c2 W) (hv : VP W' base G g1 C' L' N' c') (ho : Only G1 W W') (hG : ∀ j, G j → G1 j ∨ W.heap.size ≤ j) : Bt base w2 G G2 g1 g2 C' C2 L' L2 N' N2 c' c2 W' :=
  ⟨hv, h.v2.far ho (fun j h2 h1 => h.dis j h1 h2), fun j hj h2 => (hG j hj).elim (fun e => h.dis j e h2) (fun e => by have := (h.v2.foot j h2).2; omega), h.below.trans (ho.low h.size (fun k hk => (h.v1.foot k hk).1)), Nat.le_trans h.size ho.below.size⟩
theorem Bt.app2 (h : Bt base w2 G1 G2 g1 g2 C1 C2 L1 L2 N1 N2 c1 c2 W) (hv : VP W' base G g2 C' L' N' c') (ho : Only G2 W W') (hG : ∀ j, G j → G2 j ∨ W.heap.size ≤ j) : Bt base w2 G1 G g1 g2 C1 C' L1 L' N1 N' c1 c' W' :=
  ⟨h.v1.far ho (fun j h1 h2 => h.dis j h1 h2), hv, fun j h1 hj => (hG j hj).elim (fun e => h.dis j h1 e) (fun e => by have := (h.v1.foot j h1).2; omega), h.below.trans (ho.low h.size (fun k hk => (h.v2.foot k hk).1)), Nat.le_trans h.size ho.below.size⟩
theorem Bt.on (h : Bt base w2 G1 G2 g1 g2 C1 C2 L1 L2 N1 N2 c1 c2 W) (hb : Below W.heap.size W W') : Bt base w2 G1 G2 g1 g2 C1 C2 L1 L2 N1 N2 c1 c2 W' :=
  ⟨h.v1.on hb, h.v2.on hb, h.dis, h.below.trans (hb.mono h.size), Nat.le_trans h.size hb.size⟩
theorem Xt.app1 {v : Value} {ys : List Rs} (h : Xt G1 G2 v ys W) (ho : Only G1 W W') (hG : ∀ j, G j → G1 j ∨ W.heap.size ≤ j) : Xt G G2 v ys W' :=
  ⟨h.tr.far ho h.no1, fun k hk hg => (hG k hg).elim (h.no1 k hk) (fun e => by have := h.tr.lt k hk; omega), h.no2⟩
theorem Xt.app2 {v : Value} {ys : List Rs} (h : Xt G1 G2 v ys W) (ho : Only G2 W W') (hG : ∀ j, G j → G2 j ∨ W.heap.size ≤ j) : Xt G1 G v ys W' :=
  ⟨h.tr.far ho h.no2, h.no1, fun k hk hg => (hG k hg).elim (h.no2 k hk) (fun e => by have := h.tr.lt k hk; omega)⟩
theorem Xt.on {v : Value} {ys : List Rs} (h : Xt G1 G2 v ys W) (hb : Below W.heap.size W W') : Xt G1 G2 v ys W' := ⟨h.tr.on hb, h.no1, h.no2⟩
theorem Xt.new1 {v : Value} {ys : List Rs} (h : TR v ys W') (hB : Bt base w2 G1 G2 g1 g2 C1 C2 L1 L2 N1 N2 c1 c2 W) (hk : ∀ k, v.ownBlock = some k → ¬ G k ∧ W.heap.size ≤ k) : Xt G G2 v ys W' :=
  ⟨h, fun k hk' => (hk k hk').1, fun k hk' hg => by have := (hk k hk').2; have := (hB.v2.foot k hg).2; omega⟩
theorem Xt.new2 {v : Value} {ys : List Rs} (h : TR v ys W') (hB : Bt base w2 G1 G2 g1 g2 C1 C2 L1 L2 N1 N2 c1 c2 W) (hk : ∀ k, v.ownBlock = some k → ¬ G k ∧ W.heap.size ≤ k) : Xt G1 G v ys W' :=
  ⟨h, fun k hk' hg => by have := (hk k hk').2; have := (hB.v1.foot k hg).2; omega, fun k hk' => (hk k hk').1⟩
theorem Bt.call1 (h : Bt base w2 G1 G2 g1 g2 C1 C2 L1 L2 N1 N2 c1 c2 W) (a b : Int) (v : Value) (cs : List Cmdn) (hrow : ∀ X, Below base w2 X → layC.Row X v cs) (hw : ∀ x ∈ cs, wfC x) (hN : N1 ≤ 50000) (hL : ∀ s, (L1 s).length ≤ 50000) (hc0 : 0 ≤ c1) (hc1 : c1 ≤ 100000) :
    Calls Try.prog 9 #[.pointer (some ⟨g1, 0, none⟩), .agg #[.int .i64 a, .int .i64 b], v] W (GivesAp base G1 g1 C1 L1 N1 c1 (a, b) cs W) :=
  vap_any h.v1 h.size a b v cs (fun X ho => hrow X (h.below.trans (ho.low h.size (fun k hk => (h.v1.foot k hk).1)))) hw hN hL hc0 hc1
theorem Bt.call2 (h : Bt base w2 G1 G2 g1 g2 C1 C2 L1 L2 N1 N2 c1 c2 W) (a b : Int) (v : Value) (cs : List Cmdn) (hrow : ∀ X, Below base w2 X → layC.Row X v cs) (hw : ∀ x ∈ cs, wfC x) (hN : N2 ≤ 50000) (hL : ∀ s, (L2 s).length ≤ 50000) (hc0 : 0 ≤ c2) (hc1 : c2 ≤ 100000) :
    Calls Try.prog 9 #[.pointer (some ⟨g2, 0, none⟩), .agg #[.int .i64 a, .int .i64 b], v] W (GivesAp base G2 g2 C2 L2 N2 c2 (a, b) cs W) :=
  vap_any h.v2 h.size a b v cs (fun X ho => hrow X (h.below.trans (ho.low h.size (fun k hk => (h.v2.foot k hk).1)))) hw hN hL hc0 hc1
end
theorem cnt_next {c c' : Int} {cs : List Cmdn} {m : Int} (h : c' = if bErr cs = 0 then c + 1 else c) (h0 : 0 ≤ c) (h1 : c ≤ m) : 0 ≤ c' ∧ c' ≤ m + 1 := by
  rw [h]; split <;> omega

/-! ### The items' boxes -/
abbrev itO (a b : Int) (v : Value) : Obj := .cells #[.int .i64 a, .int .i64 b, v] 30
def it2 (w : World) (a b : Int) (v : Value) (c d : Int) (u : Value) : World := (w.alloc (.cells #[.int .i64 a, .int .i64 b, v] 30)).alloc (.cells #[.int .i64 c, .int .i64 d, u] 30)
structure Ib (w : World) (a b : Int) (v : Value) (c d : Int) (u : Value) (W : World) : Prop where
  below : Below w.heap.size w W
  x : W.heap[w.heap.size]? = some (.cells #[.int .i64 a, .int .i64 b, v] 30 (0, 0))
  y : W.heap[w.heap.size + 1]? = some (.cells #[.int .i64 c, .int .i64 d, u] 30 (0, 0))
theorem Ib.start (w : World) (a b : Int) (v : Value) (c d : Int) (u : Value) : Ib w a b v c d u (it2 w a b v c d u) := by
  unfold it2
  have b1 := Cmd.below_one w (itO a b v)
  have b2 := Cmd.below_one (w.alloc (itO a b v)) (itO c d u)
  have s1 : (w.alloc (itO a b v)).heap.size = w.heap.size + 1 := by simp
  refine ⟨b1.trans (b2.mono b1.size), (b2.block _ (by omega)).trans (heap_alloc_new w _), ?_⟩
  have h := heap_alloc_new (w.alloc (itO a b v)) (itO c d u)
  rw [s1] at h; exact h
theorem it2_size (w : World) (a b : Int) (v : Value) (c d : Int) (u : Value) : (it2 w a b v c d u).heap.size = w.heap.size + 2 := by unfold it2; simp
theorem Ib.on {w W W' : World} {a b : Int} {v : Value} {c d : Int} {u : Value} {n : Nat} (h : Ib w a b v c d u W) (hb : Below n W W') (hn : w.heap.size + 1 < n) : Ib w a b v c d u W' :=
  ⟨h.below.trans (hb.mono (by omega)), (hb.block _ (by omega)).trans h.x, (hb.block _ hn).trans h.y⟩
theorem Ib.facts {w W : World} {a b : Int} {v : Value} {c d : Int} {u : Value} (h : Ib w a b v c d u W) : W.cell? ⟨w.heap.size, 0, none⟩ = some (.int .i64 a) ∧ W.cell? ⟨w.heap.size, 1, none⟩ = some (.int .i64 b) ∧ W.cell? ⟨w.heap.size, 2, none⟩ = some v ∧ W.cell? ⟨w.heap.size + 1, 0, none⟩ = some (.int .i64 c) ∧ W.cell? ⟨w.heap.size + 1, 1, none⟩ = some (.int .i64 d) ∧ W.cell? ⟨w.heap.size + 1, 2, none⟩ = some u := by
  have hx := h.x
  have hy := h.y
  refine ⟨?_, ?_, ?_, ?_, ?_, ?_⟩ <;> simp [World.cell?, hx, hy]

/-! ### VaultSwaps -/
set_option maxHeartbeats 16000000 in
set_option maxRecDepth 100000 in
theorem swaps_long (p : Option Addr) (n cap : Nat) (a1 a2 : Int) (pa : Option Addr) (na ca : Nat) (b1 b2 : Int) (pb : Option Addr) (nb cb : Nat) (w : World) (hl : 20 < n ∨ 20 < na ∨ 20 < nb) (hm : n ≤ 9223372036854775807 ∧ na ≤ 9223372036854775807 ∧ nb ≤ 9223372036854775807) : Calls Try.prog 4 #[.slice p n cap, .agg #[.int .i64 a1, .int .i64 a2, .slice pa na ca], .agg #[.int .i64 b1, .int .i64 b2, .slice pb nb cb]] w (RetBelow (.bool true) w) := by
  have CP := Lib.hid vplay_any
  have HI := Lib.hid (Ib.start w a1 a2 (.slice pa na ca) b1 b2 (.slice pb nb cb))
  unfold it2 at HI
  obtain ⟨i0, i1, i2, i3, i4, i5⟩ := HI.out.facts
  by_cases h1 : 20 < n
  · have h2 : decide ((20 : Int) < n) = true := decide_eq_true (by omega)
    have h3 : (20 : Int) < n := by omega
    clear hl hm h1
    go_enter Try.func4, Try.ntmps4
    go_wp2_with (first
      | (go_at_call 6; (with_reducible refine (CP.out _).mono ?_); rintro E w1 ⟨rfl, hb⟩; have B1 := Lib.hid (HI.out.below.trans (hb.mono HI.out.below.size)); clear hb))
    go_ret
    exact ⟨rfl, B1.out⟩
  · have h2 : decide ((20 : Int) < n) = false := decide_eq_false (by omega)
    have h3 : ¬ (20 : Int) < n := by omega
    by_cases h4 : 20 < na
    · have h5 : decide ((20 : Int) < na) = true := decide_eq_true (by omega)
      have h6 : (20 : Int) < na := by omega
      clear hl hm h1 h4
      go_enter Try.func4, Try.ntmps4
      go_wp2_with (first
        | (go_at_call 6; (with_reducible refine (CP.out _).mono ?_); rintro E w1 ⟨rfl, hb⟩; have B1 := Lib.hid (HI.out.below.trans (hb.mono HI.out.below.size)); clear hb))
      go_ret
      exact ⟨rfl, B1.out⟩
    · have h5 : decide ((20 : Int) < na) = false := decide_eq_false (by omega)
      have h6 : ¬ (20 : Int) < na := by omega
      have h7 : decide ((20 : Int) < nb) = true := decide_eq_true (by omega)
      have h8 : (20 : Int) < nb := by omega
      clear hl hm h1 h4
      go_enter Try.func4, Try.ntmps4
      go_wp2_with (first
        | (go_at_call 6; (with_reducible refine (CP.out _).mono ?_); rintro E w1 ⟨rfl, hb⟩; have B1 := Lib.hid (HI.out.below.trans (hb.mono HI.out.below.size)); clear hb))
      go_ret
      exact ⟨rfl, B1.out⟩
set_option maxHeartbeats 32000000 in
set_option maxRecDepth 100000 in
theorem swaps_few (p : Option Addr) (cap : Nat) (xs : List Itm) (a1 a2 : Int) (va : Value) (la : List Cmdn) (b1 b2 : Int) (vb : Value) (lb : List Cmdn) (w : World) (hrow : layT.Row w (.slice p xs.length cap) xs) (hra : layC.Row w va la) (hrb : layC.Row w vb lb) (hwx : ∀ x ∈ xs, wfT x) (hwa : ∀ x ∈ la, wfC x) (hwb : ∀ x ∈ lb, wfC x) (hl : xs.length ≤ 20 ∧ la.length ≤ 20 ∧ lb.length ≤ 20) : Calls Try.prog 4 #[.slice p xs.length cap, .agg #[.int .i64 a1, .int .i64 a2, va], .agg #[.int .i64 b1, .int .i64 b2, vb]] w (RetBelow (.bool true) w) := by
  have CP := Lib.hid vplay_any
  obtain ⟨pa, ca, rfl, -⟩ := id hra
  obtain ⟨pb, cb, rfl, -⟩ := id hrb
  have HI := Lib.hid (Ib.start w a1 a2 (.slice pa la.length ca) b1 b2 (.slice pb lb.length cb))
  obtain ⟨W2, hW2⟩ : ∃ W2, W2 = it2 w a1 a2 (.slice pa la.length ca) b1 b2 (.slice pb lb.length cb) := ⟨_, rfl⟩
  have HW2 := Lib.hid hW2
  rw [← hW2] at HI
  have hsz : W2.heap.size = w.heap.size + 2 := by rw [hW2]; exact it2_size _ _ _ _ _ _ _
  have HSZ := Lib.hid hsz
  have HRA : Hid (∀ X, Below W2.heap.size W2 X → layC.Row X (.slice pa la.length ca) la) := Lib.hid fun X hb => (hra.on HI.out.below).on hb
  have HRB : Hid (∀ X, Below W2.heap.size W2 X → layC.Row X (.slice pb lb.length cb) lb) := Lib.hid fun X hb => (hrb.on HI.out.below).on hb
  have HRX : Hid (∀ X, Below W2.heap.size W2 X → layT.Row X (.slice p xs.length cap) xs) := Lib.hid fun X hb => (hrow.on HI.out.below).on hb
  obtain ⟨p', cap', hpp, h1, hd⟩ := (hrow.on HI.out.below).parts
  injection hpp with e1 _ e3
  subst e1; subst e3
  have CN := Lib.hid (vnew_any W2 W2.heap.size (Nat.le_refl _))
  unfold GivesV vptr at CN
  have HXT : Hid (∀ X, Below W2.heap.size W2 X → Ib w a1 a2 (.slice pa la.length ca) b1 b2 (.slice pb lb.length cb) X) := Lib.hid fun X hb => HI.out.on hb (by omega)
  have hn20 := hl.1
  have HQA : Hid (∀ X, layC.Row X (.slice pa la.length ca) la → True) := Lib.hid fun _ _ => trivial
  obtain ⟨n, hn⟩ : ∃ n, n = xs.length := ⟨_, rfl⟩
  obtain ⟨na, hna⟩ : ∃ n, n = la.length := ⟨_, rfl⟩
  obtain ⟨nb, hnb⟩ : ∃ n, n = lb.length := ⟨_, rfl⟩
  have HN := Lib.hid hn
  have HWX := Lib.hid hwx
  have HWA := Lib.hid hwa
  have HWB := Lib.hid hwb
  have k1 : decide ((20 : Int) < n) = false := decide_eq_false (by omega)
  have k2 : ¬ (20 : Int) < n := by omega
  have k3 : decide ((20 : Int) < na) = false := decide_eq_false (by omega)
  have k4 : ¬ (20 : Int) < na := by omega
  have k5 : decide ((20 : Int) < nb) = false := decide_eq_false (by omega)
  have k6 : ¬ (20 : Int) < nb := by omega
  have kn : n ≤ 20 := by omega
  rw [← hna] at HRA HXT HW2
  rw [← hnb] at HRB HXT HW2
  rw [← hn] at HRX h1 hd
  rw [← hna, ← hnb, ← hn]
  have HIF := Lib.hid (HXT.out _ (Below.refl _ _))
  have HWE : Hid (W2 = (w.alloc (.cells #[.int .i64 a1, .int .i64 a2, .slice pa na ca] 30)).alloc (.cells #[.int .i64 b1, .int .i64 b2, .slice pb nb cb] 30)) := HW2
  have HIF0 := HIF
  have HWS : Hid (w.heap.size ≤ W2.heap.size) := Lib.hid (by omega)
  clear hrow hra hrb hwx hwa hwb hl hn hna hnb hsz hn20 HQA HI hW2
  rw [HWE.out] at HIF CN
  obtain ⟨i0, i1, i2, i3, i4, i5⟩ := HIF.out.facts
  rw [← HWE.out] at CN
  go_enter Try.func4, Try.ntmps4
  rw [HWE.out] at CN
  go_wp2_with (first
    | (go_at_call 7; ((with_reducible refine CN.out.mono ?_); rintro E w1 ⟨g, rfl, hv, hb⟩; have HV := Lib.hid hv; have B1 := Lib.hid hb; clear hv hb)))
  rw [← HWE.out] at B1 HV
  go_loopw [8] (fun idx wr => ∃ (i : Nat) (F : Nat → Prop) (C : Key → Cell2) (L : Key → List Wr) (cnt : Int), i ≤ n ∧ idx = .int .i64 i ∧ Hid (Lp W2.heap.size W2 g i F C L cnt wr)) (fun idx _ => n - (intOf idx).toNat)
  case atStart => exact ⟨0, _, noC, noL, 0, Nat.zero_le _, rfl, Lib.hid ⟨HV.out, fun s _ => rfl, fun s => Nat.zero_le _, by omega, by omega, B1.out⟩⟩
  case round =>
    obtain ⟨i, F, C, L, cnt, hi, rfl, HP⟩ := hrel
    have i00 : (0 : Int) ≤ i := by omega
    have HSW : Hid (W2.heap.size ≤ wr.heap.size) := Lib.hid HP.out.below.size
    by_cases hin : i < n
    · have kin : (i : Int) < n := by omega
      obtain ⟨B, off, rfl, HC⟩ := hd.resolve_left (by omega)
      have hix : i < xs.length := by rw [← HN.out]; exact hin
      obtain ⟨x1, x2, cs, hx⟩ : ∃ a b cs, layT.at xs i = ((a, b), cs) := ⟨_, _, _, rfl⟩
      have HWC := HWX.out _ (layT.at_mem hix)
      rw [hx] at HWC
      obtain ⟨p', cap', hp2, -, -, -⟩ := partT HC.out hix hx
      obtain ⟨m, hm⟩ : ∃ m, m = cs.length := ⟨_, rfl⟩
      rw [← hm] at hp2
      have HM := Lib.hid hm
      have HS : Hid (∀ X, Below W2.heap.size W2 X → X.cell? ⟨B, off + i * 3, none⟩ = some (.int .i64 x1) ∧ X.cell? ⟨B, off + i * 3 + 1, none⟩ = some (.int .i64 x2) ∧ X.cell? ⟨B, off + i * 3 + 2, none⟩ = some (.slice p' m cap')) := Lib.hid fun X hb => by
        obtain ⟨c0, c1, -⟩ := cellT (HC.out.on hb) hix hx
        exact ⟨c0, c1, (hb.cell (p := ⟨B, off + i * 3 + 2, none⟩) HC.out.lt).trans hp2⟩
      have HRC : Hid (∀ X, Below W2.heap.size W2 X → layC.Row X (.slice p' m cap') cs) := Lib.hid fun X hb => by
        obtain ⟨-, -, v, e1, e2⟩ := cellT (HC.out.on hb) hix hx
        have e3 := (hb.cell (p := ⟨B, off + i * 3 + 2, none⟩) HC.out.lt).trans hp2
        rw [e1] at e3
        cases e3; exact e2
      have HP1 := Lib.hid (HP.out.on (Below.refl _ _).drew HSW.out)
      have CA : Hid (Calls Try.prog 9 #[.pointer (some ⟨g, 0, none⟩), .agg #[.int .i64 x1, .int .i64 x2], .slice p' m cap'] wr.drew (GivesAp W2.heap.size F g C L (16 * i) cnt (x1, x2) cs wr.drew)) := Lib.hid (vap_any HP1.out.vp HSW.out x1 x2 _ cs (fun X ho => HRC.out X (HP1.out.below.trans (ho.low HSW.out (fun k hk => (HP1.out.vp.foot k hk).1)))) HWC (by omega) (fun s => by have := HP1.out.ll s; omega) HP1.out.c0 (by have := HP1.out.c1; omega))
      have HSW1 : Hid (W2.heap.size ≤ wr.drew.heap.size) := HSW
      clear hix hx hp2 hm HWC hd
      go_wp2_with fail
      refine wp_region_held_drew (S := (fun w' => w'.cell? ⟨B, off + i * 3, none⟩ = some (.int .i64 x1) ∧ w'.cell? ⟨B, off + i * 3 + 1, none⟩ = some (.int .i64 x2) ∧ w'.cell? ⟨B, off + i * 3 + 2, none⟩ = some (.slice p' m cap'))) (by kernel_rfl) (HS.out _ HP1.out.below) (fun hHeld => ?_)
      generalize wr.drew = W0 at HP1 CA HSW1 hHeld ⊢
      refine wpAnyH_take (i := 0) (v := ?_) rfl (by kernel_rfl) (by kernel_rfl) (by kernel_rfl) (fun _ _ _ h => h) (Or.inl ⟨by rfl, fun w hSw => ?_⟩) (by assumption) ?_
      rotate_left
      · (try dsimp only at hSw); go_simp; (try with_reducible rfl)
      try simp only [List.getElem_toArray, List.getElem_cons_succ, List.getElem_cons_zero, Act.put, List.setIfInBounds_toArray, List.set_cons_zero, List.set_cons_succ]
      refine wpAnyH_take (i := 1) (v := ?_) rfl (by kernel_rfl) (by kernel_rfl) (by kernel_rfl) (fun _ _ _ h => h) (Or.inl ⟨by rfl, fun w hSw => ?_⟩) (by assumption) ?_
      rotate_left
      · (try dsimp only at hSw); go_simp; (try with_reducible rfl)
      try simp only [List.getElem_toArray, List.getElem_cons_succ, List.getElem_cons_zero, Act.put, List.setIfInBounds_toArray, List.set_cons_zero, List.set_cons_succ]
      refine wpAnyH_take (i := 2) (v := ?_) rfl (by kernel_rfl) (by kernel_rfl) (by kernel_rfl) (fun _ _ _ h => h) (Or.inl ⟨by rfl, fun w hSw => ?_⟩) (by assumption) ?_
      rotate_left
      · (try dsimp only at hSw); go_simp; (try with_reducible rfl)
      try simp only [List.getElem_toArray, List.getElem_cons_succ, List.getElem_cons_zero, Act.put, List.setIfInBounds_toArray, List.set_cons_zero, List.set_cons_succ]
      refine wpAnyH_take (i := 3) (v := ?_) rfl (by kernel_rfl) (by kernel_rfl) (by kernel_rfl) (fun _ _ _ h => h) (Or.inl ⟨by rfl, fun w hSw => ?_⟩) (by assumption) ?_
      rotate_left
      · (try dsimp only at hSw); go_simp; (try with_reducible rfl)
      try simp only [List.getElem_toArray, List.getElem_cons_succ, List.getElem_cons_zero, Act.put, List.setIfInBounds_toArray, List.set_cons_zero, List.set_cons_succ]
      refine wpAnyH_take (i := 4) (v := ?_) rfl (by kernel_rfl) (by kernel_rfl) (by kernel_rfl) (fun _ _ _ h => h) (Or.inl ⟨by rfl, fun w hSw => ?_⟩) (by assumption) ?_
      rotate_left
      · (try dsimp only at hSw); go_simp; (try with_reducible rfl)
      try simp only [List.getElem_toArray, List.getElem_cons_succ, List.getElem_cons_zero, Act.put, List.setIfInBounds_toArray, List.set_cons_zero, List.set_cons_succ]
      refine wpAnyH_take (i := 5) (v := ?_) rfl (by kernel_rfl) (by kernel_rfl) (by kernel_rfl) (fun _ _ _ h => h) (Or.inl ⟨by rfl, fun w hSw => ?_⟩) (by assumption) ?_
      rotate_left
      · (try dsimp only at hSw); go_simp; (try with_reducible rfl)
      try simp only [List.getElem_toArray, List.getElem_cons_succ, List.getElem_cons_zero, Act.put, List.setIfInBounds_toArray, List.set_cons_zero, List.set_cons_succ]
      refine wpAnyH_take (i := 6) (v := ?_) rfl (by kernel_rfl) (by kernel_rfl) (by kernel_rfl) (fun _ _ _ h => h) (Or.inl ⟨by rfl, fun w hSw => ?_⟩) (by assumption) ?_
      rotate_left
      · (try dsimp only at hSw); go_simp; (try with_reducible rfl)
      try simp only [List.getElem_toArray, List.getElem_cons_succ, List.getElem_cons_zero, Act.put, List.setIfInBounds_toArray, List.set_cons_zero, List.set_cons_succ]
      refine wpAnyH_take (i := 7) (v := ?_) rfl (by kernel_rfl) (by kernel_rfl) (by kernel_rfl) (fun _ _ _ h => h) (Or.inl ⟨by rfl, fun w hSw => ?_⟩) (by assumption) ?_
      rotate_left
      · (try dsimp only at hSw); go_simp; (try with_reducible rfl)
      try simp only [List.getElem_toArray, List.getElem_cons_succ, List.getElem_cons_zero, Act.put, List.setIfInBounds_toArray, List.set_cons_zero, List.set_cons_succ]
      refine wpAnyH_take (i := 8) (v := ?_) rfl (by kernel_rfl) (by kernel_rfl) (by kernel_rfl) (fun _ _ _ h => h) (Or.inl ⟨by rfl, fun w hSw => ?_⟩) (by assumption) ?_
      rotate_left
      · (try dsimp only at hSw); go_simp; (try with_reducible rfl)
      try simp only [List.getElem_toArray, List.getElem_cons_succ, List.getElem_cons_zero, Act.put, List.setIfInBounds_toArray, List.set_cons_zero, List.set_cons_succ]
      refine wpAnyH_take (i := 9) (v := ?_) rfl (by kernel_rfl) (by kernel_rfl) (by kernel_rfl) (fun _ _ _ h => h) (Or.inl ⟨by rfl, fun w hSw => ?_⟩) (by assumption) ?_
      rotate_left
      · (try dsimp only at hSw); go_simp; (try with_reducible rfl)
      try simp only [List.getElem_toArray, List.getElem_cons_succ, List.getElem_cons_zero, Act.put, List.setIfInBounds_toArray, List.set_cons_zero, List.set_cons_succ]
      refine wpAnyH_take (i := 10) (v := ?_) rfl (by kernel_rfl) (by kernel_rfl) (by kernel_rfl) (fun _ _ _ h => h) (Or.inl ⟨by rfl, fun w hSw => ?_⟩) (by assumption) ?_
      rotate_left
      · (try dsimp only at hSw); go_simp; (try with_reducible rfl)
      try simp only [List.getElem_toArray, List.getElem_cons_succ, List.getElem_cons_zero, Act.put, List.setIfInBounds_toArray, List.set_cons_zero, List.set_cons_succ]
      refine wpAnyH_ready (rs := [11]) (by kernel_rfl) (by simp) ?_
      refine AllReadyH.cons rfl (fun K hK => ?_) ?_
      rotate_left
      · exact AllReadyH.nil
      go_simp
      (go_at_call 9; (with_reducible refine CA.out.mono ?_); rintro E w3 ⟨t, ys, G, c', rfl, ht, hfit, hv, ho, hG, htk, hc'⟩; have HP3 := Lib.hid (HP1.out.next HSW1.out hv ho hc'); clear ht hfit hv ho hG htk hc')
      refine hK.out _ _ ?_ (fun hHeld => ?_)
      · exact HS.out _ HP3.out.below
      clear hK K
      try simp only [List.getElem_toArray, List.getElem_cons_succ, List.getElem_cons_zero, Act.put, List.setIfInBounds_toArray, List.set_cons_zero, List.set_cons_succ]
      refine wpAnyH_done (by kernel_rfl) ?_ _
      go_wp2_with fail
      go_roundw
      case rel => exact ⟨i + 1, _, _, _, _, by omega, by go_num, HP3⟩
      case measure => simp [intOf]; omega
    · obtain rfl : i = n := by omega
      have kin : ¬ (i : Int) < i := by omega
      clear hd
      have HLL : Hid (∀ s, (L s).length ≤ 200) := Lib.hid fun s => by have := HP.out.ll s; omega
      have CT := Lib.hid (vtwin_any (base' := W2.heap.size) HP.out.vp HSW.out (by omega) (fun s => by have := HLL.out s; omega))
      unfold GivesV vptr at CT
      have HCN : Hid (0 ≤ cnt ∧ cnt ≤ 20) := Lib.hid ⟨HP.out.c0, by have := HP.out.c1; omega⟩
      have HPL : Hid (∀ s, Pl (C s)) := Lib.hid HP.out.pl
      have HNI : Hid (16 * i ≤ 400) := Lib.hid (by omega)
      have CF : Hid (∀ X, Below W2.heap.size W2 X → Calls Try.prog 18 #[.slice pa na ca, .slice pb nb cb] X (RetBelow (.bool (bConf la lb)) X)) := Lib.hid fun X hb => refbconf_any _ _ la lb X (HRA.out X hb) (HRB.out X hb) HWA.out HWB.out
      have HSA : Hid (bConf la lb = false → stC (stC C la) lb = stC (stC C lb) la ∧ stL (stL L (a1, a2) la) (b1, b2) lb = stL (stL L (b1, b2) lb) (a1, a2) la ∧ stR C (a1, a2) la = stR (stC C lb) (a1, a2) la ∧ stR C (b1, b2) lb = stR (stC C la) (b1, b2) lb) := Lib.hid fun hc => ⟨swapC HPL.out hc, swapL _ _ hc, swapR _ HPL.out hc, swapR _ HPL.out (by rw [bConf_comm]; exact hc)⟩
      obtain ⟨qc, hqc⟩ : ∃ qc, qc = bConf la lb := ⟨_, rfl⟩
      have HQC := Lib.hid hqc
      rw [← hqc] at CF HSA
      obtain ⟨ea, hea⟩ : ∃ ea, ea = bErr la := ⟨_, rfl⟩
      obtain ⟨eb, heb⟩ : ∃ eb, eb = bErr lb := ⟨_, rfl⟩
      have HEA := Lib.hid hea
      have HEB := Lib.hid heb
      clear hqc hea heb
      obtain ⟨j0, j1, j2, j3, j4, j5⟩ := (HXT.out wr HP.out.below).facts
      go_upto_region 13 with (first
        | (go_at_call 8; ((with_reducible refine CT.out.mono ?_); rintro E w4 ⟨g2, rfl, hv, hb⟩; have BT : Hid (Bt W2.heap.size W2 F (More (fun _ => False) wr.heap.size w4.heap.size) g g2 C C L L (16 * i) (16 * i) cnt cnt w4) := Lib.hid ⟨HP.out.vp.on hb, hv, fun j hj h2 => (by have h3 := (HP.out.vp.foot j hj).2; rcases h2 with h2 | h2; exact h2.elim; omega), HP.out.below.trans (hb.mono HSW.out), Nat.le_trans HSW.out hb.size⟩; have CA1 := Lib.hid (BT.out.call1 a1 a2 _ la HRA.out HWA.out (by have := HNI.out; omega) (fun s => by have := HLL.out s; omega) HCN.out.1 (by have := HCN.out.2; omega)); obtain ⟨j0, j1, j2, j3, j4, j5⟩ := (HXT.out w4 BT.out.below).facts; clear hv hb))
        | (go_at_call 9; ((with_reducible refine CA1.out.mono ?_); rintro E w5 ⟨tx, yx, G1, cx, rfl, ht, hfit, hv, ho, hG, htk, hc'⟩; rw [← HEA.out]; have B5 := Lib.hid (BT.out.app1 hv ho hG); have X5 := Lib.hid (Xt.new1 ht BT.out htk); have FX := Lib.hid hfit; have NX := Lib.hid (cnt_next hc' HCN.out.1 HCN.out.2); have CA2 := Lib.hid (B5.out.call1 b1 b2 _ lb HRB.out HWB.out (by have := HNI.out; omega) (fun s => by have := stL_len (id := (a1, a2)) (cs := la) HLL.out s; omega) NX.out.1 (by have := NX.out.2; omega)); obtain ⟨j0, j1, j2, j3, j4, j5⟩ := (HXT.out w5 B5.out.below).facts; clear CA1 ht hfit hv ho hG htk hc'))
        | (go_at_call 9; ((with_reducible refine CA2.out.mono ?_); rintro E w6 ⟨ty, yy, G2, cy, rfl, ht, hfit, hv, ho, hG, htk, hc'⟩; rw [← HEB.out]; have B6 := Lib.hid (B5.out.app1 hv ho hG); have X6 := Lib.hid (X5.out.app1 ho hG); have Y6 := Lib.hid (Xt.new1 ht B5.out htk); have FY := Lib.hid hfit; have CA3 := Lib.hid (B6.out.call2 b1 b2 _ lb HRB.out HWB.out (by have := HNI.out; omega) (fun s => by have := HLL.out s; omega) HCN.out.1 (by have := HCN.out.2; omega)); obtain ⟨j0, j1, j2, j3, j4, j5⟩ := (HXT.out w6 B6.out.below).facts; clear CA2 ht hfit hv ho hG htk hc'))
        | (go_at_call 9; ((with_reducible refine CA3.out.mono ?_); rintro E w7 ⟨tp, yp, G3, cp, rfl, ht, hfit, hv, ho, hG, htk, hc'⟩; rw [← HEB.out]; have B7 := Lib.hid (B6.out.app2 hv ho hG); have X7 := Lib.hid (X6.out.app2 ho hG); have Y7 := Lib.hid (Y6.out.app2 ho hG); have P7 := Lib.hid (Xt.new2 ht B6.out htk); have FP := Lib.hid hfit; have NP := Lib.hid (cnt_next hc' HCN.out.1 HCN.out.2); have CA4 := Lib.hid (B7.out.call2 a1 a2 _ la HRA.out HWA.out (by have := HNI.out; omega) (fun s => by have := stL_len (id := (b1, b2)) (cs := lb) HLL.out s; omega) NP.out.1 (by have := NP.out.2; omega)); obtain ⟨j0, j1, j2, j3, j4, j5⟩ := (HXT.out w7 B7.out.below).facts; clear CA3 ht hfit hv ho hG htk hc'))
        | (go_at_call 9; ((with_reducible refine CA4.out.mono ?_); rintro E w8 ⟨tq, yq, G4, cq, rfl, ht, hfit, hv, ho, hG, htk, hc'⟩; rw [← HEA.out]; have B8 := Lib.hid (B7.out.app2 hv ho hG); have X8 := Lib.hid (X7.out.app2 ho hG); have Y8 := Lib.hid (Y7.out.app2 ho hG); have P8 := Lib.hid (P7.out.app2 ho hG); have Q8 := Lib.hid (Xt.new2 ht B7.out htk); have FQ := Lib.hid hfit; obtain ⟨j0, j1, j2, j3, j4, j5⟩ := (HXT.out w8 B8.out.below).facts; have CF8 := Lib.hid (CF.out w8 B8.out.below); clear CA4 ht hfit hv ho hG htk hc')))
      have hea2 : (ea != ea) = false := by simp
      have heb2 : (eb != eb) = false := by simp
      cases qc with
      | true =>
        go_wp2_with (first
          | (go_at_call 18; ((with_reducible refine CF8.out.mono ?_); rintro E w9 ⟨rfl, hb⟩; have B9 := Lib.hid (B8.out.on hb); clear hb))
          | (go_at_call 6; (with_reducible refine (CP.out _).mono ?_); rintro E w10 ⟨rfl, hb⟩; have B10 := Lib.hid (B9.out.on hb); clear hb))
        go_ret
        exact ⟨rfl, HIF0.out.below.trans (B10.out.below.mono HWS.out)⟩
      | false =>
        obtain ⟨e1, e2, e3, e4⟩ := HSA.out rfl
        have V8 : Hid (Bt W2.heap.size W2 G2 G4 g g2 (stC (stC C lb) la) (stC (stC C lb) la) (stL (stL L (b1, b2) lb) (a1, a2) la) (stL (stL L (b1, b2) lb) (a1, a2) la) (16 * i + 16 + 16) (16 * i + 16 + 16) cy cq w8) := Lib.hid (by have := B8.out; rw [e1, e2] at this; exact this)
        have HXQ : Hid (sameR yx yq = true) := Lib.hid (FX.out.same (by rw [e3]; exact FQ.out))
        have HYP : Hid (sameR yy yp = true) := Lib.hid (FY.out.same (by rw [← e4]; exact FP.out))
        obtain ⟨kk, hk1, hk2⟩ := V8.out.v1.keys
        have HK1 := Lib.hid hk1
        have HK2 := Lib.hid hk2
        have HNN : Hid (16 * i + 16 + 16 ≤ 100000) := Lib.hid (by have := HNI.out; omega)
        obtain ⟨dd, hdd⟩ : ∃ dd, dd = digV (stC (stC C lb) la) (kset kk) := ⟨_, rfl⟩
        have HDD := Lib.hid hdd
        obtain ⟨px, cx', rfl⟩ := X8.out.tr.shape
        obtain ⟨pq, cq', rfl⟩ := Q8.out.tr.shape
        obtain ⟨py, cy', rfl⟩ := Y8.out.tr.shape
        obtain ⟨pp, cp', rfl⟩ := P8.out.tr.shape
        clear hk1 hk2 hdd e1 e2 e3 e4
        go_wp2_with (first
          | (go_at_call 18; ((with_reducible refine CF8.out.mono ?_); rintro E w9 ⟨rfl, hb⟩; have B9 := Lib.hid (V8.out.on hb); have CR1 : Hid (Calls Try.prog 12 #[.slice px yx.length cx', .slice pq yq.length cq'] w9 (RetBelow (.bool true) w9)) := Lib.hid ((sres_any _ _ yx yq w9 (X8.out.on hb).tr.row (Q8.out.on hb).tr.row FX.out.wf FQ.out.wf).mono fun E w' h => by rw [HXQ.out] at h; exact h); have Y9 := Lib.hid (Y8.out.on hb); have P9 := Lib.hid (P8.out.on hb); clear hb))
          | (go_at_call 12; ((with_reducible refine CR1.out.mono ?_); rintro E w10 ⟨rfl, hb⟩; have B10 := Lib.hid (B9.out.on hb); have CR2 : Hid (Calls Try.prog 12 #[.slice py yy.length cy', .slice pp yp.length cp'] w10 (RetBelow (.bool true) w10)) := Lib.hid ((sres_any _ _ yy yp w10 (Y9.out.on hb).tr.row (P9.out.on hb).tr.row FY.out.wf FP.out.wf).mono fun E w' h => by rw [HYP.out] at h; exact h); clear hb CR1))
          | (go_at_call 12; ((with_reducible refine CR2.out.mono ?_); rintro E w11 ⟨rfl, hb⟩; have B11 := Lib.hid (B10.out.on hb); have CS1 : Hid (Calls Try.prog 14 #[.pointer (some ⟨g, 0, none⟩), .pointer (some ⟨g2, 0, none⟩)] w11 (RetBelow (.bool true) w11)) := Lib.hid ((vsame_any B11.out.v1 B11.out.v2).mono fun E w' h => by rw [eqC_self, eqL_self] at h; exact h); clear hb CR2))
          | (go_at_call 14; ((with_reducible refine CS1.out.mono ?_); rintro E w12 ⟨rfl, hb⟩; have B12 := Lib.hid (B11.out.on hb); have CS2 : Hid (Calls Try.prog 14 #[.pointer (some ⟨g2, 0, none⟩), .pointer (some ⟨g, 0, none⟩)] w12 (RetBelow (.bool true) w12)) := Lib.hid ((vsame_any B12.out.v2 B12.out.v1).mono fun E w' h => by rw [eqC_self, eqL_self] at h; exact h); clear hb))
          | (go_at_call 14; ((with_reducible refine CS2.out.mono ?_); rintro E w13 ⟨rfl, hb⟩; have B13 := Lib.hid (B12.out.on hb); have CD1 : Hid (Calls Try.prog 19 #[.pointer (some ⟨g, 0, none⟩)] w13 (Dig.RetBelowN dd w13)) := Lib.hid (by rw [HDD.out]; exact vdigest_any B13.out.v1 HNN.out kk HK1.out HK2.out); clear hb))
          | (go_at_call 19; ((with_reducible refine CD1.out.mono ?_); rintro E w14 ⟨rfl, hb⟩; have B14 := Lib.hid (B13.out.on hb); have CD2 : Hid (Calls Try.prog 19 #[.pointer (some ⟨g2, 0, none⟩)] w14 (Dig.RetBelowN dd w14)) := Lib.hid (by rw [HDD.out]; exact vdigest_any B14.out.v2 HNN.out kk HK1.out HK2.out); clear hb))
          | (go_at_call 19; ((with_reducible refine CD2.out.mono ?_); rintro E w15 ⟨rfl, hb⟩; have B15 := Lib.hid (B14.out.on hb); clear hb))
          | (go_at_call 6; (with_reducible refine (CP.out _).mono ?_); rintro E w16 ⟨rfl, hb⟩; have B16 := Lib.hid (B15.out.on hb); clear hb))
        go_ret
        exact ⟨rfl, HIF0.out.below.trans (B16.out.below.mono HWS.out)⟩
end Go.Proofs.Ytacgmhnalbbgbaa.Vau
