/- The statement's function of layer 5 (front) on a list of ids and a number: in whatever order ids are marked, it returns true. Conditions: the list lies in memory as its cells say; its ids and the number fit into their kinds. -/
import Derived.Test.YtjkjbpfpmghlaaaFrontE
namespace Go.Proofs.Ytjkjbpfpmghlaaa
open Go.RowKit Go.Maps
set_option linter.unusedVariables false

/-! ### What is marked of a list -/
def mks (l : List Idn) : List Idn := l.foldl marked []
theorem marked_mem (ms : List Idn) (x z : Idn) : z ∈ marked ms x ↔ z ∈ ms ∨ (z = x ∧ idRight z = true) := by
  unfold marked
  split
  · rename_i h
    rw [put_mem]
    constructor
    · rintro (rfl | hz)
      · exact .inr ⟨rfl, h⟩
      · exact .inl hz
    · rintro (hz | ⟨rfl, _⟩)
      · exact .inr hz
      · exact .inl rfl
  · rename_i h
    exact ⟨.inl, fun hz => hz.elim id fun ⟨e, hr⟩ => absurd (e ▸ hr) h⟩
theorem marked_rise {ms : List Idn} (x : Idn) (h : Rise ms) : Rise (marked ms x) := by
  unfold marked; split
  · exact put_rise h
  · exact h
theorem marked_length (ms : List Idn) (x : Idn) : (marked ms x).length ≤ ms.length + 1 := by
  unfold marked; split
  · exact put_length ms x
  · omega
theorem fold_marked : ∀ (l a : List Idn), Rise a → Rise (l.foldl marked a) ∧ (∀ z, z ∈ l.foldl marked a ↔ z ∈ a ∨ (z ∈ l ∧ idRight z = true)) ∧ (l.foldl marked a).length ≤ a.length + l.length
  | [], a, h => ⟨h, fun z => by simp, by simp⟩
  | x :: l, a, h => by
    obtain ⟨h1, h2, h3⟩ := fold_marked l (marked a x) (marked_rise x h)
    refine ⟨h1, fun z => ?_, ?_⟩
    · rw [List.foldl_cons, h2, marked_mem, List.mem_cons]
      constructor
      · rintro ((h | ⟨rfl, k⟩) | ⟨h, k⟩)
        · exact .inl h
        · exact .inr ⟨.inl rfl, k⟩
        · exact .inr ⟨.inr h, k⟩
      · rintro (h | ⟨rfl | h, k⟩)
        · exact .inl (.inl h)
        · exact .inl (.inr ⟨rfl, k⟩)
        · exact .inr ⟨h, k⟩
    · rw [List.foldl_cons, List.length_cons]
      have := marked_length a x
      omega
theorem mks_rise (l : List Idn) : Rise (mks l) := (fold_marked l [] .nil).1
theorem mks_mem (l : List Idn) (z : Idn) : z ∈ mks l ↔ z ∈ l ∧ idRight z = true := by
  have := (fold_marked l [] .nil).2.1 z
  unfold mks; simpa using this
theorem mks_length (l : List Idn) : (mks l).length ≤ l.length := by
  have := (fold_marked l [] .nil).2.2
  unfold mks; simpa using this
theorem mks_take (l : List Idn) {k : Nat} (h : k < l.length) : mks (l.take (k + 1)) = marked (mks (l.take k)) (nth l k) := by
  have e : nth l k = l[k] := by unfold nth; rw [List.getD_eq_getElem?_getD, List.getElem?_eq_getElem h]; rfl
  unfold mks
  rw [List.take_succ_eq_append_getElem h, List.foldl_append, e]; rfl
/-- The list from place b on, round. -/
def rot (l : List Idn) (b : Nat) : List Idn := (List.range l.length).map fun i => nth l ((i + b) % l.length)
theorem rot_length (l : List Idn) (b : Nat) : (rot l b).length = l.length := by simp [rot]
theorem rot_nth (l : List Idn) (b : Nat) {k : Nat} (h : k < l.length) : nth (rot l b) k = nth l ((k + b) % l.length) := by
  show (rot l b).getD k (0, 0) = _
  rw [List.getD_eq_getElem?_getD, List.getElem?_eq_getElem (by rw [rot_length]; exact h)]
  simp [rot]
theorem rot_mem (l : List Idn) (b : Nat) (x : Idn) : x ∈ rot l b ↔ x ∈ l := by
  rw [mem_nth, mem_nth, rot_length]
  constructor
  · rintro ⟨j, hj, e⟩
    rw [rot_nth l b hj] at e
    exact ⟨_, Nat.mod_lt _ (by omega), e⟩
  · rintro ⟨j, hj, e⟩
    have hn : 0 < l.length := by omega
    have hb := Nat.mod_lt b hn
    refine ⟨(j + (l.length - b % l.length)) % l.length, Nat.mod_lt _ hn, ?_⟩
    rw [rot_nth l b (Nat.mod_lt _ hn), ← e]
    congr 1
    rw [Nat.mod_add_mod, Nat.add_assoc, show l.length - b % l.length + b = l.length + (b - b % l.length) by have := Nat.mod_le b l.length; omega]
    have hd : b - b % l.length = l.length * (b / l.length) := by have := Nat.div_add_mod b l.length; omega
    rw [hd, ← Nat.add_assoc, Nat.add_mul_mod_self_left, Nat.add_mod_right, Nat.mod_eq_of_lt hj]
theorem mks_rot (l : List Idn) (b : Nat) : mks (rot l b) = mks l := rise_eq (mks_rise _) (mks_rise _) fun x => by rw [mks_mem, mks_mem, rot_mem]

/-! ### Two fronts -/
structure Pair (g s m g' s' m' : Nat) (ms ys : List Idn) (w W : World) : Prop where
  f : FrontN g s m ms w W
  o : FrontN g' s' m' ys w W
  ng : g ≠ g'
  nm : m ≠ m'
theorem Pair.on {g s m g' s' m' : Nat} {ms ys : List Idn} {w W W' : World} (h : Pair g s m g' s' m' ms ys w W) (hb : Below W.heap.size W W') : Pair g s m g' s' m' ms ys w W' := ⟨h.f.on hb, h.o.on hb, h.ng, h.nm⟩
theorem Pair.one {g s m g' s' m' : Nat} {ms ys zs : List Idn} {w W W' : World} (h : Pair g s m g' s' m' ms ys w W) (h1 : FrontP W' g s m zs) (h2 : Save g m W W') : Pair g s m g' s' m' zs ys w W' :=
  ⟨h.f.save h1 h2, h.o.save2 h2 h.f.p h.ng.symm h.nm.symm h.f.g h.f.m, h.ng, h.nm⟩
theorem Pair.two {g s m g' s' m' : Nat} {ms ys zs : List Idn} {w W W' : World} (h : Pair g s m g' s' m' ms ys w W) (h1 : FrontP W' g' s' m' zs) (h2 : Save g' m' W W') : Pair g s m g' s' m' ms zs w W' :=
  ⟨h.f.save2 h2 h.o.p h.ng h.nm h.o.g h.o.m, h.o.save h1 h2, h.ng, h.nm⟩

set_option maxHeartbeats 8000000 in
set_option maxRecDepth 100000 in
theorem orderlaw_any (hL : Lists) (v0 : Value) (l : List Idn) (b : Nat) (w : World) (h0 : RowAt w v0 l) (hw0 : ∀ x ∈ l, wfId x) (hb8 : b < 256) : Calls Try.prog 4 #[v0, .int .u8 (b : Int)] w (RetTrue w) := by
  have HWK := Lib.hid fworks_any
  obtain ⟨p0, cap0, rfl, hc0, hd0⟩ := h0.shape
  obtain ⟨n, hn⟩ : ∃ n, l.length = n := ⟨_, rfl⟩
  rw [hn] at h0 hc0 ⊢
  have HR0 := Lib.hid h0
  have HN := Lib.hid hn
  have HW0 := Lib.hid hw0
  have HLL := Lib.hid hL
  clear h0 hw0 hn hL
  by_cases hn1 : 100 < n
  · have h1 : 100 < (n : Int) := by omega
    go_enter Try.func4, Try.ntmps4
    go_wp2_with (go_at_call 5; (with_reducible refine (HWK.out _).mono ?_); rintro e w4 ⟨rfl, hb⟩; have HB := Lib.hid hb; clear hb)
    go_ret
    exact ⟨rfl, HB.out⟩
  · have h1 : ¬ 100 < (n : Int) := by omega
    have HF := Lib.hid fnew_any
    have HM : Hid (∀ (W : World) (g s m : Nat) (ms : List Idn) (x y : Int), FrontP W g s m ms → wfId (x, y) → ms.length ≤ 100 → Calls Try.prog 8 #[.pointer (some ⟨g, 0, none⟩), .agg #[.int .i64 x, .int .i64 y]] W fun e w' => ∃ t, e = .returned (.bool t) ∧ FrontP w' g s m (marked ms (x, y)) ∧ Save g m W w') := Lib.hid fun W g s m ms x y h hx hl => (fmark_p g s m ms x y W h hx (by omega)).mono fun e w' ⟨he, h1, h2⟩ => ⟨_, he, h1, h2⟩
    go_enter Try.func4, Try.ntmps4
    go_wp2_with (first
      | (go_at_call 6; ((with_reducible refine (HF.out w).mono ?_); rintro e w1 ⟨g, s, m, rfl, hg, hm, hp, hb⟩; unfold frontPtr; have S1 : Hid (FrontN g s m [] w w1) := Lib.hid ⟨hp, hg, hm, hb⟩; clear hg hm hp hb))
      | (go_at_call 6; ((with_reducible refine (HF.out w1).mono ?_); rintro e w2 ⟨g', s', m', rfl, hg, hm, hp, hb⟩; unfold frontPtr; have S2 : Hid (Pair g s m g' s' m' [] [] w w2) := Lib.hid ⟨S1.out.on hb, ⟨hp, Nat.le_trans S1.out.below.size hg, Nat.le_trans S1.out.below.size hm, S1.out.below.trans (hb.mono S1.out.below.size)⟩, (by have := S1.out.p.lt; omega), (by have := S1.out.p.lt; omega)⟩; clear hg hm hp hb)))
    go_loopw [7] (fun i wr => ∃ k : Nat, k ≤ n ∧ i = .int .i64 k ∧ Hid (Pair g s m g' s' m' (mks (l.take k)) (mks ((rot l b).take k)) w wr)) (fun i _ => n - (intOf i).toNat)
    case atStart => exact ⟨0, Nat.zero_le _, rfl, S2⟩
    case round =>
      obtain ⟨k, hk, rfl, hst⟩ := hrel
      by_cases hkn : k < n
      · obtain ⟨B, off, rfl, hr2⟩ := (HR0.out.on hst.out.f.below).row2 (by rw [HN.out]; omega)
        have hjn : (k + b) % n < n := Nat.mod_lt _ (by omega)
        obtain ⟨j, hj⟩ : ∃ j, (k + b) % n = j := ⟨_, rfl⟩
        rw [hj] at hjn
        have c1 := hr2.fst k (by rw [HN.out]; exact hkn)
        have c2 := hr2.snd k (by rw [HN.out]; exact hkn)
        have k0 : (0 : Int) ≤ k := by omega
        have kn : (k : Int) < n := by omega
        have j0 : (0 : Int) ≤ j := by omega
        have jn : (j : Int) < n := by omega
        have b0 : (0 : Int) ≤ b := by omega
        have b8 : (b : Int) < 256 := by omega
        have bw : IntKind.i64.wrap (b : Int) = b := IntWalk.i64_in _ (by omega)
        have kw : IntKind.i64.wrap ((k : Int) + b) = (k : Int) + b := IntWalk.i64_in _ (by omega)
        have kt : ((k : Int) + b).tmod n = j := by rw [← hj]; rfl
        obtain ⟨x, y, hxy⟩ : ∃ x y, nth l k = (x, y) := ⟨_, _, rfl⟩
        obtain ⟨x', y', hxy'⟩ : ∃ x y, nth l j = (x, y) := ⟨_, _, rfl⟩
        rw [hxy] at c1 c2
        have hwx : wfId (x, y) := HW0.out _ (by rw [← hxy]; exact mem_nth.2 ⟨k, by rw [HN.out]; exact hkn, rfl⟩)
        have hwx' : wfId (x', y') := HW0.out _ (by rw [← hxy']; exact mem_nth.2 ⟨j, by rw [HN.out]; exact hjn, rfl⟩)
        have HT1 : Hid (mks (l.take (k + 1)) = marked (mks (l.take k)) (x, y)) := Lib.hid (by rw [mks_take l (by rw [HN.out]; exact hkn), hxy])
        have HT2 : Hid (mks ((rot l b).take (k + 1)) = marked (mks ((rot l b).take k)) (x', y')) := Lib.hid (by rw [mks_take _ (by rw [rot_length, HN.out]; exact hkn), rot_nth l b (by rw [HN.out]; exact hkn), HN.out, hj, hxy'])
        have l1 : (mks (l.take k)).length ≤ 100 := Nat.le_trans (mks_length _) (by rw [List.length_take]; omega)
        have l2 : (mks ((rot l b).take k)).length ≤ 100 := Nat.le_trans (mks_length _) (by rw [List.length_take]; omega)
        have HM1 := Lib.hid (HM.out wr g s m _ x y hst.out.f.p hwx l1)
        have HM2 : Hid (∀ W ms, Pair g s m g' s' m' ms (mks ((rot l b).take k)) w W → Calls Try.prog 8 #[.pointer (some ⟨g', 0, none⟩), .agg #[.int .i64 x', .int .i64 y']] W fun e w' => ∃ t, e = .returned (.bool t) ∧ FrontP w' g' s' m' (marked (mks ((rot l b).take k)) (x', y')) ∧ Save g' m' W w') := Lib.hid fun W ms h => HM.out W g' s' m' _ x' y' h.o.p hwx' l2
        have HK : Hid (∀ W, Below w.heap.size w W → W.cell? ⟨B, off + j * 2, none⟩ = some (.int .i64 x') ∧ W.cell? ⟨B, off + j * 2 + 1, none⟩ = some (.int .i64 y')) := Lib.hid fun W hb => by
          obtain ⟨B2, off2, e, hr3⟩ := (HR0.out.on hb).row2 (by rw [HN.out]; omega)
          cases e
          have d1 := hr3.fst j (by rw [HN.out]; exact hjn)
          have d2 := hr3.snd j (by rw [HN.out]; exact hjn)
          rw [hxy'] at d1 d2
          exact ⟨d1, d2⟩
        clear hr2 hxy hxy' hwx hwx' l1 l2 hj
        go_wp2_with (first
          | (go_at_call 8; ((with_reducible refine HM1.out.mono ?_); rintro e w3 ⟨t, rfl, hp, hs⟩; have S3 := Lib.hid (hst.out.one hp hs); have d1 := (HK.out _ S3.out.f.below).1; have d2 := (HK.out _ S3.out.f.below).2; clear hp hs HM1))
          | (go_at_call 8; ((with_reducible refine (HM2.out _ _ S3.out).mono ?_); rintro e w4 ⟨t', rfl, hp, hs⟩; have S4 := Lib.hid (S3.out.two hp hs); clear hp hs)))
        go_roundw
        case rel => exact ⟨k + 1, by omega, by go_num, Lib.hid (by rw [HT1.out, HT2.out]; exact S4.out)⟩
        case measure => simp [intOf]; omega
      · have kn : ¬ (k : Int) < n := by omega
        have HE : Hid (l.take k = l ∧ (rot l b).take k = rot l b) := Lib.hid ⟨List.take_of_length_le (by rw [HN.out]; omega), List.take_of_length_le (by rw [rot_length, HN.out]; omega)⟩
        rw [HE.out.1, HE.out.2, mks_rot] at hst
        clear S1 S2 HE HM
        have HFL : Hid (∀ (W : World) (r : Int), Pair g s m g' s' m' (mks l) (mks l) w W → Calls Try.prog 15 #[.pointer (some ⟨g, 0, none⟩), .int .i64 r] W (RetB (.int .i64 (flrOf (mks l) r)) W)) := Lib.hid fun W r h => ffloor_p g s m _ r W h.f.p
        have HFR : Hid (∀ (W : World) (r : Int), Pair g s m g' s' m' (mks l) (mks l) w W → Calls Try.prog 15 #[.pointer (some ⟨g', 0, none⟩), .int .i64 r] W (RetB (.int .i64 (flrOf (mks l) r)) W)) := Lib.hid fun W r h => ffloor_p g' s' m' _ r W h.o.p
        have ll : (mks l).length ≤ 100 := Nat.le_trans (mks_length _) (by rw [HN.out]; omega)
        have HAL : Hid (∀ (W : World), Pair g s m g' s' m' (mks l) (mks l) w W → Calls Try.prog 17 #[.pointer (some ⟨g, 0, none⟩)] W (GivesRow (abv (mks l)) W)) := Lib.hid fun W h => fabove_p HLL.out g s m _ W h.f.p (by omega)
        have HAR : Hid (∀ (W : World), Pair g s m g' s' m' (mks l) (mks l) w W → Calls Try.prog 17 #[.pointer (some ⟨g', 0, none⟩)] W (GivesRow (abv (mks l)) W)) := Lib.hid fun W h => fabove_p HLL.out g' s' m' _ W h.o.p (by omega)
        obtain ⟨z, hz⟩ : ∃ z : Int, ((mks l).length : Int) = z := ⟨_, rfl⟩
        have HNL : Hid (∀ (W : World), Pair g s m g' s' m' (mks l) (mks l) w W → Calls Try.prog 12 #[.pointer (some ⟨g, 0, none⟩)] W (RetB (.int .i64 z) W)) := Lib.hid fun W h => by rw [← hz]; exact flen_p g s m _ W h.f.p (by omega)
        have HNR : Hid (∀ (W : World), Pair g s m g' s' m' (mks l) (mks l) w W → Calls Try.prog 12 #[.pointer (some ⟨g', 0, none⟩)] W (RetB (.int .i64 z) W)) := Lib.hid fun W h => by rw [← hz]; exact flen_p g' s' m' _ W h.o.p (by omega)
        clear ll hz
        go_wp2
        go_loopw [8] (fun i wr' => ∃ r : Nat, r ≤ 8 ∧ i = .int .i64 r ∧ Hid (Pair g s m g' s' m' (mks l) (mks l) w wr')) (fun i _ => 8 - (intOf i).toNat)
        case atStart => exact ⟨0, by decide, rfl, hst⟩
        case round =>
          clear hst
          obtain ⟨r, hr, rfl, hst⟩ := hrel
          by_cases hr8 : r < 8
          · have r0 : (0 : Int) ≤ r := by omega
            have r8 : (r : Int) < 8 := by omega
            obtain ⟨u, hu⟩ : ∃ u, flrOf (mks l) (r : Int) = u := ⟨_, rfl⟩
            have H1 := Lib.hid (HFL.out _ r hst.out)
            have H2 : Hid (∀ W, Pair g s m g' s' m' (mks l) (mks l) w W → Calls Try.prog 15 #[.pointer (some ⟨g', 0, none⟩), .int .i64 (r : Int)] W (RetB (.int .i64 u) W)) := Lib.hid fun W h => by rw [← hu]; exact HFR.out W r h
            rw [hu] at H1
            clear hu
            go_wp2_with (first
              | (go_at_call 15; ((with_reducible refine H1.out.mono ?_); rintro e x1 ⟨rfl, hb⟩; have D1 := Lib.hid (hst.out.on hb); clear hb H1))
              | (go_at_call 15; ((with_reducible refine (H2.out _ D1.out).mono ?_); rintro e x2 ⟨rfl, hb⟩; have D2 := Lib.hid (D1.out.on hb); clear hb)))
            go_roundw
            case rel => exact ⟨r + 1, by omega, by go_num, D2⟩
            case measure => simp [intOf]; omega
          · have r8 : ¬ (r : Int) < 8 := by omega
            go_wp2_with (first
              | (go_at_call 17; ((with_reducible refine (HAL.out _ hst.out).mono ?_); rintro e x1 ⟨q1, rfl, hr, hb⟩; have D1 := Lib.hid (hst.out.on hb); have R1 := Lib.hid hr; clear hr hb HAL))
              | (go_at_call 17; ((with_reducible refine (HAR.out _ D1.out).mono ?_); rintro e x2 ⟨q2, rfl, hr, hb⟩; have D2 := Lib.hid (D1.out.on hb); have R2 := Lib.hid (And.intro (R1.out.on hb) hr); clear hr hb))
              | (go_at_call 16; ((with_reducible refine (same_true _ _ _ _ R2.out.1 R2.out.2).mono ?_); rintro e x3 ⟨rfl, hb⟩; have D3 := Lib.hid (D2.out.on hb); clear hb))
              | (go_at_call 12; ((with_reducible refine (HNL.out _ D3.out).mono ?_); rintro e x4 ⟨rfl, hb⟩; have D4 := Lib.hid (D3.out.on hb); clear hb HNL))
              | (go_at_call 12; ((with_reducible refine (HNR.out _ D4.out).mono ?_); rintro e x5 ⟨rfl, hb⟩; have D5 := Lib.hid (D4.out.on hb); clear hb))
              | (go_at_call 5; ((with_reducible refine (HWK.out _).mono ?_); rintro e x6 ⟨rfl, hb⟩; have D6 := Lib.hid (D5.out.on hb); clear hb)))
            go_ret
            exact ⟨rfl, D6.out.f.below⟩
end Go.Proofs.Ytjkjbpfpmghlaaa
