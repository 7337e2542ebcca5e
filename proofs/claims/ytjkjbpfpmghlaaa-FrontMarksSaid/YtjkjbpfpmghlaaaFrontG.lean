/- The statement's function of layer 5 (front) on a list of ids, a number and an id: whatever is marked, all is told; it returns true. Conditions: the list lies in memory as its cells say; its ids, the number and the id fit into their kinds. -/
import Derived.Test.YtjkjbpfpmghlaaaFrontF
import Derived.Test.YtjkjbpfpmghlaaaSetD
namespace Go.Proofs.Ytjkjbpfpmghlaaa
open Go.RowKit Go.Maps
set_option linter.unusedVariables false

/-! ### What stands in each round -/
/-- The front has ms, what is wanted reads as xs; the id's box, and what was there, as they were. -/
structure Stand (w : World) (a b : Int) (g s m : Nat) (v : Value) (ms xs : List Idn) (W : World) : Prop where
  f : FrontN g s m ms (w.alloc (cells a b)) W
  row : RowAt W v xs
  away : Away v xs g
theorem Stand.on {w : World} {a b : Int} {g s m : Nat} {v : Value} {ms xs : List Idn} {W W' : World} (h : Stand w a b g s m v ms xs W) (hb : Below W.heap.size W W') : Stand w a b g s m v ms xs W' := ⟨h.f.on hb, h.row.on hb, h.away⟩
theorem Stand.box {w : World} {a b : Int} {g s m : Nat} {v : Value} {ms xs : List Idn} {W : World} (h : Stand w a b g s m v ms xs W) : Boxed w a b W := Boxed.of (by have := h.f.below; simpa using this)
theorem Stand.mark {w : World} {a b : Int} {g s m : Nat} {v : Value} {ms xs ys : List Idn} {W W' : World} (h : Stand w a b g s m v ms xs W) (h1 : FrontP W' g s m ys) (h2 : Save g m W W') : Stand w a b g s m v ys xs W' := ⟨h.f.save h1 h2, h.f.p.saveRow h2 h.row h.away, h.away⟩
theorem RowAt.block {w : World} {v : Value} {zs : List Idn} (h : RowAt w v zs) (hz : zs ≠ []) {k : Nat} (hk : v.ownBlock = some k) : k < w.heap.size := by
  obtain ⟨p, cap, rfl, -, -, -, h3⟩ := h
  obtain ⟨B, off, rfl, hlt, -⟩ := h3 hz
  cases hk
  exact hlt
theorem Stand.put {w : World} {a b : Int} {g s m : Nat} {v v' : Value} {ms xs ys : List Idn} {W W' : World} (h : Stand w a b g s m v ms xs W) (hr : RowAt W' v' ys) (hb : Below W.heap.size W W') (hn : ∀ k, v'.ownBlock = some k → W.heap.size ≤ k) : Stand w a b g s m v' ms ys W' :=
  ⟨h.f.on hb, hr, fun _ k hk e => by have := hn k hk; have := h.f.p.lt.1; omega⟩
theorem Stand.twin {w : World} {a b : Int} {g s m g' s' m' : Nat} {v : Value} {ms xs zs : List Idn} {W W1 W2 : World} (h : Stand w a b g s m v ms xs W) (hg : W.heap.size ≤ g') (hm : W.heap.size ≤ m') (hp : FrontP W1 g' s' m' ms) (hb : Below W.heap.size W W1) (h1 : FrontP W2 g s m zs) (h2 : Save g m W1 W2) : Stand w a b g' s' m' v ms xs W2 := by
  have hlt := h.f.p.lt
  have hs := h.f.below.size
  have hb1 := h.f.below.trans (hb.mono hs)
  refine ⟨⟨hp.save h2 (h.f.p.on hb) (by omega) (by omega), Nat.le_trans hs hg, Nat.le_trans hs hm, hb1.trans (h2.below h.f.g h.f.m hb1.size)⟩, (h.f.p.on hb).saveRow h2 (h.row.on hb) h.away, fun hz k hk e => ?_⟩
  have := h.row.block hz hk
  omega
theorem right_below (a b : Int) (q : Bool) (hq : idRight (a, b) = q) (w : World) : Calls Try.prog 9 #[.agg #[.int .i64 a, .int .i64 b]] w (RetB (.bool q) w) :=
  (right_any a b w).mono fun e w' ⟨he, hw⟩ => ⟨by rw [he, hq], by rw [hw]; exact below_one _ _⟩
theorem marked_self (ms : List Idn) (x : Idn) (hr : ∀ y ∈ ms, idRight y = true) : decide (x ∈ marked ms x) = idRight x := by
  rw [Bool.eq_iff_iff, decide_eq_true_eq, marked_mem]
  exact ⟨fun h => h.elim (hr x) (·.2), fun h => .inr ⟨rfl, h⟩⟩

/-- What stands behind the loops. -/
structure Ends (w : World) (a b : Int) (g s m : Nat) (v o : Value) (ms : List Idn) (W : World) : Prop where
  st : Stand w a b g s m v ms ms W
  row : RowAt W o (abv ms)
theorem Ends.on {w : World} {a b : Int} {g s m : Nat} {v o : Value} {ms : List Idn} {W W' : World} (h : Ends w a b g s m v o ms W) (hb : Below W.heap.size W W') : Ends w a b g s m v o ms W' := ⟨h.st.on hb, h.row.on hb⟩
theorem own_far {base : Nat} {w0 w w1 : World} {v : Value} {zs : List Idn} (h : Below base w0 w) (hs : base ≤ w.heap.size) (hown : Owns w base v zs) (o : Obj) (hg : (w.alloc o).grownBy w1 v.ownBlock) : Below base w0 w1 :=
  Below.grown (h.alloc hs _) hg (by simp; omega) (fun k hk => (World.ownsRow.lt hown k hk).1)
noncomputable def isAbv (ms : List Idn) (x : Idn) : Bool := decide ((flr ms x.1 : Int) < x.2)
noncomputable def abvTo (ms : List Idn) (j : Nat) : List Idn := (ms.take j).filter (isAbv ms)
theorem abvTo_all (ms : List Idn) : abvTo ms ms.length = abv ms := by unfold abvTo; rw [List.take_length]; rfl
theorem abvTo_length (ms : List Idn) (j : Nat) : (abvTo ms j).length ≤ j := Nat.le_trans (List.length_filter_le _ _) (by rw [List.length_take]; omega)
theorem abvTo_succ {ms : List Idn} {j : Nat} (h : j < ms.length) : abvTo ms (j + 1) = if isAbv ms (nth ms j) = true then abvTo ms j ++ [nth ms j] else abvTo ms j := by
  have e : nth ms j = ms[j] := by unfold nth; rw [List.getD_eq_getElem?_getD, List.getElem?_eq_getElem h]; rfl
  unfold abvTo
  rw [List.take_succ_eq_append_getElem h, List.filter_append, ← e]
  split
  · rename_i hp; simp [hp]
  · rename_i hp; simp [hp]

theorem fresh_true {ms : List Idn} {x : Idn} (h : fresh ms x = true) : x ∉ ms ∧ marked ms x = put ms x := by
  unfold fresh at h
  rw [Bool.and_eq_true, Bool.not_eq_true', decide_eq_false_iff_not] at h
  exact ⟨h.2, by unfold marked; rw [if_pos h.1]⟩
theorem fresh_false {ms : List Idn} {x : Idn} (h : fresh ms x = false) : marked ms x = ms := by
  unfold marked
  split
  · rename_i hr
    unfold fresh at h
    rw [hr, Bool.true_and, Bool.not_eq_false', decide_eq_true_eq] at h
    exact put_of_mem h
  · rfl

set_option maxHeartbeats 8000000 in
set_option maxRecDepth 100000 in
theorem markslaw_any (hL : Lists) (v0 : Value) (l : List Idn) (tw : Nat) (a b : Int) (w : World) (h0 : RowAt w v0 l) (hw0 : ∀ x ∈ l, wfId x) (ht8 : tw < 256) (hwi : wfId (a, b)) : Calls Try.prog 3 #[v0, .int .u8 (tw : Int), .agg #[.int .i64 a, .int .i64 b]] w (RetTrue w) := by
  have HWK := Lib.hid fworks_any
  obtain ⟨p0, cap0, rfl, hc0, hd0⟩ := h0.shape
  obtain ⟨n, hn⟩ : ∃ n, l.length = n := ⟨_, rfl⟩
  rw [hn] at h0 hc0 ⊢
  have HR0 := Lib.hid h0
  have HN := Lib.hid hn
  have HW0 := Lib.hid hw0
  have HWI := Lib.hid hwi
  have HLL := Lib.hid hL
  have HB1 := Lib.hid (below_one w (.cells #[.int .i64 a, .int .i64 b] 24))
  clear h0 hw0 hn hL hwi
  by_cases hn1 : 100 < n
  · have h1 : 100 < (n : Int) := by omega
    go_enter Try.func3, Try.ntmps3
    go_wp2_with (go_at_call 5; (with_reducible refine (HWK.out _).mono ?_); rintro e w4 ⟨rfl, hb⟩; have HB := Lib.hid hb; clear hb)
    go_ret
    exact ⟨rfl, HB1.out.trans (HB.out.mono HB1.out.size)⟩
  · have h1 : ¬ 100 < (n : Int) := by omega
    have HF := Lib.hid (fnew_any (w.alloc (.cells #[.int .i64 a, .int .i64 b] 24)))
    have HM : Hid (∀ (W : World) (g s m : Nat) (ms : List Idn) (x y : Int), FrontP W g s m ms → wfId (x, y) → ms.length ≤ 100 → Calls Try.prog 8 #[.pointer (some ⟨g, 0, none⟩), .agg #[.int .i64 x, .int .i64 y]] W (MarksIt g s m ms (x, y) W)) := Lib.hid fun W g s m ms x y h hx hl => fmark_p g s m ms x y W h hx (by omega)
    go_enter Try.func3, Try.ntmps3
    go_wp2_with (first
      | (go_at_call 6; ((with_reducible refine HF.out.mono ?_); rintro e w1 ⟨g, s, m, rfl, hg, hm, hp, hb⟩; unfold frontPtr; have S1 : Hid (FrontN g s m [] (w.alloc (cells a b)) w1) := Lib.hid ⟨hp, hg, hm, hb⟩; clear hg hm hp hb HF)))
    go_loopg [7, 8, 9] n (fun gk f v i wr => ∃ (k g s m : Nat), k ≤ n ∧ gk = n - k ∧ f = .pointer (some ⟨g, 0, none⟩) ∧ i = .int .i64 k ∧ Hid (Stand w a b g s m v (mks (l.take k)) (mks (l.take k)) wr))
    case atStart =>
      have hb2 := below_one w1 (.cells #[] 24)
      refine ⟨0, g, s, m, Nat.zero_le _, rfl, rfl, rfl, Lib.hid ⟨S1.out.on hb2, ?_, fun h => absurd rfl h⟩⟩
      exact Owns.row (base := 0) (zs := []) (World.ownsRow_made w1 #[] 0 (Nat.zero_le _) (by decide) rfl)
    case round =>
      clear S1
      obtain ⟨k, g, s, m, hk, hgk, rfl, rfl, hst⟩ := hrel
      by_cases hkn : k < n
      · obtain ⟨B, off, rfl, hr2⟩ := HR0.out.row2 (by rw [HN.out]; omega)
        have HRW := Lib.hid hr2
        have k0 : (0 : Int) ≤ k := by omega
        have kn : (k : Int) < n := by omega
        have b0 : (0 : Int) ≤ tw := by omega
        have b8 : (tw : Int) < 256 := by omega
        have bw : IntKind.i64.wrap (tw : Int) = tw := IntWalk.i64_in _ (by omega)
        obtain ⟨t, ht⟩ : ∃ t, ((k : Int) == (tw : Int)) = t := ⟨_, rfl⟩
        obtain ⟨x, y, hxy⟩ : ∃ x y, nth l k = (x, y) := ⟨_, _, rfl⟩
        have HX : Hid (wfId (x, y)) := Lib.hid (HW0.out _ (by rw [← hxy]; exact mem_nth.2 ⟨k, by rw [HN.out]; exact hkn, rfl⟩))
        have HT1 : Hid (mks (l.take (k + 1)) = marked (mks (l.take k)) (x, y)) := Lib.hid (by rw [mks_take l (by rw [HN.out]; exact hkn), hxy])
        have HK : Hid (∀ W, Below w.heap.size w W → W.cell? ⟨B, off + k * 2, none⟩ = some (.int .i64 x) ∧ W.cell? ⟨B, off + k * 2 + 1, none⟩ = some (.int .i64 y)) := Lib.hid fun W hb => by
          have d1 := (HRW.out.on hb).fst k (by rw [HN.out]; exact hkn)
          have d2 := (HRW.out.on hb).snd k (by rw [HN.out]; exact hkn)
          rw [hxy] at d1 d2
          exact ⟨d1, d2⟩
        obtain ⟨ms, hms⟩ : ∃ ms, mks (l.take k) = ms := ⟨_, rfl⟩
        rw [hms] at hst HT1
        have l1 : Hid (ms.length ≤ 100) := Lib.hid (by rw [← hms]; exact Nat.le_trans (mks_length _) (by rw [List.length_take]; omega))
        clear hr2 hxy hms
        go_upto_if 32 with fail
        go_cut [7] (fun f wc => ∃ (g s m : Nat), f = .pointer (some ⟨g, 0, none⟩) ∧ Hid (Stand w a b g s m u8 ms ms wc))
        case first =>
          cases t with
          | true =>
            have HTW := Lib.hid (ftwin_p HLL.out g s m ms wr hst.out.f.p (by have := l1.out; omega))
            go_wp2_with (first
              | (go_at_call 7; ((with_reducible refine HTW.out.mono ?_); rintro e w2 ⟨g', s', m', rfl, hg, hm, hp, hb⟩; unfold frontPtr; have T2 : Hid (wr.heap.size ≤ g' ∧ wr.heap.size ≤ m' ∧ FrontP w2 g' s' m' ms ∧ Below wr.heap.size wr w2) := Lib.hid ⟨hg, hm, hp, hb⟩; have d0 := (hst.out.on hb).box.fst; have d1 := (hst.out.on hb).box.snd; have HMO := Lib.hid (HM.out w2 g s m ms a b (hst.out.f.p.on hb) HWI.out l1.out); clear hg hm hp hb HTW))
              | (go_at_call 8; ((with_reducible refine HMO.out.mono ?_); rintro e w3 ⟨rfl, hp, hs⟩; have T3 : Hid (Stand w a b g' s' m' u8 ms ms w3) := Lib.hid (hst.out.twin T2.out.1 T2.out.2.1 T2.out.2.2.1 T2.out.2.2.2 hp hs); clear hp hs HMO)))
            go_meet
            case rel => exact ⟨g', s', m', rfl, T3⟩
          | false =>
            go_wp2
            go_meet
            case rel => exact ⟨g, s, m, rfl, hst⟩
        case rest =>
          clear hst
          obtain ⟨g, s, m, rfl, hst⟩ := hcut
          clear ht bw
          have c1 := (HK.out _ hst.out.box.below).1
          have c2 := (HK.out _ hst.out.box.below).2
          obtain ⟨q, hq⟩ : ∃ q, idRight (x, y) = q := ⟨_, rfl⟩
          obtain ⟨r, hr⟩ : ∃ r, decide ((x, y) ∈ ms) = r := ⟨_, rfl⟩
          have HQ := Lib.hid hq
          have HRR := Lib.hid hr
          have HFR : Hid (fresh ms (x, y) = (q && !r)) := Lib.hid (by unfold fresh; rw [hq, hr])
          have HC1 := Lib.hid (right_below x y q hq wc)
          have HC2 : Hid (∀ W, Stand w a b g s m u8 ms ms W → Calls Try.prog 10 #[u8, .agg #[.int .i64 x, .int .i64 y]] W (RetB (.bool r) W)) := Lib.hid fun W hW => by
            have := refhas_any u8 ms x y W hW.row
            rw [hr] at this; exact this
          clear hq hr
          go_upto_region 11 with fail
          go_cut [11] (fun fr wc => fr = .bool (q && !r) ∧ Hid (Stand w a b g s m u8 ms ms wc))
          case first =>
            cases q with
            | true =>
              go_wp2_with (first
                | (go_at_call 9; ((with_reducible refine HC1.out.mono ?_); rintro e w2 ⟨rfl, hb⟩; have T2 := Lib.hid (hst.out.on hb); have d1 := (HK.out _ T2.out.box.below).1; have d2 := (HK.out _ T2.out.box.below).2; clear hb HC1))
                | (go_at_call 10; ((with_reducible refine (HC2.out _ T2.out).mono ?_); rintro e w3 ⟨rfl, hb⟩; have T3 := Lib.hid (T2.out.on hb); clear hb)))
              go_meet
              case rel => exact ⟨rfl, T3⟩
            | false =>
              go_wp2_with (first
                | (go_at_call 9; ((with_reducible refine HC1.out.mono ?_); rintro e w2 ⟨rfl, hb⟩; have T2 := Lib.hid (hst.out.on hb); clear hb HC1)))
              go_meet
              case rel => exact ⟨rfl, T2⟩
          case rest =>
            clear hst c1 c2 HC1 HC2
            obtain ⟨rfl, hst⟩ := hcut
            obtain ⟨fr, hfr⟩ : ∃ fr, (q && !r) = fr := ⟨_, rfl⟩
            rw [hfr] at HFR
            rw [hfr]
            clear hfr
            have c1 := (HK.out _ hst.out.box.below).1
            have c2 := (HK.out _ hst.out.box.below).2
            go_upto_if 53 with fail
            go_cut [8] (fun v wc => Hid (Stand w a b g s m v ms (marked ms (x, y)) wc))
            case first =>
              cases fr with
              | true =>
                have HP := Lib.hid (put_new u8 ms x y wc hst.out.row (by have := l1.out; omega) (fresh_true HFR.out).1)
                rw [← (fresh_true HFR.out).2] at HP
                go_wp2_with (first
                  | (go_at_call 11; ((with_reducible refine HP.out.mono ?_); rintro e w2 ⟨v, rfl, hr, hb, hn⟩; have T2 := Lib.hid (hst.out.put hr hb hn); clear hr hb hn HP)))
                go_meet
                case rel => exact T2
              | false =>
                have HE : Hid (marked ms (x, y) = ms) := Lib.hid (fresh_false HFR.out)
                go_wp2
                go_meet
                case rel => exact Lib.hid (by rw [HE.out]; exact hst.out)
            case rest =>
              clear hst c1 c2
              have hst := hcut
              clear hcut
              have c1 := (HK.out _ hst.out.box.below).1
              have c2 := (HK.out _ hst.out.box.below).2
              have HD := Lib.hid (hst.out.on (Below.refl wc.heap.size wc).drew)
              obtain ⟨z, hz⟩ : ∃ z : Nat, (marked ms (x, y)).length = z := ⟨_, rfl⟩
              have lz : Hid ((marked ms (x, y)).length ≤ 100000) := Lib.hid (by have := marked_length ms (x, y); have := l1.out; omega)
              obtain ⟨vp, vc, ev, hv1, hv2⟩ := hst.out.row.shape
              rw [hz] at ev hv1
              have er : ∀ w, (binOp .neq 4 (.bool fr) (.bool fr)).run Try.prog w = .ok (.bool false) w := fun w => by cases fr <;> go_simp
              have eq : ∀ w, (binOp .neq 4 (.bool q) (.bool q)).run Try.prog w = .ok (.bool false) w := fun w => by cases q <;> go_simp
              have C1 : Hid (∀ W, Stand w a b g s m u8 ms (marked ms (x, y)) W → Calls Try.prog 8 #[.pointer (some ⟨g, 0, none⟩), .agg #[.int .i64 x, .int .i64 y]] W fun e w' => e = .returned (.bool fr) ∧ Stand w a b g s m u8 (marked ms (x, y)) (marked ms (x, y)) w') := Lib.hid fun W h => (HM.out W g s m ms x y h.f.p HX.out l1.out).mono fun e w' ⟨he, h1, h2⟩ => ⟨by rw [he, HFR.out], h.mark h1 h2⟩
              have C2 : Hid (∀ W, Stand w a b g s m u8 (marked ms (x, y)) (marked ms (x, y)) W → Calls Try.prog 12 #[.pointer (some ⟨g, 0, none⟩)] W (RetB (.int .i64 z) W)) := Lib.hid fun W h => by
                have := flen_p g s m _ W h.f.p lz.out
                rw [hz] at this; exact this
              have C3 : Hid (∀ W, Stand w a b g s m u8 (marked ms (x, y)) (marked ms (x, y)) W → Calls Try.prog 13 #[.pointer (some ⟨g, 0, none⟩), .agg #[.int .i64 x, .int .i64 y]] W (RetB (.bool q) W)) := Lib.hid fun W h => by
                have := fhas_p g s m _ x y W h.f.p HX.out
                have e : decide ((x, y) ∈ marked ms (x, y)) = q := by
                  rw [← HQ.out, Bool.eq_iff_iff, decide_eq_true_eq]
                  constructor
                  · exact fun hm => h.f.p.right _ hm
                  · intro hr; exact (marked_mem ms _ _).2 (.inr ⟨rfl, hr⟩)
                rw [e] at this; exact this
              have C4 : Hid (∀ W, Calls Try.prog 9 #[.agg #[.int .i64 x, .int .i64 y]] W (RetB (.bool q) W)) := Lib.hid fun W => right_below x y q HQ.out W
              subst ev
              clear hz
              go_upto_region 14 with fail
              go_region_held3 (fun w' => w'.cell? ⟨B, off + k * 2, none⟩ = some (.int .i64 x) ∧ w'.cell? ⟨B, off + k * 2 + 1, none⟩ = some (.int .i64 y))
                (first
                  | exact HK.out _ D4.out.box.below
                  | exact HK.out _ D3.out.box.below
                  | exact HK.out _ D2.out.box.below
                  | exact HK.out _ D1.out.box.below
                  | go_keep)
                (first
                  | (go_at_call 8; (with_reducible refine (C1.out _ HD.out).mono ?_); rintro e x1 ⟨rfl, hs⟩; have D1 := Lib.hid hs; clear hs)
                  | (go_at_call 12; (with_reducible refine (C2.out _ D1.out).mono ?_); rintro e x2 ⟨rfl, hb⟩; have D2 := Lib.hid (D1.out.on hb); clear hb)
                  | (go_at_call 13; (with_reducible refine (C3.out _ D2.out).mono ?_); rintro e x3 ⟨rfl, hb⟩; have D3 := Lib.hid (D2.out.on hb); clear hb)
                  | (go_at_call 9; (with_reducible refine (C4.out _).mono ?_); rintro e x4 ⟨rfl, hb⟩; have D4 := Lib.hid (D3.out.on hb); clear hb))
              go_wp2_with fail
              go_roundg (n - (k + 1))
              case measure => omega
              case rel => exact ⟨k + 1, g, s, m, by omega, rfl, rfl, by go_num, Lib.hid (by rw [HT1.out]; exact D4.out)⟩
      · have kn : ¬ (k : Int) < n := by omega
        have HE : Hid (l.take k = l) := Lib.hid (List.take_of_length_le (by rw [HN.out]; omega))
        rw [HE.out] at hst
        obtain ⟨ms, hms⟩ : ∃ ms, mks l = ms := ⟨_, rfl⟩
        have hml : ms.length ≤ 100 := by rw [← hms]; exact Nat.le_trans (mks_length _) (by rw [HN.out]; omega)
        rw [hms] at hst
        clear hms HE HM
        obtain ⟨wq, hwq⟩ : ∃ wq, wq = wr := ⟨_, rfl⟩
        subst hwq
        have HRT := Lib.hid hst.out.f.p.right
        obtain ⟨vp, vc, ev, hv1, hv2⟩ := hst.out.row.shape
        obtain ⟨z, hz⟩ : ∃ z : Nat, ms.length = z := ⟨_, rfl⟩
        rw [hz] at ev hv1 hml
        subst ev
        have HZ := Lib.hid hz
        have HRW := Lib.hid hst.out.row
        obtain ⟨i0, hi, hz0, hz1, hz2⟩ := info_parts info_id
        clear hz
        go_wp2
        go_loopw [12, 13] (fun o i W => ∃ (j : Nat), j ≤ z ∧ i = .int .i64 j ∧ Hid (Below wq.heap.size wq W) ∧ Hid (Owns W wq.heap.size o (abvTo ms j))) (fun _ i _ => z - (intOf i).toNat)
        case atStart =>
          exact ⟨0, Nat.zero_le _, rfl, Lib.hid (below_one wq _), Lib.hid (World.ownsRow_made wq #[] 0 (Nat.le_refl _) (by decide) rfl)⟩
        case round =>
          obtain ⟨j, hj, rfl, hbw, hown⟩ := hrel
          by_cases hjz : j < z
          · obtain ⟨B2, off2, rfl, hr2⟩ := HRW.out.row2 (by rw [HZ.out]; omega)
            have HR2 := Lib.hid hr2
            obtain ⟨x, y, hxy⟩ : ∃ x y, nth ms j = (x, y) := ⟨_, _, rfl⟩
            have hrx := (right_iff _).1 (HRT.out (nth ms j) (mem_nth.2 ⟨j, by rw [HZ.out]; exact hjz, rfl⟩))
            rw [hxy] at hrx
            obtain ⟨r, rfl⟩ : ∃ r : Nat, x = (r : Int) := ⟨x.toNat, by have := hrx.1; omega⟩
            have hr8 : r < 8 := by have := hrx.2.1; omega
            have HK2 : Hid (∀ W, Below wq.heap.size wq W → W.cell? ⟨B2, off2 + j * 2, none⟩ = some (.int .i64 (r : Int)) ∧ W.cell? ⟨B2, off2 + j * 2 + 1, none⟩ = some (.int .i64 y)) := Lib.hid fun W hb => by
              have d1 := (HR2.out.on hb).fst j (by rw [HZ.out]; exact hjz)
              have d2 := (HR2.out.on hb).snd j (by rw [HZ.out]; exact hjz)
              rw [hxy] at d1 d2
              exact ⟨d1, d2⟩
            have HA := Lib.hid (abvTo_succ (ms := ms) (j := j) (by rw [HZ.out]; exact hjz))
            rw [hxy] at HA
            obtain ⟨fl, hfl⟩ : ∃ fl : Int, (flr ms (r : Int) : Int) = fl := ⟨_, rfl⟩
            have HFL : Hid (isAbv ms ((r : Int), y) = decide (fl < y)) := Lib.hid (by unfold isAbv; rw [← hfl])
            have HCF : Hid (∀ W, Below wq.heap.size wq W → Calls Try.prog 14 #[.slice (some ⟨B2, off2, none⟩) z vc, .int .i64 (r : Int)] W (RetB (.int .i64 fl) W)) := Lib.hid fun W hb => by
              have := floor_any _ ms r hr8 W (HRW.out.on hb) HRT.out
              rw [hfl] at this; exact this
            have c1 := (HK2.out _ hbw.out).1
            have c2 := (HK2.out _ hbw.out).2
            have k0 : (0 : Int) ≤ j := by omega
            have kn2 : (j : Int) < z := by omega
            have hal := abvTo_length ms j
            have HBD := Lib.hid (hbw.out.drew)
            have HOD : Hid (∀ W, Below wr.drew.heap.size wr.drew W → Below wq.heap.size wq W ∧ Owns W wq.heap.size u12 (abvTo ms j) ∧ wq.heap.size ≤ W.heap.size) := Lib.hid fun W hb => by
              have hb2 : Below wr.heap.size wr W := (Below.refl _ _).drew.trans hb
              exact ⟨hbw.out.trans (hb2.mono hbw.out.size), Owns.on hown.out hb2, Nat.le_trans hbw.out.size hb2.size⟩
            clear hr2 hxy hrx hfl
            by_cases hp : fl < y
            · have hd : decide (fl < y) = true := decide_eq_true hp
              have HE : Hid (abvTo ms (j + 1) = abvTo ms j ++ [((r : Int), y)]) := Lib.hid (by rw [HA.out, HFL.out, if_pos hd])
              go_wp2
              go_region_held3 (fun w' => w'.cell? ⟨B2, off2 + j * 2, none⟩ = some (.int .i64 (r : Int)) ∧ w'.cell? ⟨B2, off2 + j * 2 + 1, none⟩ = some (.int .i64 y))
                (first
                  | exact HK2.out _ D1.out.1
                  | go_keep)
                (first
                  | (go_at_call 14; (with_reducible refine (HCF.out _ HBD.out).mono ?_); rintro e x1 ⟨rfl, hb⟩; have D1 := Lib.hid (HOD.out _ hb); have q1 := (HK2.out _ D1.out.1).1; have q2 := (HK2.out _ D1.out.1).2; have hsz := D1.out.2.2; clear hb))
              go_wp2_with (first
                | (at_builtin; refine wpList_append_own _ rfl _ _ 22 rfl wq.heap.size 24 i0 (.agg #[.int .i64 0, .int .i64 0]) 2 16 Try.underlying22 hi hz0 hz1 hz2 rfl (by decide) _ _ _ rfl (World.ownsRow.alloc D1.out.2.1 _) ⟨x1.heap.size, 0, none⟩ 1 1 [.int .i64 (r : Int), .int .i64 y] rfl rfl (cell_two_new _ _ _ _) (fun u hu => by simp at hu; rcases hu with rfl | rfl <;> rfl) (by unfold maxLen; omega) (by omega) (by simp; omega) ?_; intro v1 w3 hown1 hgrow1 hnil1; have X1 := Lib.hid (And.intro (Owns.snoc hown1) (own_far D1.out.1 D1.out.2.2 D1.out.2.1 _ hgrow1)); clear hown1 hgrow1 hnil1))
              go_roundw
              case rel => exact ⟨j + 1, by omega, by go_num, Lib.hid X1.out.2, Lib.hid (by rw [HE.out]; exact X1.out.1)⟩
              case measure => simp [intOf]; omega
            · have hd : decide (fl < y) = false := decide_eq_false hp
              have HE : Hid (abvTo ms (j + 1) = abvTo ms j) := Lib.hid (by rw [HA.out, HFL.out, if_neg (by rw [hd]; exact Bool.false_ne_true)])
              go_wp2
              go_region_held3 (fun w' => w'.cell? ⟨B2, off2 + j * 2, none⟩ = some (.int .i64 (r : Int)) ∧ w'.cell? ⟨B2, off2 + j * 2 + 1, none⟩ = some (.int .i64 y))
                (first
                  | exact HK2.out _ D1.out.1
                  | go_keep)
                (first
                  | (go_at_call 14; (with_reducible refine (HCF.out _ HBD.out).mono ?_); rintro e x1 ⟨rfl, hb⟩; have D1 := Lib.hid (HOD.out _ hb); clear hb))
              go_wp2
              go_roundw
              case rel => exact ⟨j + 1, by omega, by go_num, Lib.hid D1.out.1, Lib.hid (by rw [HE.out]; exact D1.out.2.1)⟩
              case measure => simp [intOf]; omega
          · have kn2 : ¬ (j : Int) < z := by omega
            have HE : Hid (abvTo ms j = abv ms) := Lib.hid (by rw [← abvTo_all ms, HZ.out, show j = z by omega])
            rw [HE.out] at hown
            have HEN : Hid (Ends w a b g s m (.slice vp z vc) u12 ms wr) := Lib.hid ⟨hst.out.on hbw.out, Owns.row hown.out⟩
            have HCF : Hid (∀ W (r : Nat) (fl : Int), r < 8 → flrOf ms (r : Int) = fl → Ends w a b g s m (.slice vp z vc) u12 ms W → Calls Try.prog 14 #[.slice vp z vc, .int .i64 (r : Int)] W (RetB (.int .i64 fl) W)) := Lib.hid fun W r fl h8 he h => by
              have := floor_any _ ms r h8 W h.st.row h.st.f.p.right
              unfold flrOf at he
              rw [if_pos (by omega)] at he
              rw [he] at this; exact this
            have HCG : Hid (∀ W (r fl : Int), flrOf ms r = fl → Ends w a b g s m (.slice vp z vc) u12 ms W → Calls Try.prog 15 #[.pointer (some ⟨g, 0, none⟩), .int .i64 r] W (RetB (.int .i64 fl) W)) := Lib.hid fun W r fl he h => by
              have := ffloor_p g s m ms r W h.st.f.p
              rw [he] at this; exact this
            clear hst hbw hown HE kn2 HZ HRW HRT
            go_wp2
            go_loopw [14] (fun i W => ∃ (r : Int), -1 ≤ r ∧ r ≤ 9 ∧ i = .int .i64 r ∧ Hid (Ends w a b g s m (.slice vp z vc) u12 ms W)) (fun i _ => (9 - intOf i).toNat)
            case atStart => exact ⟨-1, by decide, by decide, rfl, HEN⟩
            case round =>
              clear HEN
              obtain ⟨r, hr0, hr1, rfl, hen⟩ := hrel
              by_cases hr9 : r ≤ 8
              · obtain ⟨fl, hfl⟩ : ∃ fl, flrOf ms r = fl := ⟨_, rfl⟩
                have HG1 : Hid (∀ W, Ends w a b g s m (.slice vp z vc) u12 ms W → Calls Try.prog 15 #[.pointer (some ⟨g, 0, none⟩), .int .i64 r] W (RetB (.int .i64 fl) W)) := Lib.hid fun W h => HCG.out W r fl hfl h
                by_cases hin : 0 ≤ r ∧ r < 8
                · obtain ⟨q, rfl⟩ : ∃ q : Nat, r = (q : Int) := ⟨r.toNat, by omega⟩
                  have HF1 := Lib.hid (HCF.out wr q fl (by omega) hfl hen.out)
                  have q0 := hin.1
                  have q8 := hin.2
                  clear hfl hin
                  go_wp2_with (first
                    | (go_at_call 14; ((with_reducible refine HF1.out.mono ?_); rintro e x1 ⟨rfl, hb⟩; have D1 := Lib.hid (hen.out.on hb); clear hb))
                    | (go_at_call 15; ((with_reducible refine (HG1.out _ D1.out).mono ?_); rintro e x2 ⟨rfl, hb⟩; have D2 := Lib.hid (D1.out.on hb); clear hb)))
                  go_roundw
                  case rel => exact ⟨(q : Int) + 1, by omega, by omega, by go_num, D2⟩
                  case measure => simp [intOf]; omega
                · have hz : fl = 0 := by rw [← hfl]; unfold flrOf; rw [if_neg hin]
                  subst hz
                  have HF1 := Lib.hid (HG1.out wr hen.out)
                  clear hfl HG1
                  have hcase : r = -1 ∨ r = 8 := by omega
                  rcases hcase with rfl | rfl
                  · go_wp2_with (first
                      | (go_at_call 15; ((with_reducible refine HF1.out.mono ?_); rintro e x2 ⟨rfl, hb⟩; have D2 := Lib.hid (hen.out.on hb); clear hb)))
                    go_roundw
                    case rel => exact ⟨0, by decide, by decide, by go_num, D2⟩
                    case measure => simp [intOf]
                  · go_wp2_with (first
                      | (go_at_call 15; ((with_reducible refine HF1.out.mono ?_); rintro e x2 ⟨rfl, hb⟩; have D2 := Lib.hid (hen.out.on hb); clear hb)))
                    go_roundw
                    case rel => exact ⟨9, by decide, by decide, by go_num, D2⟩
                    case measure => simp [intOf]
              · have hr9' : ¬ r ≤ 8 := hr9
                have HD : Hid (Ends w a b g s m (.slice vp z vc) u12 ms wr.drew) := Lib.hid (hen.out.on (Below.refl _ _).drew)
                obtain ⟨t, ht⟩ : ∃ t, decide ((a, b) ∈ ms) = t := ⟨_, rfl⟩
                have et : ∀ w, (binOp .eql 4 (.bool t) (.bool t)).run Try.prog w = .ok (.bool true) w := fun w => by cases t <;> go_simp
                have c1 := hen.out.st.box.fst
                have c2 := hen.out.st.box.snd
                have E1 : Hid (∀ W, Ends w a b g s m (.slice vp z vc) u12 ms W → Calls Try.prog 17 #[.pointer (some ⟨g, 0, none⟩)] W (GivesRow (abv ms) W)) := Lib.hid fun W h => fabove_p HLL.out g s m ms W h.st.f.p (by obtain ⟨_, _, e, _⟩ := h.st.row.shape; cases e; omega)
                have E3 : Hid (∀ W, Ends w a b g s m (.slice vp z vc) u12 ms W → Calls Try.prog 13 #[.pointer (some ⟨g, 0, none⟩), .agg #[.int .i64 a, .int .i64 b]] W (RetB (.bool t) W)) := Lib.hid fun W h => by
                  have := fhas_p g s m ms a b W h.st.f.p HWI.out
                  rw [ht] at this; exact this
                have E4 : Hid (∀ W, Ends w a b g s m (.slice vp z vc) u12 ms W → Calls Try.prog 10 #[.slice vp z vc, .agg #[.int .i64 a, .int .i64 b]] W (RetB (.bool t) W)) := Lib.hid fun W h => by
                  have := refhas_any _ ms a b W h.st.row
                  rw [ht] at this; exact this
                have E5 := Lib.hid (fmark_nil a b)
                have E6 := Lib.hid (fhas_nil a b)
                have E7 := Lib.hid (ffloor_nil 0)
                have E8 := Lib.hid flen_nil
                have E9 := Lib.hid ftwin_nil
                clear ht
                go_wp2
                go_region_held3 (fun w' => w'.cell? ⟨w.heap.size, 0, none⟩ = some (.int .i64 a) ∧ w'.cell? ⟨w.heap.size, 1, none⟩ = some (.int .i64 b))
                  (first
                    | exact ⟨Z10.out.st.box.fst, Z10.out.st.box.snd⟩
                    | exact ⟨Z9.out.st.box.fst, Z9.out.st.box.snd⟩
                    | exact ⟨Z8.out.st.box.fst, Z8.out.st.box.snd⟩
                    | exact ⟨Z7.out.st.box.fst, Z7.out.st.box.snd⟩
                    | exact ⟨Z6.out.st.box.fst, Z6.out.st.box.snd⟩
                    | exact ⟨Z5.out.st.box.fst, Z5.out.st.box.snd⟩
                    | exact ⟨Z4.out.st.box.fst, Z4.out.st.box.snd⟩
                    | exact ⟨Z3.out.st.box.fst, Z3.out.st.box.snd⟩
                    | exact ⟨Z2.out.st.box.fst, Z2.out.st.box.snd⟩
                    | exact ⟨Z1.out.st.box.fst, Z1.out.st.box.snd⟩
                    | go_keep)
                  (first
                    | (go_at_call 17; (with_reducible refine (E1.out _ HD.out).mono ?_); rintro e y1 ⟨v, rfl, hr, hb⟩; have Z1 := Lib.hid (HD.out.on hb); have R1 := Lib.hid hr; clear hr hb)
                    | (go_at_call 16; (with_reducible refine (same_true _ _ _ _ R1.out Z1.out.row).mono ?_); rintro e y2 ⟨rfl, hb⟩; have Z2 := Lib.hid (Z1.out.on hb); clear hb)
                    | (go_at_call 13; (with_reducible refine (E3.out _ Z2.out).mono ?_); rintro e y3 ⟨rfl, hb⟩; have Z3 := Lib.hid (Z2.out.on hb); clear hb)
                    | (go_at_call 10; (with_reducible refine (E4.out _ Z3.out).mono ?_); rintro e y4 ⟨rfl, hb⟩; have Z4 := Lib.hid (Z3.out.on hb); clear hb)
                    | (go_at_call 8; (with_reducible refine (E5.out _).mono ?_); rintro e y5 ⟨rfl, hb⟩; have Z5 := Lib.hid (Z4.out.on hb); clear hb)
                    | (go_at_call 13; (with_reducible refine (E6.out _).mono ?_); rintro e y6 ⟨rfl, hb⟩; have Z6 := Lib.hid (Z5.out.on hb); clear hb)
                    | (go_at_call 15; (with_reducible refine (E7.out _).mono ?_); rintro e y7 ⟨rfl, hb⟩; have Z7 := Lib.hid (Z6.out.on hb); clear hb)
                    | (go_at_call 12; (with_reducible refine (E8.out _).mono ?_); rintro e y8 ⟨rfl, hb⟩; have Z8 := Lib.hid (Z7.out.on hb); clear hb)
                    | (go_at_call 7; (with_reducible refine (E9.out _).mono ?_); rintro e y9 ⟨rfl, hb⟩; have Z9 := Lib.hid (Z8.out.on hb); clear hb)
                    | (go_at_call 5; (with_reducible refine (HWK.out _).mono ?_); rintro e y10 ⟨rfl, hb⟩; have Z10 := Lib.hid (Z9.out.on hb); clear hb))
                go_wp2
                go_ret
                exact ⟨rfl, Z10.out.st.box.below⟩
end Go.Proofs.Ytjkjbpfpmghlaaa
