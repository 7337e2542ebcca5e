/- What whole (layer 11, codec) gives: a record as it stands, or what is wrong first is given up by a panic. Conditions: the bytes lie in memory as their cells say, and are not more than 100000; the reader is a box of the call's own. (Written by tools/gen_whole.py.) -/
import Derived.Test.YtapjjeffegnflaaCodM
import Derived.Test.YtapjjeffegnflaaCodS
namespace Go.Proofs.Ytapjjeffegnflaa.Cod
open Go.RowKit F64 Cmd Bat Ids Rec Wir Dig
set_option linter.unusedVariables false
set_option linter.unusedSimpArgs false

/-! ### Plain -/
/-- What bytes, opened, hold, ahead of the record's own checks. -/
def gwhole (zs : List UInt8) : Except Nat (Int × Int × Int × List Idn × List Cmdn) :=
  match gid zs with
  | .error e => .error e
  | .ok (x, r) => match gnum r with
    | .error e => .error e
    | .ok (q, r) => match gcount 16 10 r with
      | .error e => .error e
      | .ok (n, r) => match gmany gid n r with
        | .error e => .error e
        | .ok (ds, r) => match gcount 8 5 r with
          | .error e => .error e
          | .ok (m, r) => match gmany gcmd m r with
            | .error e => .error e
            | .ok (cs, r) => if r ≠ [] then .error 3 else .ok (x.1, x.2, (q : Int), ds, cs)
theorem gbody_whole (zs : List UInt8) : gbody zs = match gwhole zs with
    | .error e => .error e
    | .ok (a, b, q, ds, cs) => if rErr a b q ds cs ≠ 0 then .error (rErr a b q ds cs).toNat else .ok (a, b, q, ds, cs) := by
  unfold gbody gwhole
  cases h1 : gnum zs with
  | error e => rw [show gid zs = .error e by unfold gid; rw [h1]]
  | ok v =>
  obtain ⟨a, r1⟩ := v
  simp only []
  cases h2 : gnum r1 with
  | error e => rw [show gid zs = .error e by unfold gid; rw [h1]; simp only []; rw [h2]]
  | ok v =>
  obtain ⟨b, r2⟩ := v
  rw [show gid zs = .ok (((a : Int), (b : Int)), r2) by unfold gid; rw [h1]; simp only []; rw [h2]]
  simp only []
  cases gnum r2 with
  | error e => rfl
  | ok v =>
  obtain ⟨q, r3⟩ := v
  simp only []
  unfold gcount
  cases gnum r3 with
  | error e => rfl
  | ok v =>
  obtain ⟨n, r4⟩ := v
  simp only []
  by_cases hn : 16 < n
  · rw [if_pos hn, if_pos hn]
  rw [if_neg hn, if_neg hn]
  simp only []
  cases gmany gid n r4 with
  | error e => rfl
  | ok v =>
  obtain ⟨ds, r5⟩ := v
  simp only []
  cases gnum r5 with
  | error e => rfl
  | ok v =>
  obtain ⟨m, r6⟩ := v
  simp only []
  by_cases hm : 8 < m
  · rw [if_pos hm, if_pos hm]
  rw [if_neg hm, if_neg hm]
  simp only []
  cases gmany gcmd m r6 with
  | error e => rfl
  | ok v =>
  obtain ⟨cs, r7⟩ := v
  simp only []
  by_cases hr : r7 ≠ []
  · rw [if_pos hr, if_pos hr]
  · rw [if_neg hr, if_neg hr]
theorem gcount_le {most err : Nat} {zs r : List UInt8} {n : Nat} (h : gcount most err zs = .ok (n, r)) : n ≤ most := by
  unfold gcount at h
  split at h
  · cases h
  · split at h
    · cases h
    · injection h with h; injection h with h1 h2; omega

/-! ### All that whole has -/
structure Ws (w W0 : World) (g : Nat) (ys : List UInt8) (a b q : Int) (v u : Value) (W : World) : Prop where
  src : Rd w g ys W
  box : Five (W0.heap.size + 1) (.int .i64 a) (.int .i64 b) (.int .i64 q) v u 27 W
  res : Five W0.heap.size (.int .i64 0) (.int .i64 0) (.int .i64 0) (.slice none 0 0) (.slice none 0 0) 27 W
  low : g < W0.heap.size
  wl : w.heap.size ≤ W0.heap.size
section
variable {w W0 W : World} {g : Nat} {ys : List UInt8} {a b q : Int} {v u : Value}
theorem Ws.facts (h : Ws w W0 g ys a b q v u W) : W.frozen? ⟨g, 0, none⟩ = false ∧ W.cell? ⟨W0.heap.size + 1, 0, none⟩ = some (.int .i64 a) ∧ W.cell? ⟨W0.heap.size + 1, 1, none⟩ = some (.int .i64 b) ∧ W.cell? ⟨W0.heap.size + 1, 2, none⟩ = some (.int .i64 q) ∧ W.cell? ⟨W0.heap.size + 1, 3, none⟩ = some v ∧ W.cell? ⟨W0.heap.size + 1, 4, none⟩ = some u
    ∧ W.frozen? ⟨W0.heap.size + 1, 0, none⟩ = false ∧ W.frozen? ⟨W0.heap.size + 1, 1, none⟩ = false ∧ W.frozen? ⟨W0.heap.size + 1, 2, none⟩ = false ∧ W.frozen? ⟨W0.heap.size + 1, 3, none⟩ = false ∧ W.frozen? ⟨W0.heap.size + 1, 4, none⟩ = false := by
  obtain ⟨c0, c1, c2, c3, c4⟩ := h.box.cells
  obtain ⟨f0, f1, f2, f3, f4⟩ := h.box.free
  exact ⟨h.src.f0, c0, c1, c2, c3, c4, f0, f1, f2, f3, f4⟩
theorem Ws.start (h : Rd w g ys W0) : Ws w W0 g ys 0 0 0 (.slice none 0 0) (.slice none 0 0) ((W0.alloc zeroR).alloc zeroR) := by
  have T := Five.new (W0.alloc zeroR) (.int .i64 0) (.int .i64 0) (.int .i64 0) (.slice none 0 0) (.slice none 0 0) 27
  have e : (W0.alloc zeroR).heap.size = W0.heap.size + 1 := by simp
  rw [e] at T
  exact ⟨(h.alloc _).alloc _, T, (Five.new W0 _ _ _ _ _ _).alloc _, h.lt, h.below.size⟩
theorem Ws.step (h : Ws w W0 g ys a b q v u W) {W' : World} {ys' : List UInt8} (hb : W.grownBy W' (some g)) (hs : Rd w g ys' W') : Ws w W0 g ys' a b q v u W' := by
  have := h.low
  exact ⟨hs, h.box.gb hb (by omega), h.res.gb hb (by omega), h.low, h.wl⟩
theorem Ws.alloc (h : Ws w W0 g ys a b q v u W) (o : Obj) : Ws w W0 g ys a b q v u (W.alloc o) := ⟨h.src.alloc o, h.box.alloc o, h.res.alloc o, h.low, h.wl⟩
theorem Ws.drew (h : Ws w W0 g ys a b q v u W) : Ws w W0 g ys a b q v u W.drew := ⟨h.src.drew, h.box.same rfl, h.res.same rfl, h.low, h.wl⟩
theorem Ws.put (h : Ws w W0 g ys a b q v u W) (i : Nat) (x : Value) {a' b' q' : Int} {v' u' : Value} (hb : Five (W0.heap.size + 1) (.int .i64 a') (.int .i64 b') (.int .i64 q') v' u' 27 (W.setCell ⟨W0.heap.size + 1, i, none⟩ x)) : Ws w W0 g ys a' b' q' v' u' (W.setCell ⟨W0.heap.size + 1, i, none⟩ x) := by
  have h1 := h.low
  have h2 := h.wl
  exact ⟨h.src.far (by omega) (by omega) _ _, hb, h.res.far (by omega) _ _, h.low, h.wl⟩
theorem Ws.put0 (h : Ws w W0 g ys a b q v u W) (x : Int) : Ws w W0 g ys x b q v u (W.setCell ⟨W0.heap.size + 1, 0, none⟩ (.int .i64 x)) := h.put 0 _ (h.box.set0 _)
theorem Ws.put1 (h : Ws w W0 g ys a b q v u W) (x : Int) : Ws w W0 g ys a x q v u (W.setCell ⟨W0.heap.size + 1, 1, none⟩ (.int .i64 x)) := h.put 1 _ (h.box.set1 _)
theorem Ws.put2 (h : Ws w W0 g ys a b q v u W) (x : Int) : Ws w W0 g ys a b x v u (W.setCell ⟨W0.heap.size + 1, 2, none⟩ (.int .i64 x)) := h.put 2 _ (h.box.set2 _)
theorem Ws.put3 (h : Ws w W0 g ys a b q v u W) (x : Value) : Ws w W0 g ys a b q x u (W.setCell ⟨W0.heap.size + 1, 3, none⟩ x) := h.put 3 _ (h.box.set3 _)
theorem Ws.put4 (h : Ws w W0 g ys a b q v u W) (x : Value) : Ws w W0 g ys a b q v x (W.setCell ⟨W0.heap.size + 1, 4, none⟩ x) := h.put 4 _ (h.box.set4 _)
theorem Ws.under (h : Ws w W0 g ys a b q v u W) {B : Nat} {W' : World} (hb : Below B W W') (hB : W0.heap.size + 1 < B) : Ws w W0 g ys a b q v u W' := by
  have h1 := h.low
  exact ⟨h.src.under hb (by omega), h.box.same (hb.block _ hB), h.res.same (hb.block _ (by omega)), h.low, h.wl⟩
theorem Ws.grownB (h : Ws w W0 g ys a b q v u W) {B size n : Nat} {t : TypeId} {l : Value} {xs : List Value} (hB : W0.heap.size + 2 ≤ B) (ho : W.ownsRow B t size l n xs) (hs : B ≤ W.heap.size) (o : Obj) {W' : World} (hg : (W.alloc o).grownBy W' l.ownBlock) : Ws w W0 g ys a b q v u W' :=
  (h.alloc o).under (below_grown (Below.refl B (W.alloc o)) (Nat.le_refl _) (World.ownsRow.alloc ho o) (by simp; omega) hg) (by omega)
end
/-- append of an id to a row of the call's own, at a step of a drawn region. -/
theorem step_id {ops : Array Oper} {o : Oper} {a : Act} {W : World} {K : Act → World → Prop} {Q : Exit → Act → World → Prop} {E : Prop}
    (hw : Region.wanted o (yielded ops a.tmps) = true) (s x : Operand) (ho : o.op = .call { callee := .builtin .append, args := #[s, x], argTypes := #[24, 24] })
    (B n : Nat) (pv : Option Addr) (cv : Nat) (ds : List Idn) (hn : Hid (ds.length = n)) (hs : a.eval s = .slice pv n cv) (hv : Owns W B (.slice pv n cv) ds) (hb : B ≤ W.heap.size) (k t : Int) (hx : a.eval x = .slice (some ⟨W.heap.size, 0, none⟩) 1 1) (hl : n ≤ 100)
    (hK : ∀ pw cw w', Hid (Owns w' B (.slice pw (n + 1) cw) (ds ++ [(k, t)])) → Hid ((W.alloc (.cells #[.int .i64 k, .int .i64 t] 23)).grownBy w' (Value.slice pv n cv).ownBlock) → K (a.put o.dst (.slice pw (n + 1) cw)) w') :
    if Region.wanted o (yielded ops a.tmps) = true then Oper.wp Try.prog o a (W.alloc (.cells #[.int .i64 k, .int .i64 t] 23)) K Q else E := by
  obtain ⟨i1, hk0, hy0, hy1, hy2⟩ := info_parts Ids.info_id
  rw [if_pos hw]
  have hn := hn.out
  subst hn
  refine wp_append_own _ s x 24 ho B 23 i1 (.agg #[.int .i64 0, .int .i64 0]) 2 16 Try.underlying24 hk0 hy0 hy1 hy2 rfl (by decide) _ _ _ hs (World.ownsRow.alloc hv _) ⟨W.heap.size, 0, none⟩ 1 1 [.int .i64 k, .int .i64 t] hx rfl (two_cells _ _ _ _) (two_one _ _) (by unfold maxLen; omega) (by omega) (by simp; omega) ?_
  intro v1 w1 h1 h2 h3
  have hf := own_form h1
  obtain ⟨pw, cw, rfl⟩ := hf
  exact hK pw cw w1 (Lib.hid (Owns.snoc h1)) (Lib.hid h2)

/-! ### whole -/
def WTk (w : World) (zs : List UInt8) (E : Ending) (W' : World) : Prop :=
  (∃ (a b q : Int) (v u : Value) (ds : List Idn) (cs : List Cmdn), gwhole zs = .ok (a, b, q, ds, cs.map cmdC) ∧ GoodC cs ∧ (∀ x ∈ cs, wfC x) ∧ E = .returned (.agg #[.int .i64 a, .int .i64 b, .int .i64 q, v, u]) ∧ Below w.heap.size w W' ∧ Owns W' w.heap.size v ds ∧ OwnK W' w.heap.size u cs) ∨ ∃ e : Nat, gwhole zs = .error e ∧ e ≠ 0 ∧ E = .panicked (panL e) ∧ Below w.heap.size w W'
theorem rec_result1 {fn : Func} {p : Tmp} (h : fn.results = #[.cell p 27]) (tmps : Array Value) {W : World} {r : Nat} {x0 x1 x2 : Int} {p3 p4 : Option Addr} {n3 c3 n4 c4 : Nat} (hp : tmps.getD p undef = .pointer (some ⟨r, 0, none⟩)) (hb : Five r (.int .i64 x0) (.int .i64 x1) (.int .i64 x2) (.slice p3 n3 c3) (.slice p4 n4 c4) 27 W) :
    (results fn tmps).run Try.prog W = .ok (.agg #[.int .i64 x0, .int .i64 x1, .int .i64 x2, .slice p3 n3 c3, .slice p4 n4 c4]) W := by
  obtain ⟨c0, c1, c2, c3', c4'⟩ := hb.cells
  have e : (results fn tmps).run Try.prog W = ((asAddr (tmps.getD p undef)).run Try.prog W).andThen fun a w₁ => (loadVar 27 a).run Try.prog w₁ := by
    simp only [results, h]
    simp [Sem.run_bind, Result.andThen]
  rw [e, hp]
  go_simp
/-- What many commands let by may be checked. -/
theorem many_wf {m : Nat} {ys zs : List UInt8} {cs : List Cmdn} (hg : GoodC cs) (h : gmany gcmd m zs = .ok (cs.map cmdC, ys)) : ∀ x ∈ cs, wfC x := good_wf (m := m) (e := 0) (ys := ys) (zs := zs) hg (.inl ⟨rfl, h, rfl⟩)
set_option maxHeartbeats 16000000 in
set_option maxRecDepth 100000 in
theorem whole_any (w : World) (g : Nat) (zs : List UInt8) (W : World) (h : Rd w g zs W) : Calls Try.prog 25 #[.pointer (some ⟨g, 0, none⟩)] W (WTk w zs) := by
  have hmf : ∀ (fn : Fn) (first cap : Array Value) (w : World), (Instr.makeFunc fn first cap).run Try.prog w = .ok (.func fn first cap) w := fun _ _ _ _ => rfl
  have KI := Lib.hid (fun ys X (h : Rd w g ys X) => takeid_any w g ys X h)
  have KN := Lib.hid (fun ys X (h : Rd w g ys X) => number_any w g ys X h)
  have KT1 : Hid (∀ ys X, Rd w g ys X → Calls Try.prog 50 #[numF g, .int .i64 16, .int .i64 10] X (Tk w g (gcount 16 10 ys) (fun n : Nat => .int .i64 (n : Int)) X)) := Lib.hid (fun ys X h => count_any w g ys X h 16 10 (by decide))
  have KT2 : Hid (∀ ys X, Rd w g ys X → Calls Try.prog 50 #[numF g, .int .i64 8, .int .i64 5] X (Tk w g (gcount 8 5 ys) (fun n : Nat => .int .i64 (n : Int)) X)) := Lib.hid (fun ys X h => count_any w g ys X h 8 5 (by decide))
  have KC := Lib.hid (fun ys X (h : Rd w g ys X) => command_any w g ys X h)
  have S0 := Lib.hid (Ws.start h)
  obtain ⟨W0, hW0⟩ : ∃ W0, W0 = W := ⟨_, rfl⟩
  have SZ : Hid (W.heap.size + 2 ≤ ((W.alloc zeroR).alloc zeroR).heap.size) := Lib.hid (by simp)
  unfold zeroR at S0 SZ
  have hWl := Lib.hid h.below.size
  have hlow := Lib.hid h.lt
  have hgw : Hid (g < W.heap.size + 2) := Lib.hid (by have := h.lt; omega)
  have hrw : Hid (W.heap.size + 1 < W.heap.size + 2) := Lib.hid (Nat.lt_succ_self _)
  clear h
  unfold WTk
  unfold numF at *
  go_enter Try.func25, Try.ntmps25
  generalize hGW : gwhole zs = GW
  have HGW := Lib.hid hGW
  clear hGW
  unfold gwhole at HGW
  go_wp2_with (first
    | (go_at_call 49; (with_reducible refine (KI.out _ _ S0.out.src).mono ?_); rintro E1 w1 (⟨x, y1, hg1, rfl, hb1, hs1⟩ | ⟨e, hg1, he, rfl, hb1⟩); rotate_left; (· rw [hg1] at HGW; exact ⟨rfl, .inr ⟨e, HGW.out.symm, he, rfl, hb1⟩⟩); rw [hg1] at HGW; have S1 := Lib.hid (S0.out.step hb1 hs1); have S1b := Lib.hid ((S1.out.put0 x.1).put1 x.2); obtain ⟨fa, ca0, ca1, ca2, ca3, ca4, ga0, ga1, ga2, ga3, ga4⟩ := S1.out.facts; clear hb1 hs1 hg1)
    | (go_at_call 48; (with_reducible refine (KN.out _ _ S1b.out.src).mono ?_); rintro E2 w2 (⟨q, y2, hg2, rfl, hb2, hs2⟩ | ⟨e, hg2, he, rfl, hb2⟩); rotate_left; (· simp only [hg2] at HGW; exact ⟨rfl, .inr ⟨e, HGW.out.symm, he, rfl, hb2⟩⟩); simp only [hg2] at HGW; have S2 := Lib.hid (S1b.out.step hb2 hs2); have S2b := Lib.hid (S2.out.put2 (q : Int)); obtain ⟨fb, cb0, cb1, cb2, cb3, cb4, gb0, gb1, gb2, gb3, gb4⟩ := S2.out.facts; clear hb2 hs2 hg2)
    | (go_at_call 50; (with_reducible refine (KT1.out _ _ S2b.out.src).mono ?_); rintro E3 w3 (⟨N, y3, hg3, rfl, hb3, hs3⟩ | ⟨e, hg3, he, rfl, hb3⟩); rotate_left; (· simp only [hg3] at HGW; exact ⟨rfl, .inr ⟨e, HGW.out.symm, he, rfl, hb3⟩⟩); simp only [hg3] at HGW; have hN16 := gcount_le hg3; have S3 := Lib.hid (S2b.out.step hb3 hs3); obtain ⟨fc, cc0, cc1, cc2, cc3, cc4, gc0, gc1, gc2, gc3, gc4⟩ := S3.out.facts; clear hb3 hs3 hg3))
  go_loopw [15] (fun i wr => ∃ (j : Nat) (ys : List UInt8) (pv : Option Addr) (cv : Nat) (ds : List Idn), i = .int .i64 j ∧ ds.length = j ∧ j ≤ N ∧ Hid (Ws w W g ys x.1 x.2 q (.slice pv j cv) (.slice none 0 0) wr) ∧ Hid (Owns wr (W.heap.size + 2) (.slice pv j cv) ds) ∧ Hid (gmany gid j y3 = .ok (ds, ys))) (fun i _ => N - (intOf i).toNat)
  case atStart => exact ⟨0, y3, none, 0, [], rfl, rfl, Nat.zero_le _, S3, Lib.hid (World.ownsRow_nil _ _ _ _), Lib.hid rfl⟩
  case round =>
    obtain ⟨j, ys, pv, cv, ds, rfl, hdl, hjle, S, O, HW⟩ := hrel
    have hlt := S.out.box.lt
    have j0 : (0 : Int) ≤ j := by omega
    by_cases hjN : j < N
    · have hjN' : (j : Int) < N := by omega
      have h100 : Hid (j ≤ 100) := Lib.hid (by omega)
      have HDL := Lib.hid hdl
      have Sd := Lib.hid S.out.drew
      have Od := Lib.hid (own_below O.out (Below.refl _ _).drew)
      have HBd : Hid (W.heap.size + 2 ≤ wr.drew.heap.size) := Lib.hid (by rw [World.size_drew]; omega)
      obtain ⟨fl, cl0, cl1, cl2, cl3, cl4, gl0, gl1, gl2, gl3, gl4⟩ := Sd.out.facts
      clear hdl hlt
      go_upto_region 7 with fail
      refine wp_region_held_drew (S := (fun w' => True)) (by kernel_rfl) trivial (fun hHeld => ?_)
      refine wpAnyH_take (i := 0) (v := ?_) rfl (by kernel_rfl) (by kernel_rfl) (by kernel_rfl) (fun _ _ _ h => h) (Or.inl ⟨by rfl, fun w hSw => ?_⟩) (by assumption) ?_
      rotate_left
      · (try dsimp only at hSw); go_simp; (try with_reducible rfl)
      try simp only [List.getElem_toArray, List.getElem_cons_succ, List.getElem_cons_zero, Act.put, List.setIfInBounds_toArray, List.set_cons_zero, List.set_cons_succ]
      refine wpAnyH_take (i := 2) (v := ?_) rfl (by kernel_rfl) (by kernel_rfl) (by kernel_rfl) (fun _ _ _ h => h) (Or.inl ⟨by rfl, fun w hSw => ?_⟩) (by assumption) ?_
      rotate_left
      · (try dsimp only at hSw); go_simp; (try with_reducible rfl)
      try simp only [List.getElem_toArray, List.getElem_cons_succ, List.getElem_cons_zero, Act.put, List.setIfInBounds_toArray, List.set_cons_zero, List.set_cons_succ]
      refine wpAnyH_ready (rs := [1, 3]) (by kernel_rfl) (by simp) ?_
      refine AllReadyH.cons rfl (fun K hK => ?_) (AllReadyH.cons rfl (fun K hK => ?_) AllReadyH.nil)
      · go_simp
        skip
        refine hK.out _ _ ?_ (fun hHeld => ?_)
        · trivial
        clear hK K
        try simp only [List.getElem_toArray, List.getElem_cons_succ, List.getElem_cons_zero, Act.put, List.setIfInBounds_toArray, List.set_cons_zero, List.set_cons_succ]
        refine wpAnyH_ready (rs := [3]) (by kernel_rfl) (by simp) ?_
        refine AllReadyH.cons rfl (fun K hK => ?_) ?_
        rotate_left
        · exact AllReadyH.nil
        go_simp
        (go_at_call 49; (with_reducible refine (KI.out _ _ Sd.out.src).mono ?_); rintro E7 w7 (⟨x7, y7, hg7, rfl, hb7, hs7⟩ | ⟨e7, hg7, he7, rfl, hb7⟩); rotate_left; (· have hm7 := (many_snoc j y3 ds ys HW.out).2 e7 hg7 N hjN; simp only [hm7] at HGW; exact ⟨rfl, .inr ⟨e7, HGW.out.symm, he7, rfl, hb7⟩⟩); have HW7 := Lib.hid ((many_snoc j y3 ds ys HW.out).1 x7 y7 hg7); have T7 := Lib.hid (Sd.out.step hb7 hs7); obtain ⟨fn, cn0, cn1, cn2, cn3, cn4, gn0, gn1, gn2, gn3, gn4⟩ := T7.out.facts; have ca7 := fun o => ((T7.out.alloc o).facts).2.2.2.2.1; have O7 := Lib.hid (own_gb Od.out hb7 hgw.out); have hs7 := Lib.hid (gb_le hb7 HBd.out); clear hb7 hg7)
        refine hK.out _ _ ?_ (fun hHeld => ?_)
        · trivial
        clear hK K
        try simp only [List.getElem_toArray, List.getElem_cons_succ, List.getElem_cons_zero, Act.put, List.setIfInBounds_toArray, List.set_cons_zero, List.set_cons_succ]
        refine wpAnyH_ready (rs := [4]) (by kernel_rfl) (by simp) ?_
        refine AllReadyH.cons rfl (fun K hK => ?_) ?_
        rotate_left
        · exact AllReadyH.nil
        go_simp
        skip
        refine hK.out _ _ ?_ (fun hHeld => ?_)
        · trivial
        clear hK K
        try simp only [List.getElem_toArray, List.getElem_cons_succ, List.getElem_cons_zero, Act.put, List.setIfInBounds_toArray, List.set_cons_zero, List.set_cons_succ]
        refine wpAnyH_ready (rs := [5]) (by kernel_rfl) (by simp) ?_
        refine AllReadyH.cons rfl (fun K hK => ?_) ?_
        rotate_left
        · exact AllReadyH.nil
        (refine step_id (by kernel_rfl) _ _ rfl (W.heap.size + 2) j pv cv ds HDL rfl O7.out hs7.out x7.1 x7.2 rfl h100.out ?_; intro pw cw w8 O8 G8; have S8 := Lib.hid (T7.out.grownB (Nat.le_refl _) O7.out hs7.out _ G8.out); obtain ⟨fo, co0, co1, co2, co3, co4, go0, go1, go2, go3, go4⟩ := S8.out.facts)
        refine hK.out _ _ ?_ (fun hHeld => ?_)
        · trivial
        clear hK K
        try simp only [List.getElem_toArray, List.getElem_cons_succ, List.getElem_cons_zero, Act.put, List.setIfInBounds_toArray, List.set_cons_zero, List.set_cons_succ]
        refine wpAnyH_take (i := 6) (v := ?_) rfl (by kernel_rfl) (by kernel_rfl) (by kernel_rfl) (fun _ _ _ h => h) (Or.inl ⟨by rfl, fun w hSw => ?_⟩) (by assumption) ?_
        rotate_left
        · (try dsimp only at hSw); go_simp; (try with_reducible rfl)
        try simp only [List.getElem_toArray, List.getElem_cons_succ, List.getElem_cons_zero, Act.put, List.setIfInBounds_toArray, List.set_cons_zero, List.set_cons_succ]
        refine wpAnyH_ready (rs := [7]) (by kernel_rfl) (by simp) ?_
        refine AllReadyH.cons rfl (fun K hK => ?_) ?_
        rotate_left
        · exact AllReadyH.nil
        go_simp
        skip
        refine hK.out _ _ ?_ (fun hHeld => ?_)
        · trivial
        clear hK K
        try simp only [List.getElem_toArray, List.getElem_cons_succ, List.getElem_cons_zero, Act.put, List.setIfInBounds_toArray, List.set_cons_zero, List.set_cons_succ]
        refine wpAnyH_done (by kernel_rfl) ?_ _
        go_wp2_with fail
        have hjd := HDL.out
        go_roundw
        case rel => exact ⟨j + 1, y7, pw, cw, ds ++ [x7], by go_num, by rw [List.length_append, hjd]; rfl, hjN, Lib.hid (S8.out.put3 _), Lib.hid (own_far O8.out hrw.out 3 _), HW7⟩
        case measure => simp [intOf]; omega
      · go_simp
        (go_at_call 49; (with_reducible refine (KI.out _ _ Sd.out.src).mono ?_); rintro E7 w7 (⟨x7, y7, hg7, rfl, hb7, hs7⟩ | ⟨e7, hg7, he7, rfl, hb7⟩); rotate_left; (· have hm7 := (many_snoc j y3 ds ys HW.out).2 e7 hg7 N hjN; simp only [hm7] at HGW; exact ⟨rfl, .inr ⟨e7, HGW.out.symm, he7, rfl, hb7⟩⟩); have HW7 := Lib.hid ((many_snoc j y3 ds ys HW.out).1 x7 y7 hg7); have T7 := Lib.hid (Sd.out.step hb7 hs7); obtain ⟨fn, cn0, cn1, cn2, cn3, cn4, gn0, gn1, gn2, gn3, gn4⟩ := T7.out.facts; have ca7 := fun o => ((T7.out.alloc o).facts).2.2.2.2.1; have O7 := Lib.hid (own_gb Od.out hb7 hgw.out); have hs7 := Lib.hid (gb_le hb7 HBd.out); clear hb7 hg7)
        refine hK.out _ _ ?_ (fun hHeld => ?_)
        · trivial
        clear hK K
        try simp only [List.getElem_toArray, List.getElem_cons_succ, List.getElem_cons_zero, Act.put, List.setIfInBounds_toArray, List.set_cons_zero, List.set_cons_succ]
        refine wpAnyH_ready (rs := [1, 4]) (by kernel_rfl) (by simp) ?_
        refine AllReadyH.cons rfl (fun K hK => ?_) (AllReadyH.cons rfl (fun K hK => ?_) AllReadyH.nil)
        · go_simp
          skip
          refine hK.out _ _ ?_ (fun hHeld => ?_)
          · trivial
          clear hK K
          try simp only [List.getElem_toArray, List.getElem_cons_succ, List.getElem_cons_zero, Act.put, List.setIfInBounds_toArray, List.set_cons_zero, List.set_cons_succ]
          refine wpAnyH_ready (rs := [4]) (by kernel_rfl) (by simp) ?_
          refine AllReadyH.cons rfl (fun K hK => ?_) ?_
          rotate_left
          · exact AllReadyH.nil
          go_simp
          skip
          refine hK.out _ _ ?_ (fun hHeld => ?_)
          · trivial
          clear hK K
          try simp only [List.getElem_toArray, List.getElem_cons_succ, List.getElem_cons_zero, Act.put, List.setIfInBounds_toArray, List.set_cons_zero, List.set_cons_succ]
          refine wpAnyH_ready (rs := [5]) (by kernel_rfl) (by simp) ?_
          refine AllReadyH.cons rfl (fun K hK => ?_) ?_
          rotate_left
          · exact AllReadyH.nil
          (refine step_id (by kernel_rfl) _ _ rfl (W.heap.size + 2) j pv cv ds HDL rfl O7.out hs7.out x7.1 x7.2 rfl h100.out ?_; intro pw cw w8 O8 G8; have S8 := Lib.hid (T7.out.grownB (Nat.le_refl _) O7.out hs7.out _ G8.out); obtain ⟨fo, co0, co1, co2, co3, co4, go0, go1, go2, go3, go4⟩ := S8.out.facts)
          refine hK.out _ _ ?_ (fun hHeld => ?_)
          · trivial
          clear hK K
          try simp only [List.getElem_toArray, List.getElem_cons_succ, List.getElem_cons_zero, Act.put, List.setIfInBounds_toArray, List.set_cons_zero, List.set_cons_succ]
          refine wpAnyH_take (i := 6) (v := ?_) rfl (by kernel_rfl) (by kernel_rfl) (by kernel_rfl) (fun _ _ _ h => h) (Or.inl ⟨by rfl, fun w hSw => ?_⟩) (by assumption) ?_
          rotate_left
          · (try dsimp only at hSw); go_simp; (try with_reducible rfl)
          try simp only [List.getElem_toArray, List.getElem_cons_succ, List.getElem_cons_zero, Act.put, List.setIfInBounds_toArray, List.set_cons_zero, List.set_cons_succ]
          refine wpAnyH_ready (rs := [7]) (by kernel_rfl) (by simp) ?_
          refine AllReadyH.cons rfl (fun K hK => ?_) ?_
          rotate_left
          · exact AllReadyH.nil
          go_simp
          skip
          refine hK.out _ _ ?_ (fun hHeld => ?_)
          · trivial
          clear hK K
          try simp only [List.getElem_toArray, List.getElem_cons_succ, List.getElem_cons_zero, Act.put, List.setIfInBounds_toArray, List.set_cons_zero, List.set_cons_succ]
          refine wpAnyH_done (by kernel_rfl) ?_ _
          go_wp2_with fail
          have hjd := HDL.out
          go_roundw
          case rel => exact ⟨j + 1, y7, pw, cw, ds ++ [x7], by go_num, by rw [List.length_append, hjd]; rfl, hjN, Lib.hid (S8.out.put3 _), Lib.hid (own_far O8.out hrw.out 3 _), HW7⟩
          case measure => simp [intOf]; omega
        · go_simp
          skip
          refine hK.out _ _ ?_ (fun hHeld => ?_)
          · trivial
          clear hK K
          try simp only [List.getElem_toArray, List.getElem_cons_succ, List.getElem_cons_zero, Act.put, List.setIfInBounds_toArray, List.set_cons_zero, List.set_cons_succ]
          refine wpAnyH_ready (rs := [1]) (by kernel_rfl) (by simp) ?_
          refine AllReadyH.cons rfl (fun K hK => ?_) ?_
          rotate_left
          · exact AllReadyH.nil
          go_simp
          skip
          refine hK.out _ _ ?_ (fun hHeld => ?_)
          · trivial
          clear hK K
          try simp only [List.getElem_toArray, List.getElem_cons_succ, List.getElem_cons_zero, Act.put, List.setIfInBounds_toArray, List.set_cons_zero, List.set_cons_succ]
          refine wpAnyH_ready (rs := [5]) (by kernel_rfl) (by simp) ?_
          refine AllReadyH.cons rfl (fun K hK => ?_) ?_
          rotate_left
          · exact AllReadyH.nil
          (refine step_id (by kernel_rfl) _ _ rfl (W.heap.size + 2) j pv cv ds HDL rfl O7.out hs7.out x7.1 x7.2 rfl h100.out ?_; intro pw cw w8 O8 G8; have S8 := Lib.hid (T7.out.grownB (Nat.le_refl _) O7.out hs7.out _ G8.out); obtain ⟨fo, co0, co1, co2, co3, co4, go0, go1, go2, go3, go4⟩ := S8.out.facts)
          refine hK.out _ _ ?_ (fun hHeld => ?_)
          · trivial
          clear hK K
          try simp only [List.getElem_toArray, List.getElem_cons_succ, List.getElem_cons_zero, Act.put, List.setIfInBounds_toArray, List.set_cons_zero, List.set_cons_succ]
          refine wpAnyH_take (i := 6) (v := ?_) rfl (by kernel_rfl) (by kernel_rfl) (by kernel_rfl) (fun _ _ _ h => h) (Or.inl ⟨by rfl, fun w hSw => ?_⟩) (by assumption) ?_
          rotate_left
          · (try dsimp only at hSw); go_simp; (try with_reducible rfl)
          try simp only [List.getElem_toArray, List.getElem_cons_succ, List.getElem_cons_zero, Act.put, List.setIfInBounds_toArray, List.set_cons_zero, List.set_cons_succ]
          refine wpAnyH_ready (rs := [7]) (by kernel_rfl) (by simp) ?_
          refine AllReadyH.cons rfl (fun K hK => ?_) ?_
          rotate_left
          · exact AllReadyH.nil
          go_simp
          skip
          refine hK.out _ _ ?_ (fun hHeld => ?_)
          · trivial
          clear hK K
          try simp only [List.getElem_toArray, List.getElem_cons_succ, List.getElem_cons_zero, Act.put, List.setIfInBounds_toArray, List.set_cons_zero, List.set_cons_succ]
          refine wpAnyH_done (by kernel_rfl) ?_ _
          go_wp2_with fail
          have hjd := HDL.out
          go_roundw
          case rel => exact ⟨j + 1, y7, pw, cw, ds ++ [x7], by go_num, by rw [List.length_append, hjd]; rfl, hjN, Lib.hid (S8.out.put3 _), Lib.hid (own_far O8.out hrw.out 3 _), HW7⟩
          case measure => simp [intOf]; omega
    · obtain rfl : j = N := by omega
      have hjN' : ¬ (j : Int) < j := by omega
      have HW2 := HW
      simp only [HW.out] at HGW
      have L16 : Hid (ds.length ≤ 16) := Lib.hid (by omega)
      subst hdl
      go_wp2_with (first
        | (go_at_call 50; (with_reducible refine (KT2.out _ _ S.out.src).mono ?_); rintro E4 w4 (⟨m, y4, hg4, rfl, hb4, hs4⟩ | ⟨e, hg4, he, rfl, hb4⟩); rotate_left; (· simp only [hg4] at HGW; exact ⟨rfl, .inr ⟨e, HGW.out.symm, he, rfl, hb4⟩⟩); simp only [hg4] at HGW; have hm8 := gcount_le hg4; have S4 := Lib.hid (S.out.step hb4 hs4); have O4 := Lib.hid (own_gb O.out hb4 hgw.out); clear hb4 hs4 hg4))
      have hB2 : W.heap.size + 2 ≤ w4.heap.size := by have := S4.out.box.lt; omega
      have OB : Hid (∀ k, (Value.slice pv ds.length cv).ownBlock = some k → k < w4.heap.size) := Lib.hid fun k hk => (World.ownsRow.lt O4.out k hk).2
      generalize hBB : w4.heap.size = B at hB2 OB
      have HB0' : Hid (B ≤ w4.heap.size) := Lib.hid (Nat.le_of_eq hBB.symm)
      have hgB2 : Hid (W.heap.size + 1 < B) := Lib.hid (by omega)
      have hgB3 : Hid (W.heap.size + 2 ≤ B) := Lib.hid hB2
      have hgB : Hid (g < B) := Lib.hid (by have := hgw.out; omega)
      have hWB : Hid (W.heap.size < B) := Lib.hid (by omega)
      clear hB2 hBB hlt
      go_loopw [27] (fun i wr => ∃ (j : Nat) (ys : List UInt8) (pu : Option Addr) (cu : Nat) (cs : List Cmdn), i = .int .i64 j ∧ cs.length = j ∧ j ≤ m ∧ Hid (Ws w W g ys x.1 x.2 q (.slice pv ds.length cv) (.slice pu j cu) wr) ∧ Hid (Owns wr (W.heap.size + 2) (.slice pv ds.length cv) ds) ∧ Hid (OwnK wr B (.slice pu j cu) cs) ∧ Hid (GoodC cs) ∧ Hid (B ≤ wr.heap.size) ∧ Hid (gmany gcmd j y4 = .ok (cs.map cmdC, ys))) (fun i _ => m - (intOf i).toNat)
      case atStart => exact ⟨0, y4, none, 0, [], rfl, rfl, Nat.zero_le _, S4, O4, Lib.hid (World.ownsRow_nil _ _ _ _), Lib.hid (fun c hc => absurd hc (by simp)), HB0', Lib.hid rfl⟩
      case round =>
        obtain ⟨wq, hwq⟩ : ∃ wq, wq = wr := ⟨_, rfl⟩
        obtain ⟨j, ys, pu, cu, cs, rfl, hdl, hjle, S, O, KO, HG, HB, HW⟩ := hrel
        subst hwq
        have j0 : (0 : Int) ≤ j := by omega
        by_cases hjm : j < m
        · have hjm' : (j : Int) < m := by omega
          have h100 : Hid (j ≤ 100) := Lib.hid (by omega)
          have HDL := Lib.hid hdl
          have Sd := Lib.hid S.out.drew
          have Od := Lib.hid (own_below O.out (Below.refl _ _).drew)
          have Kd := Lib.hid (own_below KO.out (Below.refl _ _).drew)
          have HBd : Hid (B ≤ wq.drew.heap.size) := Lib.hid (by rw [World.size_drew]; exact HB.out)
          obtain ⟨fl, cl0, cl1, cl2, cl3, cl4, gl0, gl1, gl2, gl3, gl4⟩ := Sd.out.facts
          clear hdl
          go_upto_region 11 with fail
          refine wp_region_held_drew (S := (fun w' => True)) (by kernel_rfl) trivial (fun hHeld => ?_)
          refine wpAnyH_take (i := 0) (v := ?_) rfl (by kernel_rfl) (by kernel_rfl) (by kernel_rfl) (fun _ _ _ h => h) (Or.inl ⟨by rfl, fun w hSw => ?_⟩) (by assumption) ?_
          rotate_left
          · (try dsimp only at hSw); go_simp; (try with_reducible rfl)
          try simp only [List.getElem_toArray, List.getElem_cons_succ, List.getElem_cons_zero, Act.put, List.setIfInBounds_toArray, List.set_cons_zero, List.set_cons_succ]
          refine wpAnyH_take (i := 2) (v := ?_) rfl (by kernel_rfl) (by kernel_rfl) (by kernel_rfl) (fun _ _ _ h => h) (Or.inl ⟨by rfl, fun w hSw => ?_⟩) (by assumption) ?_
          rotate_left
          · (try dsimp only at hSw); go_simp; (try with_reducible rfl)
          try simp only [List.getElem_toArray, List.getElem_cons_succ, List.getElem_cons_zero, Act.put, List.setIfInBounds_toArray, List.set_cons_zero, List.set_cons_succ]
          refine wpAnyH_ready (rs := [1, 3]) (by kernel_rfl) (by simp) ?_
          refine AllReadyH.cons rfl (fun K hK => ?_) (AllReadyH.cons rfl (fun K hK => ?_) AllReadyH.nil)
          · go_simp
            skip
            refine hK.out _ _ ?_ (fun hHeld => ?_)
            · trivial
            clear hK K
            try simp only [List.getElem_toArray, List.getElem_cons_succ, List.getElem_cons_zero, Act.put, List.setIfInBounds_toArray, List.set_cons_zero, List.set_cons_succ]
            refine wpAnyH_ready (rs := [3]) (by kernel_rfl) (by simp) ?_
            refine AllReadyH.cons rfl (fun K hK => ?_) ?_
            rotate_left
            · exact AllReadyH.nil
            go_simp
            (go_at_call 51; (with_reducible refine (KC.out _ _ Sd.out.src).mono ?_); rintro E7 w7 (⟨kk, t, z, y7, hg7, rfl, hz7, hv7, hb7, hs7⟩ | ⟨e7, hg7, he7, rfl, hb7⟩); rotate_left; (· have hm7 := (many_snoc j y4 (cs.map cmdC) ys HW.out).2 e7 hg7 m hjm; simp only [hm7] at HGW; exact ⟨rfl, .inr ⟨e7, HGW.out.symm, he7, rfl, hb7⟩⟩); have HW7 := Lib.hid ((many_snoc j y4 (cs.map cmdC) ys HW.out).1 (cmdC (kk, t, z)) y7 hg7); have HZ := Lib.hid hz7; have HV := Lib.hid hv7; have T7 := Lib.hid (Sd.out.step hb7 hs7); obtain ⟨fn, cn0, cn1, cn2, cn3, cn4, gn0, gn1, gn2, gn3, gn4⟩ := T7.out.facts; have ca7 := fun o => ((T7.out.alloc o).facts).2.2.2.2.2.1; have O7 := Lib.hid (own_gb Od.out hb7 hgw.out); have K7 := Lib.hid (own_gb Kd.out hb7 hgB.out); have hs7 := Lib.hid (gb_le hb7 HBd.out); clear hb7 hg7 hz7 hv7)
            refine hK.out _ _ ?_ (fun hHeld => ?_)
            · trivial
            clear hK K
            try simp only [List.getElem_toArray, List.getElem_cons_succ, List.getElem_cons_zero, Act.put, List.setIfInBounds_toArray, List.set_cons_zero, List.set_cons_succ]
            refine wpAnyH_ready (rs := [4]) (by kernel_rfl) (by simp) ?_
            refine AllReadyH.cons rfl (fun K hK => ?_) ?_
            rotate_left
            · exact AllReadyH.nil
            go_simp
            skip
            refine hK.out _ _ ?_ (fun hHeld => ?_)
            · trivial
            clear hK K
            try simp only [List.getElem_toArray, List.getElem_cons_succ, List.getElem_cons_zero, Act.put, List.setIfInBounds_toArray, List.set_cons_zero, List.set_cons_succ]
            refine wpAnyH_ready (rs := [5]) (by kernel_rfl) (by simp) ?_
            refine AllReadyH.cons rfl (fun K hK => ?_) ?_
            rotate_left
            · exact AllReadyH.nil
            (refine step_cmd (by kernel_rfl) _ _ rfl B j pu cu cs HDL rfl K7.out hs7.out kk t z rfl h100.out ?_; intro pw cw w8 K8 G8; have S8 := Lib.hid (T7.out.grownB hgB3.out K7.out hs7.out _ G8.out); have O8 := Lib.hid (own_apartB K7.out O7.out OB.out _ G8.out); have hs8 := Lib.hid (gb_leA G8.out hs7.out); obtain ⟨fo, co0, co1, co2, co3, co4, go0, go1, go2, go3, go4⟩ := S8.out.facts)
            refine hK.out _ _ ?_ (fun hHeld => ?_)
            · trivial
            clear hK K
            try simp only [List.getElem_toArray, List.getElem_cons_succ, List.getElem_cons_zero, Act.put, List.setIfInBounds_toArray, List.set_cons_zero, List.set_cons_succ]
            refine wpAnyH_take (i := 6) (v := ?_) rfl (by kernel_rfl) (by kernel_rfl) (by kernel_rfl) (fun _ _ _ h => h) (Or.inl ⟨by rfl, fun w hSw => ?_⟩) (by assumption) ?_
            rotate_left
            · (try dsimp only at hSw); go_simp; (try with_reducible rfl)
            try simp only [List.getElem_toArray, List.getElem_cons_succ, List.getElem_cons_zero, Act.put, List.setIfInBounds_toArray, List.set_cons_zero, List.set_cons_succ]
            refine wpAnyH_ready (rs := [7]) (by kernel_rfl) (by simp) ?_
            refine AllReadyH.cons rfl (fun K hK => ?_) ?_
            rotate_left
            · exact AllReadyH.nil
            go_simp
            skip
            refine hK.out _ _ ?_ (fun hHeld => ?_)
            · trivial
            clear hK K
            try simp only [List.getElem_toArray, List.getElem_cons_succ, List.getElem_cons_zero, Act.put, List.setIfInBounds_toArray, List.set_cons_zero, List.set_cons_succ]
            refine wpAnyH_done (by kernel_rfl) ?_ _
            go_wp2_with fail
            have hjd := HDL.out
            have hwy : gmany gcmd (j + 1) y4 = .ok ((cs ++ [(kk, t, z)]).map cmdC, y7) := by rw [List.map_append]; exact HW7.out
            go_roundw
            case rel => exact ⟨j + 1, y7, pw, cw, cs ++ [(kk, t, z)], by go_num, by rw [List.length_append, hjd]; rfl, hjm, Lib.hid (S8.out.put4 _), Lib.hid (own_far O8.out hrw.out 4 _), Lib.hid (own_far K8.out hgB2.out 4 _), Lib.hid (HG.out.snoc HZ.out HV.out), Lib.hid (by rw [World.size_setCell]; exact hs8.out), Lib.hid hwy⟩
            case measure => simp [intOf]; omega
          · go_simp
            (go_at_call 51; (with_reducible refine (KC.out _ _ Sd.out.src).mono ?_); rintro E7 w7 (⟨kk, t, z, y7, hg7, rfl, hz7, hv7, hb7, hs7⟩ | ⟨e7, hg7, he7, rfl, hb7⟩); rotate_left; (· have hm7 := (many_snoc j y4 (cs.map cmdC) ys HW.out).2 e7 hg7 m hjm; simp only [hm7] at HGW; exact ⟨rfl, .inr ⟨e7, HGW.out.symm, he7, rfl, hb7⟩⟩); have HW7 := Lib.hid ((many_snoc j y4 (cs.map cmdC) ys HW.out).1 (cmdC (kk, t, z)) y7 hg7); have HZ := Lib.hid hz7; have HV := Lib.hid hv7; have T7 := Lib.hid (Sd.out.step hb7 hs7); obtain ⟨fn, cn0, cn1, cn2, cn3, cn4, gn0, gn1, gn2, gn3, gn4⟩ := T7.out.facts; have ca7 := fun o => ((T7.out.alloc o).facts).2.2.2.2.2.1; have O7 := Lib.hid (own_gb Od.out hb7 hgw.out); have K7 := Lib.hid (own_gb Kd.out hb7 hgB.out); have hs7 := Lib.hid (gb_le hb7 HBd.out); clear hb7 hg7 hz7 hv7)
            refine hK.out _ _ ?_ (fun hHeld => ?_)
            · trivial
            clear hK K
            try simp only [List.getElem_toArray, List.getElem_cons_succ, List.getElem_cons_zero, Act.put, List.setIfInBounds_toArray, List.set_cons_zero, List.set_cons_succ]
            refine wpAnyH_ready (rs := [1, 4]) (by kernel_rfl) (by simp) ?_
            refine AllReadyH.cons rfl (fun K hK => ?_) (AllReadyH.cons rfl (fun K hK => ?_) AllReadyH.nil)
            · go_simp
              skip
              refine hK.out _ _ ?_ (fun hHeld => ?_)
              · trivial
              clear hK K
              try simp only [List.getElem_toArray, List.getElem_cons_succ, List.getElem_cons_zero, Act.put, List.setIfInBounds_toArray, List.set_cons_zero, List.set_cons_succ]
              refine wpAnyH_ready (rs := [4]) (by kernel_rfl) (by simp) ?_
              refine AllReadyH.cons rfl (fun K hK => ?_) ?_
              rotate_left
              · exact AllReadyH.nil
              go_simp
              skip
              refine hK.out _ _ ?_ (fun hHeld => ?_)
              · trivial
              clear hK K
              try simp only [List.getElem_toArray, List.getElem_cons_succ, List.getElem_cons_zero, Act.put, List.setIfInBounds_toArray, List.set_cons_zero, List.set_cons_succ]
              refine wpAnyH_ready (rs := [5]) (by kernel_rfl) (by simp) ?_
              refine AllReadyH.cons rfl (fun K hK => ?_) ?_
              rotate_left
              · exact AllReadyH.nil
              (refine step_cmd (by kernel_rfl) _ _ rfl B j pu cu cs HDL rfl K7.out hs7.out kk t z rfl h100.out ?_; intro pw cw w8 K8 G8; have S8 := Lib.hid (T7.out.grownB hgB3.out K7.out hs7.out _ G8.out); have O8 := Lib.hid (own_apartB K7.out O7.out OB.out _ G8.out); have hs8 := Lib.hid (gb_leA G8.out hs7.out); obtain ⟨fo, co0, co1, co2, co3, co4, go0, go1, go2, go3, go4⟩ := S8.out.facts)
              refine hK.out _ _ ?_ (fun hHeld => ?_)
              · trivial
              clear hK K
              try simp only [List.getElem_toArray, List.getElem_cons_succ, List.getElem_cons_zero, Act.put, List.setIfInBounds_toArray, List.set_cons_zero, List.set_cons_succ]
              refine wpAnyH_take (i := 6) (v := ?_) rfl (by kernel_rfl) (by kernel_rfl) (by kernel_rfl) (fun _ _ _ h => h) (Or.inl ⟨by rfl, fun w hSw => ?_⟩) (by assumption) ?_
              rotate_left
              · (try dsimp only at hSw); go_simp; (try with_reducible rfl)
              try simp only [List.getElem_toArray, List.getElem_cons_succ, List.getElem_cons_zero, Act.put, List.setIfInBounds_toArray, List.set_cons_zero, List.set_cons_succ]
              refine wpAnyH_ready (rs := [7]) (by kernel_rfl) (by simp) ?_
              refine AllReadyH.cons rfl (fun K hK => ?_) ?_
              rotate_left
              · exact AllReadyH.nil
              go_simp
              skip
              refine hK.out _ _ ?_ (fun hHeld => ?_)
              · trivial
              clear hK K
              try simp only [List.getElem_toArray, List.getElem_cons_succ, List.getElem_cons_zero, Act.put, List.setIfInBounds_toArray, List.set_cons_zero, List.set_cons_succ]
              refine wpAnyH_done (by kernel_rfl) ?_ _
              go_wp2_with fail
              have hjd := HDL.out
              have hwy : gmany gcmd (j + 1) y4 = .ok ((cs ++ [(kk, t, z)]).map cmdC, y7) := by rw [List.map_append]; exact HW7.out
              go_roundw
              case rel => exact ⟨j + 1, y7, pw, cw, cs ++ [(kk, t, z)], by go_num, by rw [List.length_append, hjd]; rfl, hjm, Lib.hid (S8.out.put4 _), Lib.hid (own_far O8.out hrw.out 4 _), Lib.hid (own_far K8.out hgB2.out 4 _), Lib.hid (HG.out.snoc HZ.out HV.out), Lib.hid (by rw [World.size_setCell]; exact hs8.out), Lib.hid hwy⟩
              case measure => simp [intOf]; omega
            · go_simp
              skip
              refine hK.out _ _ ?_ (fun hHeld => ?_)
              · trivial
              clear hK K
              try simp only [List.getElem_toArray, List.getElem_cons_succ, List.getElem_cons_zero, Act.put, List.setIfInBounds_toArray, List.set_cons_zero, List.set_cons_succ]
              refine wpAnyH_ready (rs := [1]) (by kernel_rfl) (by simp) ?_
              refine AllReadyH.cons rfl (fun K hK => ?_) ?_
              rotate_left
              · exact AllReadyH.nil
              go_simp
              skip
              refine hK.out _ _ ?_ (fun hHeld => ?_)
              · trivial
              clear hK K
              try simp only [List.getElem_toArray, List.getElem_cons_succ, List.getElem_cons_zero, Act.put, List.setIfInBounds_toArray, List.set_cons_zero, List.set_cons_succ]
              refine wpAnyH_ready (rs := [5]) (by kernel_rfl) (by simp) ?_
              refine AllReadyH.cons rfl (fun K hK => ?_) ?_
              rotate_left
              · exact AllReadyH.nil
              (refine step_cmd (by kernel_rfl) _ _ rfl B j pu cu cs HDL rfl K7.out hs7.out kk t z rfl h100.out ?_; intro pw cw w8 K8 G8; have S8 := Lib.hid (T7.out.grownB hgB3.out K7.out hs7.out _ G8.out); have O8 := Lib.hid (own_apartB K7.out O7.out OB.out _ G8.out); have hs8 := Lib.hid (gb_leA G8.out hs7.out); obtain ⟨fo, co0, co1, co2, co3, co4, go0, go1, go2, go3, go4⟩ := S8.out.facts)
              refine hK.out _ _ ?_ (fun hHeld => ?_)
              · trivial
              clear hK K
              try simp only [List.getElem_toArray, List.getElem_cons_succ, List.getElem_cons_zero, Act.put, List.setIfInBounds_toArray, List.set_cons_zero, List.set_cons_succ]
              refine wpAnyH_take (i := 6) (v := ?_) rfl (by kernel_rfl) (by kernel_rfl) (by kernel_rfl) (fun _ _ _ h => h) (Or.inl ⟨by rfl, fun w hSw => ?_⟩) (by assumption) ?_
              rotate_left
              · (try dsimp only at hSw); go_simp; (try with_reducible rfl)
              try simp only [List.getElem_toArray, List.getElem_cons_succ, List.getElem_cons_zero, Act.put, List.setIfInBounds_toArray, List.set_cons_zero, List.set_cons_succ]
              refine wpAnyH_ready (rs := [7]) (by kernel_rfl) (by simp) ?_
              refine AllReadyH.cons rfl (fun K hK => ?_) ?_
              rotate_left
              · exact AllReadyH.nil
              go_simp
              skip
              refine hK.out _ _ ?_ (fun hHeld => ?_)
              · trivial
              clear hK K
              try simp only [List.getElem_toArray, List.getElem_cons_succ, List.getElem_cons_zero, Act.put, List.setIfInBounds_toArray, List.set_cons_zero, List.set_cons_succ]
              refine wpAnyH_done (by kernel_rfl) ?_ _
              go_wp2_with fail
              have hjd := HDL.out
              have hwy : gmany gcmd (j + 1) y4 = .ok ((cs ++ [(kk, t, z)]).map cmdC, y7) := by rw [List.map_append]; exact HW7.out
              go_roundw
              case rel => exact ⟨j + 1, y7, pw, cw, cs ++ [(kk, t, z)], by go_num, by rw [List.length_append, hjd]; rfl, hjm, Lib.hid (S8.out.put4 _), Lib.hid (own_far O8.out hrw.out 4 _), Lib.hid (own_far K8.out hgB2.out 4 _), Lib.hid (HG.out.snoc HZ.out HV.out), Lib.hid (by rw [World.size_setCell]; exact hs8.out), Lib.hid hwy⟩
              case measure => simp [intOf]; omega
        · obtain rfl : j = m := by omega
          have hjm' : ¬ (j : Int) < j := by omega
          simp only [HW.out] at HGW
          subst hdl
          obtain ⟨ps, cps, hs0, -⟩ := S.out.src.row
          obtain ⟨fm, cm0, cm1, cm2, cm3, cm4, gm0, gm1, gm2, gm3, gm4⟩ := S.out.facts
          obtain ⟨t0, t1, t2, t3, t4⟩ := S.out.res.cells
          obtain ⟨u0, u1, u2, u3, u4⟩ := S.out.res.free
          have HWF := Lib.hid (many_wf HG.out HW.out)
          by_cases hy : ys = []
          · subst hy
            have HF : Hid (GW = .ok (x.1, x.2, (q : Int), ds, cs.map cmdC)) := Lib.hid (by rw [← HGW.out]; rfl)
            go_wp2_with fail
            have Z := five_fin S.out.res S.out.src.below hWl.out (.int .i64 x.1) (.int .i64 x.2) (.int .i64 (q : Int)) (.slice pv ds.length cv) (.slice pu cs.length cu)
            have ho := own_mono (own_five O.out (Nat.lt_succ_of_lt (Nat.lt_succ_self _)) (.int .i64 x.1) (.int .i64 x.2) (.int .i64 (q : Int)) (.slice pv ds.length cv) (.slice pu cs.length cu)) (Nat.le_trans hWl.out (Nat.le_add_right _ 2))
            have hk := own_mono (own_five KO.out hWB.out (.int .i64 x.1) (.int .i64 x.2) (.int .i64 (q : Int)) (.slice pv ds.length cv) (.slice pu cs.length cu)) (Nat.le_trans hWl.out (Nat.le_of_lt hWB.out))
            exact bodyPost_ret (rec_result1 rfl _ rfl Z.1) rfl (.inl ⟨x.1, x.2, (q : Int), _, _, ds, cs, HF.out, HG.out, (by intros; exact HWF.out _ (by assumption)), rfl, Z.2, ho, hk⟩)
          · have hy0 : (0 : Int) < ys.length := by have := List.length_pos_iff.2 hy; omega
            have hy1 : decide ((0 : Int) < ys.length) = true := decide_eq_true hy0
            have HF : Hid (GW = .error 3) := Lib.hid (by rw [← HGW.out]; exact if_pos hy)
            have BX := Lib.hid S.out.src.below
            go_wp2_with fail
            exact ⟨rfl, .inr ⟨3, HF.out, by decide, rfl, BX.out⟩⟩
end Go.Proofs.Ytapjjeffegnflaa.Cod
