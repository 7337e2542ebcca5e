/- What the program's Steps gives (layer 19, traces). Conditions: the lists lie in memory as their cells say; at most 1000 lists in each, each of at most 2^50 ids; ids are words of 64 bits. -/
import Derived.Test.YtlkndpofegemdaaGreatTraQ
import Derived.Test.YtlkndpofegemdaaGreatTraK
import Derived.Test.YtlkndpofegemdaaGreatReg
namespace Go.Proofs.YtlkndpofegemdaaGreat.Tra
open Go.RowKit Cmd Bat Ids Rec Wid Gra Rea Cps
set_option linter.unusedVariables false
set_option linter.unusedSimpArgs false
attribute [local go_sem] Oper.semAt_some

theorem inW {F : Fence} (hF : F = Fence.wide) {n f : Nat} {P : Program} {args : Array Value} {w : World} {R : Ending → World → Prop} (h : Calls P f args w R) : CallsIn F n P f args w R := by subst hF; exact callsIn_wide.2 h
theorem fold2 (T : Array Value) (p q : Value) (i j : Nat) : (((#[i, j] : Array Nat).zip #[p, q]).foldl (fun t x => t.setIfInBounds x.1 x.2) T) = (T.setIfInBounds i p).setIfInBounds j q := by simp
theorem box_new {w : World} {v : Value} {t : TypeId} : (w.alloc (.cells #[v] t)).cell? ⟨w.heap.size, 0, none⟩ = some v ∧ (w.alloc (.cells #[v] t)).frozen? ⟨w.heap.size, 0, none⟩ = false := ⟨cell_row (heap_alloc_new w _) rfl, free_row (heap_alloc_new w _)⟩
theorem placesG_lenB {a b : List (List Idn)} {ps : List Nat} (h : placesG b a = some ps) : ps.length = a.length := placesG_len h
set_option maxRecDepth 100000 in
set_option maxHeartbeats 4000000 in
theorem steps_in (F : Fence) (hF : F = Fence.wide) (n : Nat) (hfn : ∀ k, F.fn k) (hro : F.round = none) (hn : 9 ≤ n) (g : Nat) (v u : Value) (a b : List (List Idn)) (w : World) (h : layLL.Row w v a) (k : layLL.Row w u b) (ha : a.length ≤ 1000) (hb : b.length ≤ 1000) (haw : ∀ c ∈ a, ∀ x ∈ c, wfId x) (hbw : ∀ c ∈ b, ∀ x ∈ c, wfId x) (hal : ∀ c ∈ a, c.length ≤ 1125899906842624) (hbl : ∀ c ∈ b, c.length ≤ 1125899906842624) :
    CallsIn F n Tryz.prog 11 #[gptr g, v, u] w (RetBelow (.int .i64 (stepsG b a)) w) := by
  have h1 : 1 ≤ n := by omega
  have h2 : 1 ≤ n - 1 := by omega
  have HP := Lib.hid (inW hF (n := n - 1) (places_any v u a b w h k ha hb haw hbw hal hbl))
  have HT := Lib.hid (fun p m c W => inW hF (n := n - 1) (turned_any p m c W))
  have HF := Lib.hid hF
  have HA := Lib.hid ha
  clear hF h k hb haw hbw hal hbl ha
  refine callsIn_of_wp_marks Tryz.func11 rfl (hfn _) ?_ hro
  simp only [Tryz.ntmps11, List.size_toArray, List.length_cons, List.length_nil, Nat.reduceAdd, Nat.reduceSub, Array.replicate_succ, Array.replicate_zero, List.push_toArray, List.append_toArray, List.nil_append, List.cons_append]
  gi_wp2_with (first
    | (gi_at_call 21; refine HP.out.mono ?_; rintro E W1 ⟨o, ok, rfl, hb, hy, hno⟩; have HB := Lib.hid hb; have HY := Lib.hid hy; have HNo := Lib.hid hno; clear hb hy hno)
    | fail)
  · have hu : ok = false := by simpa using ‹(!ok) = true›
    have HE := Lib.hid (steps_none (HNo.out hu))
    gi_wp2
    exact ⟨_, results_tmp rfl _ _ _, by rw [HE.out]; rfl, HB.out⟩
  · have hq : (!ok) = false := ‹(!ok) = false›
    have hu : ok = true := by simpa using hq
    subst hu
    clear hq
    obtain ⟨ps, hps, ho⟩ := HY.out rfl
    obtain ⟨p, cap, rfl, hl, hd⟩ := (Wd.Own.row ho).parts
    have HS := Lib.hid (steps_some hps)
    have HLN := Lib.hid (placesG_len hps)
    have HS0 := Lib.hid hps
    have HO := Lib.hid ho
    clear HY HNo hps ho HP
    gi_wp2_with (first
      | (gi_at_call 23; refine (HT.out _ _ _ _).mono ?_; rintro E W2 ⟨rfl, rfl⟩)
      | fail)
    have hlb := HLN.out
    obtain ⟨X, hX⟩ : ∃ X, X = (W1.alloc (.cells #[.int .i64 0] 3)).alloc (.cells #[.slice p ps.length cap] 58) := ⟨_, rfl⟩
    have hsz : X.heap.size = W1.heap.size + 2 := by rw [hX]; simp
    have hb1 : Below W1.heap.size W1 X := by rw [hX]; exact (Cmd.below_one W1 _).trans ((Cmd.below_one (W1.alloc (.cells #[.int .i64 0] 3)) _).mono (by simp))
    have hb2 : Below (W1.heap.size + 1) (W1.alloc (.cells #[.int .i64 0] 3)) X := by rw [hX]; exact (Cmd.below_one (W1.alloc (.cells #[.int .i64 0] 3)) _).mono (by simp)
    have xh : X.heap[W1.heap.size]? = some (.cells #[.int .i64 0] 3 (0, 0)) := (hb2.block _ (Nat.lt_succ_self _)).trans (heap_alloc_new W1 _)
    have xc : X.cell? ⟨W1.heap.size, 0, none⟩ = some (.int .i64 0) := cell_row xh rfl
    have xf : X.frozen? ⟨W1.heap.size, 0, none⟩ = false := free_row xh
    have xb : X.cell? ⟨W1.heap.size + 1, 0, none⟩ = some (.slice p ps.length cap) := by
      rw [hX]
      have := (box_new (w := W1.alloc (.cells #[.int .i64 0] 3)) (v := .slice p ps.length cap) (t := 58)).1
      rwa [World.size_alloc] at this
    have hw1 := HB.out.size
    rw [← hX]
    clear hX xh hlb
    refine wpIn_rangeFunc_ownF hro h1 (gf := 42) (lb := #[.pointer (some ⟨W1.heap.size + 1, 0, none⟩)]) rfl (hfn _) (enters_of Tryz.func42 (by kernel_rfl) rfl)
      (turned_stops F (n - 1) (hfn _) hro h2 (W1.heap.size + 1) W1.heap.size ps p cap X (by have := HA.out; have h3 := placesG_lenB HS0.out; omega) xb (by
        rcases hd with h | ⟨B, off, e, hi⟩
        · exact .inl h
        · exact .inr ⟨B, off, e, hi.out.lt, Lib.hid (hi.out.on hb1)⟩))
      (fun h k => h.trans k) (Kp2.put (by omega) (by omega)) (Below.refl _ _) (fun _ => rfl)
      (fun pre W => (W.cell? ⟨W1.heap.size, 0, none⟩ = some (.int .i64 (pre.length : Int)) ∧ W.frozen? ⟨W1.heap.size, 0, none⟩ = false) ∧ Below w.heap.size w W)
      (fun _ _ _ => False)
      (OwnFrom.and (Own.from (fun s A B row hs hg hr => ⟨cell_kept hs.1 hg hr, (frozen_kept hs.1 hg hr).trans hs.2⟩) _) (ownFrom_below (Nat.le_refl _) (by omega)))
      (fun _ _ _ _ _ hs _ _ => hs)
      ⟨⟨xc, xf⟩, HB.out.trans (hb1.mono hw1)⟩
      (fun x => { tmps := #[gptr g, v, u, undef, undef, undef, .int .i64 0, .slice p ps.length cap, .bool true, .pointer (some ⟨W1.heap.size, 0, none⟩), gptr g, .bool false, .tuple #[.slice p ps.length cap, .bool true], v, u, .tuple #[.slice p ps.length cap, .bool true], .slice p ps.length cap, .bool true, .bool true, .bool false, .slice p ps.length cap, turnFn (W1.heap.size + 1), .int .i64 (x.1.1 : Int), .int .i64 (x.1.2 : Int), undef, undef, undef], defers := [] })
      ?assign ?body ?done ?stop
    case assign =>
      intro l x W K hK
      simp only [encP]
      rw [fold2]
      simp only [List.setIfInBounds_toArray, List.set_cons_succ, List.set_cons_zero]
      gi_wp2
      exact hK
    case body =>
      rintro l pre x W ⟨⟨hc, hf⟩, hB⟩ hlt
      have hp0 : (0 : Int) ≤ pre.length := by omega
      have hp1 : (pre.length : Int) + 1 ≤ 9223372036854775807 := by omega
      have HB2 := Lib.hid hB
      have HC := Lib.hid (And.intro hc hf)
      clear hB xc xf xb hd
      gi_wp2
      refine ⟨KeepsOthers.setCell _ _ _, ⟨(Below.refl W1.heap.size W).setCell (p := ⟨W1.heap.size, 0, none⟩) (Nat.le_refl _) _, Below.heap_setCell _ _ _ _ (show W1.heap.size + 1 ≠ W1.heap.size by omega)⟩, ⟨?_, by rw [World.frozen?_setCell]; exact HC.out.2⟩, HB2.out.setCell (p := ⟨W1.heap.size, 0, none⟩) hw1 _⟩
      rw [List.length_append, List.length_singleton]
      have := World.cell?_setCell_same' W ⟨W1.heap.size, 0, none⟩ (.int .i64 ((pre.length : Int) + 1)) (by rw [HC.out.1]; rfl)
      rw [show ((pre.length + 1 : Nat) : Int) = (pre.length : Int) + 1 by omega]
      exact this
    case done =>
      rintro D xs W hD rfl ⟨⟨hc, hf⟩, hB⟩ hK
      rw [prs_len] at hc
      have HB2 := Lib.hid hB
      have HS2 := Lib.hid HS.out
      clear hB xc xf xb hd
      gi_wp2
      refine ⟨by simp, .inl ⟨_, _, rfl, run_takeDeferred hK, ?_⟩⟩
      exact ⟨_, results_tmp rfl _ _ _, by rw [HS2.out]; rfl, HB2.out.trans (belowK_b (w := w) (Nat.le_refl _) W D _ _ (by omega) hK rfl rfl)⟩
    case stop =>
      rintro D c pre W _ _ h _
      exact h.elim
end Go.Proofs.YtlkndpofegemdaaGreat.Tra

/- What the program's Same gives (layer 19, traces). Conditions: the lists lie in memory as their cells say; at most 1000 lists in each, each of at most 2^50 ids; ids are words of 64 bits. -/
namespace Go.Proofs.YtlkndpofegemdaaGreat.Tra
open Go.RowKit Cmd Bat Ids Rec Wid Gra Rea Cps
set_option linter.unusedVariables false
set_option linter.unusedSimpArgs false
attribute [local go_sem] Oper.semAt_some

theorem res_bool {fn : Func} {p : Tmp} (h : fn.results = #[.cell p 4]) (tmps : Array Value) {W : World} {rc : Nat} {u : Bool} (hp : tmps.getD p undef = .pointer (some ⟨rc, 0, none⟩)) (e0 : W.cell? ⟨rc, 0, none⟩ = some (.bool u)) : (results fn tmps).run Tryz.prog W = .ok (.bool u) W := by
  rw [results_cell_one h, hp]
  go_simp
theorem set_res {W : World} {rb : Nat} {x : Value} (h : W.cell? ⟨rb, 0, none⟩ = some x) (u : Value) : (W.setCell ⟨rb, 0, none⟩ u).cell? ⟨rb, 0, none⟩ = some u := World.cell?_setCell_same' W ⟨rb, 0, none⟩ u (by rw [h]; rfl)
def noPanic (Q : Exit → Act → World → Prop) : Exit → Act → World → Prop
  | .panic _, _, _ => False
  | e, a, w => Q e a w
theorem of_noPanic {Q : Exit → Act → World → Prop} : ∀ {e : Exit} {a : Act} {w : World}, noPanic Q e a w → Q e a w
  | .panic _, _, _, h => h.elim
  | .normal, _, _, h => h
  | .ret, _, _, h => h
  | .exit _, _, _, h => h
  | .goto _, _, _, h => h
  | .outgrown, _, _, h => h
theorem code_mono {F : Fence} {n : Nat} {P : Program} {c : Code} {Q Q' : Exit → Act → World → Prop} {a : Act} {w : World} (h : c.wpIn F n P Q' a w) (hq : ∀ {e a w}, Q' e a w → Q e a w) : c.wpIn F n P Q a w := fun b k cs h1 h2 h3 => by
  obtain ⟨e, a', w', q, r⟩ := h b k cs h1 h2 h3
  exact ⟨e, a', w', hq q, r⟩
theorem region_flat {P : Program} {ops : Array Oper} {Q : Exit → Act → World → Prop} {F : Fence} (hF : F = Fence.wide) {n id : Nat} {a : Act} {w : World} (S : World → Prop) (hm : P.follows .mixedOrders = true) (hS : S w.drew) (h : S w.drew → wpAnyH P .any ops (noPanic Q) S ops.size (Array.replicate ops.size false) a w.drew) : (Code.region id ops true).wpIn F n P Q a w := by
  subst hF
  exact code_mono (wpIn_wide.2 (wp_region_held_drew hm hS h)) of_noPanic
theorem round_np {P : Program} {ops : Array Oper} {Q : Exit → Act → World → Prop} {F : Fence} (hF : F = Fence.wide) {l n id : Nat} {a : Act} {w : World} (S : World → Prop) (hm : P.follows .mixedOrders = true) (hd : (ops.toList.all fun (o : Oper) => match o.op with | .defer _ => false | _ => true) = true) (hQ : ¬ LetsOut Q) (hS : S w.drew)
    (h : S w.drew → wpAnyH P .any ops (noPanic Q) S ops.size (Array.replicate ops.size false) a w.drew) : (Code.region id ops true).wpIn (F.inRound l) n P Q a w :=
  code_mono (Rnd.region_round (Q := noPanic Q) hF S hm hd (fun ⟨a', w', h'⟩ => hQ ⟨a', w', h'⟩) hS h) of_noPanic
theorem done_np {P : Program} {ops : Array Oper} {Q : Exit → Act → World → Prop} {md : Region.Mode} {S : World → Prop} {L : Array Bool} {a : Act} {w : World} (hr : Region.ready md ops L = []) (h : Q .normal a w) : ∀ fuel, wpAnyH P md ops (noPanic Q) S fuel L a w := wpAnyH_done hr h
theorem keeps_low {W W' : World} (h : Below W.heap.size W W') : KeepsOthers W W' := KeepsOthers.of_grownBy (row := none) ⟨h.os, h.tape, h.output, h.size, fun k hk _ => h.block k hk⟩ (fun _ _ e => by cases e)
/-- What stands in memory while the lists' keys are gathered. -/
structure UsS (rs : List Rcd) (a : List (List Idn)) (B n k : Nat) (vs : List Value) (X : World) : Prop where
  box : X.heap[B + 1]? = some (.cells #[.slice (some ⟨B, 0, none⟩) n n] 61 (0, 0))
  own : X.ownsRow B 62 1 (.slice (some ⟨B, 0, none⟩) n n) n vs
  rows : ∀ i, i < k → ∃ v, vs[i]? = some v ∧ layU.Row X v (usesG (allC rs (nthL a i))) ∧ ∀ g off m c, v = .slice (some ⟨g, off, none⟩) m c → B + 1 < g
theorem UsS.on {rs : List Rcd} {a : List (List Idn)} {B n k : Nat} {vs : List Value} {X Y : World} (h : UsS rs a B n k vs X) (hb : Below X.heap.size X Y) : UsS rs a B n k vs Y :=
  ⟨(hb.block _ (Array.getElem?_eq_some_iff.1 h.box).1).trans h.box, own_below h.own hb, fun i hi => by obtain ⟨v, h1, h2, h3⟩ := h.rows i hi; exact ⟨v, h1, h2.on hb, h3⟩⟩
theorem rowU_block {X X' : World} {v : Value} {zs : List (Text × Bool)} (h : layU.Row X v zs) (hs : X.heap.size ≤ X'.heap.size) (hk : ∀ g off n c, v = .slice (some ⟨g, off, none⟩) n c → X'.heap[g]? = X.heap[g]?) : layU.Row X' v zs := by
  obtain ⟨p, c, rfl, h1, h2, h3⟩ := h
  exact ⟨p, c, rfl, h1, h2, fun hz => by
    obtain ⟨b, off, rfl, hi⟩ := h3 hz
    have e := hk b off _ c rfl
    exact ⟨b, off, rfl, Nat.lt_of_lt_of_le hi.lt hs, fun j hj => ⟨(World.cell?_of_block (w := X) (a := ⟨b, layU.pos off j, none⟩) e).trans (hi.cell j hj).1, (World.cell?_of_block (w := X) (a := ⟨b, layU.pos off j + 1, none⟩) e).trans (hi.cell j hj).2⟩⟩⟩
theorem UsS.store {rs : List Rcd} {a : List (List Idn)} {B n k : Nat} {vs : List Value} {X : World} (h : UsS rs a B n k vs X) (hk : k < n) {p : Option Addr} {m c : Nat} (hr : layU.Row X (.slice p m c) (usesG (allC rs (nthL a k)))) (hp : ∀ g off, p = some ⟨g, off, none⟩ → B + 1 < g) :
    UsS rs a B n (k + 1) (vs.set k (.slice p m c)) (X.setCell ⟨B, k, none⟩ (.slice p m c)) ∧ X.grownBy (X.setCell ⟨B, k, none⟩ (.slice p m c)) (some B) := by
  obtain ⟨ho, hg⟩ := World.ownsRow.stored h.own k (.slice p m c)
  have hl : vs.length = n := by have := h.own.1; omega
  have keep : ∀ {v : Value} {zs : List (Text × Bool)}, layU.Row X v zs → (∀ g off m c, v = .slice (some ⟨g, off, none⟩) m c → B + 1 < g) → layU.Row (X.setCell ⟨B, k, none⟩ (.slice p m c)) v zs := fun {v zs} hv hf => rowU_block hv hg.size fun g off m c e => by
    have := hf g off m c e
    exact Below.heap_setCell _ _ _ _ (show g ≠ B by omega)
  refine ⟨⟨(Below.heap_setCell _ _ _ _ (show B + 1 ≠ B by omega)).trans h.box, ho, fun i hi => ?_⟩, hg⟩
  by_cases e : i = k
  · subst e
    exact ⟨_, List.getElem?_set_self (by omega), keep hr (fun g off m' c' e => by injection e with e _ _; exact hp g off e), fun g off m' c' e => by injection e with e _ _; exact hp g off e⟩
  · obtain ⟨v, h1, h2, h3⟩ := h.rows i (by omega)
    exact ⟨v, by rw [List.getElem?_set_ne (fun e' => e e'.symm)]; exact h1, keep h2 h3, h3⟩
theorem ownU_far {Y : World} {base B n c : Nat} {p : Option Addr} {zs : List (Text × Bool)} (h : wdU.Own 91 Y base (.slice p n c) zs) (hb : B + 1 < base) : ∀ g off, p = some ⟨g, off, none⟩ → B + 1 < g := fun g off e => by
  rcases h.2 with ⟨e1, -⟩ | ⟨g', c', cur, e1, hg, -⟩
  · injection e1 with e1 _ _
    rw [e1] at e; cases e
  · injection e1 with e1 _ _
    rw [e1] at e
    injection e with e
    injection e with e _ _
    omega
set_option maxRecDepth 100000 in
set_option maxHeartbeats 16000000 in
theorem same_in {G : Nat → Nat → List Rcd → World → Prop} (HG : Graphs G) {N g : Nat} {rs : List Rcd} {w : World} (hG : G N g rs w) (F : Fence) (hF : F = Fence.wide) (n : Nat) (hfn : ∀ k, F.fn k) (hro : F.round = none) (hn : 9 ≤ n) (v u : Value) (a b : List (List Idn)) (h : layLL.Row w v a) (k : layLL.Row w u b) (ha : a.length ≤ 1000) (hb : b.length ≤ 1000) (haw : ∀ c ∈ a, ∀ x ∈ c, wfId x) (hbw : ∀ c ∈ b, ∀ x ∈ c, wfId x) (hal : ∀ c ∈ a, c.length ≤ 1125899906842624) (hbl : ∀ c ∈ b, c.length ≤ 1125899906842624) :
    CallsIn F n Tryz.prog 9 #[gptr g, v, u] w (RetBelow (.bool (sameG rs b a)) w) := by
  have h1 : 1 ≤ n := by omega
  have h2 : 1 ≤ n - 1 := by omega
  obtain ⟨LOT, ERR⟩ := HG.lot hG
  have HRT := Lib.hid (cs_right ERR)
  have hb0 := Cmd.below_one w (.cells #[.bool false] 4)
  have hx0 := heap_alloc_new w (.cells #[.bool false] 4)
  have HUs := Lib.hid (fun X (hX : Below w.heap.size w X) q l (hl : RowAt X q l) (hwl : ∀ x ∈ l, wfId x) => uses_any HG (HG.on hG (hX.mono (HG.le hG))) q l hl hwl)
  obtain ⟨pa, ca, rfl, ga, hda⟩ := h.parts
  have HP := Lib.hid (inW hF (n := n - 1) (places_any _ u a b (w.alloc (.cells #[.bool false] 4)) (h.on hb0) (k.on hb0) ha hb haw hbw hal hbl))
  have HT := Lib.hid (fun p m c W => inW hF (n := n - 1) (turned_any p m c W))
  have HF := Lib.hid hF
  have HAW := Lib.hid haw
  obtain ⟨m, hm⟩ : ∃ m, m = a.length := ⟨_, rfl⟩
  rw [← hm] at ga hda ha HP ⊢
  have HM := Lib.hid hm
  have hmk := mk_row (t := 61) (e := 62) (z := .slice none 0 0) (bytes := 24) Tryz.underlying61 (by kernel_rfl) (by kernel_rfl) (by decide) m (by omega)
  obtain ⟨MC, hMC⟩ : ∃ MC, MC = madeCells #[Value.slice none 0 0] m := ⟨_, rfl⟩
  have HMade : Hid (∀ (W : World) (base : Nat), base ≤ W.heap.size → (W.alloc (.cells MC 62)).ownsRow base 62 1 (.slice (some ⟨W.heap.size, 0, none⟩) m m) m (List.replicate m (.slice none 0 0))) := Lib.hid fun W base hb => by rw [hMC]; exact mk_own m (by omega) hb
  simp only [← hMC] at hmk
  have HB0 := Lib.hid hb0
  have HX0 := Lib.hid hx0
  clear hF h k hb haw hbw hal hbl hm hMC hb0 hx0 LOT ERR hG HG
  cases hpl : placesG b a with
  | none =>
    have HE := Lib.hid (same_none (rs := rs) hpl)
    have HPL := Lib.hid hpl
    clear hpl hmk HMade
    refine callsIn_of_wp_marks Tryz.func9 rfl (hfn _) ?_ hro
    simp only [Tryz.ntmps9, List.size_toArray, List.length_cons, List.length_nil, Nat.reduceAdd, Nat.reduceSub, Array.replicate_succ, Array.replicate_zero, List.push_toArray, List.append_toArray, List.nil_append, List.cons_append]
    gi_wp2_with (first
      | (gi_at_call 21; refine HP.out.mono ?_; rintro E W1 ⟨o, ok, rfl, hb, hy, hno⟩; obtain rfl : ok = false := (by cases ok with | false => rfl | true => (obtain ⟨ps, h, _⟩ := hy rfl; rw [HPL.out] at h; cases h)); have HB := Lib.hid hb; have hx1 := (hb.block _ (Array.getElem?_eq_some_iff.1 HX0.out).1).trans HX0.out; have c1 := cell_row (i := 0) hx1 rfl; have f1 := free_row (i := 0) hx1; have HX1 := Lib.hid hx1; clear hb hy hno hx1)
      | fail)
    exact ⟨_, res_bool rfl _ rfl (set_res c1 _), by rw [HE.out], (HB0.out.trans (HB.out.mono HB0.out.size)).setCell (p := ⟨w.heap.size, 0, none⟩) (Nat.le_refl _) _⟩
  | some ps =>
    have HPL := Lib.hid hpl
    have HYS := Lib.hid (fun h => same_yes (rs := rs) hpl h)
    have HNS := Lib.hid (fun h => same_bad (rs := rs) hpl h)
    have HLN := Lib.hid (placesG_lenB hpl)
    clear hpl
    refine callsIn_of_wp_marks Tryz.func9 rfl (hfn _) ?_ hro
    simp only [Tryz.ntmps9, List.size_toArray, List.length_cons, List.length_nil, Nat.reduceAdd, Nat.reduceSub, Array.replicate_succ, Array.replicate_zero, List.push_toArray, List.append_toArray, List.nil_append, List.cons_append]
    gi_wp2_with (first
      | (gi_at_call 21; refine HP.out.mono ?_; rintro E W1 ⟨o, ok, rfl, hb, hy, hno⟩; obtain rfl : ok = true := (by cases ok with | true => rfl | false => (have h := hno rfl; rw [HPL.out] at h; cases h)); obtain ⟨ps', hps', ho⟩ := hy rfl; obtain rfl : ps' = ps := (by rw [HPL.out] at hps'; injection hps' with e; exact e.symm); obtain ⟨p, cap, rfl, hl, hd⟩ := (Wd.Own.row ho).parts; have HB := Lib.hid hb; have HX1 := Lib.hid ((hb.block _ (Array.getElem?_eq_some_iff.1 HX0.out).1).trans HX0.out); have HDP := Lib.hid hd; clear hb hy hno ho hps' hd)
      | fail)
    clear hmk HP
    have U0 : Hid (UsS rs a W1.heap.size m 0 (List.replicate m (.slice none 0 0)) ((W1.alloc (.cells MC 62)).alloc (.cells #[.slice (some ⟨W1.heap.size, 0, none⟩) m m] 61))) := Lib.hid ⟨by
        have := heap_alloc_new (W1.alloc (.cells MC 62)) (.cells #[.slice (some ⟨W1.heap.size, 0, none⟩) m m] 61)
        rwa [World.size_alloc] at this, own_below (HMade.out W1 W1.heap.size (Nat.le_refl _)) (Cmd.below_one _ _), fun i hi => absurd hi (Nat.not_lt_zero _)⟩
    have L0 : Hid (Below W1.heap.size W1 ((W1.alloc (.cells MC 62)).alloc (.cells #[.slice (some ⟨W1.heap.size, 0, none⟩) m m] 61))) := Lib.hid ((Cmd.below_one W1 _).trans ((Cmd.below_one (W1.alloc (.cells MC 62)) _).mono (by simp)))
    clear HMade
    gi_loopw [31] (fun i X => ∃ (k : Nat) (vs : List Value), i = .int .i64 k ∧ k ≤ m ∧ Hid (UsS rs a W1.heap.size m k vs X) ∧ Hid (Below W1.heap.size W1 X)) (fun i _ => m - (intOf i).toNat)
    case atStart => exact ⟨0, _, rfl, Nat.zero_le _, U0, L0⟩
    case round =>
      clear U0 L0
      obtain ⟨k, vs, rfl, hk, HU, HL⟩ := hrel
      have k0 : (0 : Int) ≤ k := by omega
      by_cases hkm : k < m
      · have km : (k : Int) < m := by omega
        obtain ⟨B, off, rfl, HC⟩ := hda.resolve_left (by omega)
        have hkl : k < a.length := by rw [← HM.out]; exact hkm
        have HBW := Lib.hid (HB0.out.trans ((HB.out.trans (HL.out.mono HB.out.size)).mono HB0.out.size))
        obtain ⟨p0, c0, e00, r00⟩ := llAt (HC.out.on HBW.out) hkl
        have e0 : wr.cell? ⟨B, off + k, none⟩ = some (.slice p0 (nthL a k).length c0) := e00
        have HR0 : Hid (RowAt wr (.slice p0 (nthL a k).length c0) (nthL a k)) := Lib.hid r00
        clear e00 r00
        have HWF := Lib.hid (HAW.out _ (nthL_in hkl))
        have HUk := Lib.hid (fun X (hX : Below wr.heap.size wr X) => HUs.out X (HBW.out.trans (hX.mono HBW.out.size)) _ _ (HR0.out.on hX) HWF.out)
        obtain ⟨cl, hcl⟩ : ∃ cl, cl = (nthL a k).length := ⟨_, rfl⟩
        rw [← hcl] at e0 HUk
        have DY0 : Hid (Below wr.heap.size wr wr.drew) := Lib.hid (Below.refl _ _).drew
        have EY0 : Hid (UsS rs a W1.heap.size m k vs wr.drew) := Lib.hid (HU.out.on (Below.refl _ _).drew)
        have LY0 : Hid (Below W1.heap.size W1 wr.drew) := Lib.hid HL.out.drew
        clear hcl hkl hda HR0
        have HSZ : Hid (W1.heap.size + 1 < wr.heap.size) := Lib.hid (Array.getElem?_eq_some_iff.1 HU.out.box).1
        gi_wp2
        refine region_flat HF.out (fun w' => w'.cell? ⟨W1.heap.size + 1, 0, none⟩ = some (.slice (some ⟨W1.heap.size, 0, none⟩) m m)) (by kernel_rfl) (cell_row EY0.out.box rfl) (fun hHeld => ?_)
        generalize wr.drew = Y0 at DY0 EY0 LY0 hHeld ⊢
        refine ty (v := ?_) 0 (fun w hSw => ?_) ?_
        rotate_left
        · (try dsimp only at hSw); go_simp; (try with_reducible rfl)
        try simp only [List.getElem_toArray, List.getElem_cons_succ, List.getElem_cons_zero, Act.put, List.setIfInBounds_toArray, List.set_cons_zero, List.set_cons_succ]
        refine ty (v := ?_) 1 (fun w hSw => ?_) ?_
        rotate_left
        · (try dsimp only at hSw); go_simp; (try with_reducible rfl)
        try simp only [List.getElem_toArray, List.getElem_cons_succ, List.getElem_cons_zero, Act.put, List.setIfInBounds_toArray, List.set_cons_zero, List.set_cons_succ]
        refine ty (v := ?_) 2 (fun w hSw => ?_) ?_
        rotate_left
        · (try dsimp only at hSw); go_simp; (try with_reducible rfl)
        try simp only [List.getElem_toArray, List.getElem_cons_succ, List.getElem_cons_zero, Act.put, List.setIfInBounds_toArray, List.set_cons_zero, List.set_cons_succ]
        refine ty (v := ?_) 3 (fun w hSw => ?_) ?_
        rotate_left
        · (try dsimp only at hSw); go_simp; (try with_reducible rfl)
        try simp only [List.getElem_toArray, List.getElem_cons_succ, List.getElem_cons_zero, Act.put, List.setIfInBounds_toArray, List.set_cons_zero, List.set_cons_succ]
        refine tr 4 (fun K hK => ?_)
        go_simp
        (go_at_call 22; (with_reducible refine (HUk.out _ DY0.out).mono ?_); rintro E Y1 ⟨o1, rfl, ho1, hb1⟩)
        obtain ⟨p1, c1', rfl, -, -⟩ := (Wd.Own.row ho1).parts
        have EY1 := Lib.hid (EY0.out.on hb1)
        have LY1 := Lib.hid (LY0.out.trans (hb1.mono LY0.out.size))
        have HS1 := Lib.hid (EY1.out.store hkm (Wd.Own.row ho1) (ownU_far ho1 (by have h1 := HSZ.out; have h2 := DY0.out.size; omega)))
        have hvl : vs.length = m := by have := EY1.out.own.1; omega
        have c4 : Y1.cell? ⟨W1.heap.size, k, none⟩ = some (vs[k]'(by omega)) := own_cellP EY1.out.own (List.getElem?_eq_getElem _)
        have c5 : Y1.frozen? ⟨W1.heap.size, k, none⟩ = false := own_free EY1.out.own
        clear ho1 hb1
        generalize vs[k]'(by omega) = vk at c4
        generalize (usesG (allC rs (nthL a k))).length = ul at HS1 ⊢
        refine hK.out _ _ ?_ (fun hHeld => ?_)
        · exact cell_row EY1.out.box rfl
        clear hK K
        try simp only [List.getElem_toArray, List.getElem_cons_succ, List.getElem_cons_zero, Act.put, List.setIfInBounds_toArray, List.set_cons_zero, List.set_cons_succ]
        refine ty (v := ?_) 5 (fun w hSw => ?_) ?_
        rotate_left
        · (try dsimp only at hSw); go_simp; (try with_reducible rfl)
        try simp only [List.getElem_toArray, List.getElem_cons_succ, List.getElem_cons_zero, Act.put, List.setIfInBounds_toArray, List.set_cons_zero, List.set_cons_succ]
        refine tr 6 (fun K hK => ?_)
        go_simp
        refine hK.out _ _ ?_ (fun hHeld => ?_)
        · exact cell_row HS1.out.1.box rfl
        clear hK K
        try simp only [List.getElem_toArray, List.getElem_cons_succ, List.getElem_cons_zero, Act.put, List.setIfInBounds_toArray, List.set_cons_zero, List.set_cons_succ]
        refine done_np (by kernel_rfl) ?_ _
        gi_wp2
        go_roundw
        case rel => exact ⟨k + 1, _, by go_num, by omega, Lib.hid HS1.out.1, Lib.hid (LY1.out.trans (turn_below HS1.out.2 (Nat.le_refl _) LY1.out.size))⟩
        case measure => simp [intOf]; omega
      · have km : ¬ (k : Int) < m := by omega
        have hke : k = m := by omega
        gi_wp2_with (first
          | (gi_at_call 23; refine (HT.out _ _ _ _).mono ?_; rintro E W2 ⟨rfl, rfl⟩)
          | fail)
        have hU := HU.out
        rw [hke] at hU
        have hb1 := Cmd.below_one wr (.cells #[.slice p ps'.length cap] 58)
        obtain ⟨X, hX⟩ : ∃ X, X = wr.alloc (.cells #[.slice p ps'.length cap] 58) := ⟨_, rfl⟩
        rw [← hX] at hb1
        have xb : X.cell? ⟨wr.heap.size, 0, none⟩ = some (.slice p ps'.length cap) := by rw [hX]; exact cell_row (heap_alloc_new wr _) rfl
        have hsz : X.heap.size = wr.heap.size + 1 := by rw [hX]; simp
        have HUX := Lib.hid (hU.on hb1)
        have hlX := HL.out.trans (hb1.mono HL.out.size)
        have HLX := Lib.hid hlX
        have HWX := Lib.hid (HB0.out.trans ((HB.out.trans (hlX.mono HB.out.size)).mono HB0.out.size))
        have hx2 := (hlX.block _ (Array.getElem?_eq_some_iff.1 HX1.out).1).trans HX1.out
        have HX2 := Lib.hid hx2
        have hs1 := HL.out.size
        have hs2 := HWX.out.size
        have hps : ps'.length = m := by rw [HLN.out, HM.out]
        have HPS := Lib.hid hps
        rw [← hX]
        clear hX hU HU hda HUs hlX hx2 hps
        refine wpIn_rangeFunc_ownF hro h1 (gf := 42) (lb := #[.pointer (some ⟨wr.heap.size, 0, none⟩)]) rfl (hfn _) (enters_of Tryz.func42 (by kernel_rfl) rfl)
          (turned_stops F (n - 1) (hfn _) hro h2 wr.heap.size W1.heap.size ps' p cap X (by have := HPS.out; omega) xb (by
            rcases HDP.out with h | ⟨B, off, e, hi⟩
            · exact .inl h
            · exact .inr ⟨B, off, e, hi.out.lt, Lib.hid (hi.out.on HLX.out)⟩))
          (fun h k => h.trans k) (Kp2.put (by omega) (by omega)) (Below.refl _ _) (fun _ => rfl)
          (fun pre W => Below X.heap.size X W ∧ ∀ y ∈ pre, confG rs (nthL a y.1.1) (nthL a y.1.2) = false)
          (fun c pre W => (W.cell? ⟨w.heap.size, 0, none⟩ = some (.bool false)) ∧ (Below w.heap.size w W ∧ (c = .ret ∧ ∃ y ∈ pre, confG rs (nthL a y.1.1) (nthL a y.1.2) = true)))
          (OwnFrom.and (ownFrom_below (Nat.le_refl _) (Nat.le_refl _)) (fun s A B row hs _ _ => hs))
          (fun c => OwnFrom.and (Own.from (fun s A B row hs hg hr => cell_kept hs hg hr) _) (OwnFrom.and (ownFrom_below (Nat.le_refl _) hs2) (fun s A B row hs _ _ => hs)))
          ⟨Below.refl _ _, fun y hy => by cases hy⟩
          (fun x => { tmps := #[gptr g, .slice pa m ca, u, undef, undef, undef, .pointer (some ⟨w.heap.size, 0, none⟩), .slice p ps'.length cap, .bool true, .pointer (some ⟨W1.heap.size + 1, 0, none⟩), u10, u11, .int .i64 (x.1.1 : Int), .int .i64 (x.1.2 : Int), .tuple #[.slice p ps'.length cap, .bool true], .slice pa m ca, u, .tuple #[.slice p ps'.length cap, .bool true], .slice p ps'.length cap, .bool true, gptr g, .bool false, .bool false, .bool true, .bool false, .bool false, .slice pa m ca, .int .i64 m, .slice (some ⟨W1.heap.size, 0, none⟩) m m, .slice pa m ca, .int .i64 m, .int .i64 m, .bool false, u33, u34, u35, u36, u37, u38, u39, u40, u41, u42, .slice p ps'.length cap, turnFn wr.heap.size, .int .i64 (x.1.1 : Int), .int .i64 (x.1.2 : Int), undef, undef, undef, undef, undef, undef, undef, undef, undef], defers := [] })
          ?assign ?body ?done ?stop
        case assign =>
          intro l x W K hK
          simp only [encP]
          rw [fold2]
          simp only [List.setIfInBounds_toArray, List.set_cons_succ, List.set_cons_zero]
          gi_wp2
          exact hK
        case body =>
          rintro l pre x W ⟨hB, hno⟩ hlt
          obtain ⟨⟨i, k⟩, hik, hkp, hturn⟩ := x
          have hkm : k < m := by rw [← HPS.out]; exact hkp
          have him : i < m := by have : i < k := hik; omega
          have HU := Lib.hid (HUX.out.on hB)
          obtain ⟨v1, hv1, hr1, -⟩ := HU.out.rows i him
          obtain ⟨v2, hv2, hr2, -⟩ := HU.out.rows k hkm
          obtain ⟨p1, c1, rfl, -, -⟩ := hr1.parts
          obtain ⟨p2, c2, rfl, -, -⟩ := hr2.parts
          have hC := conf_uses (a := nthL a i) (b := nthL a k) HRT.out
          have HCl := Lib.hid (fun Y (hY : Below W.heap.size W Y) => clash_any _ _ _ _ Y (hr1.on hY) (hr2.on hY))
          rw [← hC] at HCl
          have d0 : W.drew.cell? ⟨W1.heap.size + 1, 0, none⟩ = some (.slice (some ⟨W1.heap.size, 0, none⟩) m m) := cell_row HU.out.box rfl
          have d1 : W.drew.cell? ⟨W1.heap.size, i, none⟩ = some (.slice p1 (usesG (allC rs (nthL a i))).length c1) := own_cellP HU.out.own hv1
          have d2 : W.drew.cell? ⟨W1.heap.size, k, none⟩ = some (.slice p2 (usesG (allC rs (nthL a k))).length c2) := own_cellP HU.out.own hv2
          have DY0 : Hid (Below W.heap.size W W.drew) := Lib.hid (Below.refl _ _).drew
          have h11 : 1 ≤ n - 1 - 1 := by omega
          have i0 : (0 : Int) ≤ i := by omega
          have k0' : (0 : Int) ≤ k := by omega
          have im : (i : Int) < m := by omega
          have kmm : (k : Int) < m := by omega
          have HNO := Lib.hid hno
          have HBB := Lib.hid hB
          have HXC : Hid (X.cell? ⟨w.heap.size, 0, none⟩ = some (.bool false)) := Lib.hid (cell_row HX2.out rfl)
          have HTY : Hid (∃ y : TP ps', y.1 = (i, k)) := Lib.hid ⟨⟨(i, k), hik, hkp, hturn⟩, rfl⟩
          clear hv1 hv2 hr1 hr2 hC hno hB xb
          generalize (usesG (allC rs (nthL a i))).length = n1 at d1 HCl
          generalize (usesG (allC rs (nthL a k))).length = n2 at d2 HCl
          by_cases hcf : confG rs (nthL a i) (nthL a k) = true
          · rw [hcf] at HCl
            have HCF := Lib.hid hcf
            clear hcf
            gi_wp2
            refine round_np HF.out (fun w' => w'.cell? ⟨W1.heap.size + 1, 0, none⟩ = some (.slice (some ⟨W1.heap.size, 0, none⟩) m m) ∧ w'.cell? ⟨W1.heap.size, i, none⟩ = some (.slice p1 n1 c1) ∧ w'.cell? ⟨W1.heap.size, k, none⟩ = some (.slice p2 n2 c2)) (by kernel_rfl) (by kernel_rfl) (by rintro ⟨a', w', h⟩; exact h) ⟨d0, d1, d2⟩ (fun hHeld => ?_)
            generalize W.drew = Y0 at DY0 hHeld d0 d1 d2 ⊢
            refine ty (v := ?_) 0 (fun w hSw => ?_) ?_
            rotate_left
            · (try dsimp only at hSw); go_simp; (try with_reducible rfl)
            try simp only [List.getElem_toArray, List.getElem_cons_succ, List.getElem_cons_zero, Act.put, List.setIfInBounds_toArray, List.set_cons_zero, List.set_cons_succ]
            refine ty (v := ?_) 1 (fun w hSw => ?_) ?_
            rotate_left
            · (try dsimp only at hSw); go_simp; (try with_reducible rfl)
            try simp only [List.getElem_toArray, List.getElem_cons_succ, List.getElem_cons_zero, Act.put, List.setIfInBounds_toArray, List.set_cons_zero, List.set_cons_succ]
            refine ty (v := ?_) 2 (fun w hSw => ?_) ?_
            rotate_left
            · (try dsimp only at hSw); go_simp; (try with_reducible rfl)
            try simp only [List.getElem_toArray, List.getElem_cons_succ, List.getElem_cons_zero, Act.put, List.setIfInBounds_toArray, List.set_cons_zero, List.set_cons_succ]
            refine ty (v := ?_) 3 (fun w hSw => ?_) ?_
            rotate_left
            · (try dsimp only at hSw); go_simp; (try with_reducible rfl)
            try simp only [List.getElem_toArray, List.getElem_cons_succ, List.getElem_cons_zero, Act.put, List.setIfInBounds_toArray, List.set_cons_zero, List.set_cons_succ]
            refine ty (v := ?_) 4 (fun w hSw => ?_) ?_
            rotate_left
            · (try dsimp only at hSw); go_simp; (try with_reducible rfl)
            try simp only [List.getElem_toArray, List.getElem_cons_succ, List.getElem_cons_zero, Act.put, List.setIfInBounds_toArray, List.set_cons_zero, List.set_cons_succ]
            refine ty (v := ?_) 5 (fun w hSw => ?_) ?_
            rotate_left
            · (try dsimp only at hSw); go_simp; (try with_reducible rfl)
            try simp only [List.getElem_toArray, List.getElem_cons_succ, List.getElem_cons_zero, Act.put, List.setIfInBounds_toArray, List.set_cons_zero, List.set_cons_succ]
            refine ty (v := ?_) 6 (fun w hSw => ?_) ?_
            rotate_left
            · (try dsimp only at hSw); go_simp; (try with_reducible rfl)
            try simp only [List.getElem_toArray, List.getElem_cons_succ, List.getElem_cons_zero, Act.put, List.setIfInBounds_toArray, List.set_cons_zero, List.set_cons_succ]
            refine ty (v := ?_) 7 (fun w hSw => ?_) ?_
            rotate_left
            · (try dsimp only at hSw); go_simp; (try with_reducible rfl)
            try simp only [List.getElem_toArray, List.getElem_cons_succ, List.getElem_cons_zero, Act.put, List.setIfInBounds_toArray, List.set_cons_zero, List.set_cons_succ]
            refine tr 8 (fun K hK => ?_)
            go_simp
            (go_at_call 24; (with_reducible refine (HCl.out _ DY0.out).mono ?_); rintro E Y1 ⟨rfl, hb1⟩)
            have DY1 := Lib.hid (DY0.out.trans (hb1.mono DY0.out.size))
            have HSS : Hid (Y1.cell? ⟨W1.heap.size + 1, 0, none⟩ = some (.slice (some ⟨W1.heap.size, 0, none⟩) m m) ∧ Y1.cell? ⟨W1.heap.size, i, none⟩ = some (.slice p1 n1 c1) ∧ Y1.cell? ⟨W1.heap.size, k, none⟩ = some (.slice p2 n2 c2)) := Lib.hid ⟨(hb1.cell (p := ⟨W1.heap.size + 1, 0, none⟩) (World.block_lt_of_cell? _ _ d0)).trans d0, (hb1.cell (p := ⟨W1.heap.size, i, none⟩) (World.block_lt_of_cell? _ _ d1)).trans d1, (hb1.cell (p := ⟨W1.heap.size, k, none⟩) (World.block_lt_of_cell? _ _ d2)).trans d2⟩
            clear hb1 d0 d1 d2
            refine hK.out _ _ ?_ (fun hHeld => ?_)
            · exact HSS.out
            clear hK K
            try simp only [List.getElem_toArray, List.getElem_cons_succ, List.getElem_cons_zero, Act.put, List.setIfInBounds_toArray, List.set_cons_zero, List.set_cons_succ]
            refine done_np (by kernel_rfl) ?_ _
            have HBY := Lib.hid (HBB.out.trans (DY1.out.mono HBB.out.size))
            have xc := (HBY.out.cell (p := ⟨w.heap.size, 0, none⟩) (World.block_lt_of_cell? _ _ HXC.out)).trans HXC.out
            have xf : Y1.frozen? ⟨w.heap.size, 0, none⟩ = false := free_row ((HBY.out.block _ (Array.getElem?_eq_some_iff.1 HX2.out).1).trans HX2.out)
            have HXc := Lib.hid xc
            gi_wp2
            exact ⟨(keeps_low DY1.out).trans (KeepsOthers.setCell _ _ _), set_res HXc.out _, (HWX.out.trans (HBY.out.mono HWX.out.size)).setCell (p := ⟨w.heap.size, 0, none⟩) (Nat.le_refl _) _, rfl, ⟨(i, k), hik, hkp, hturn⟩, List.mem_append_right _ (List.mem_singleton.2 rfl), HCF.out⟩
          · have hcf' : confG rs (nthL a i) (nthL a k) = false := by simpa using hcf
            rw [hcf'] at HCl
            have HCF := Lib.hid hcf'
            have HLW : Hid (W1.heap.size ≤ W.heap.size ∧ wr.heap.size < W.heap.size) := Lib.hid ⟨by have := HBB.out.size; omega, by have := HBB.out.size; omega⟩
            clear hcf hcf'
            gi_wp2
            refine round_np HF.out (fun w' => w'.cell? ⟨W1.heap.size + 1, 0, none⟩ = some (.slice (some ⟨W1.heap.size, 0, none⟩) m m) ∧ w'.cell? ⟨W1.heap.size, i, none⟩ = some (.slice p1 n1 c1) ∧ w'.cell? ⟨W1.heap.size, k, none⟩ = some (.slice p2 n2 c2)) (by kernel_rfl) (by kernel_rfl) (by rintro ⟨a', w', h⟩; exact h) ⟨d0, d1, d2⟩ (fun hHeld => ?_)
            generalize W.drew = Y0 at DY0 hHeld d0 d1 d2 ⊢
            refine ty (v := ?_) 0 (fun w hSw => ?_) ?_
            rotate_left
            · (try dsimp only at hSw); go_simp; (try with_reducible rfl)
            try simp only [List.getElem_toArray, List.getElem_cons_succ, List.getElem_cons_zero, Act.put, List.setIfInBounds_toArray, List.set_cons_zero, List.set_cons_succ]
            refine ty (v := ?_) 1 (fun w hSw => ?_) ?_
            rotate_left
            · (try dsimp only at hSw); go_simp; (try with_reducible rfl)
            try simp only [List.getElem_toArray, List.getElem_cons_succ, List.getElem_cons_zero, Act.put, List.setIfInBounds_toArray, List.set_cons_zero, List.set_cons_succ]
            refine ty (v := ?_) 2 (fun w hSw => ?_) ?_
            rotate_left
            · (try dsimp only at hSw); go_simp; (try with_reducible rfl)
            try simp only [List.getElem_toArray, List.getElem_cons_succ, List.getElem_cons_zero, Act.put, List.setIfInBounds_toArray, List.set_cons_zero, List.set_cons_succ]
            refine ty (v := ?_) 3 (fun w hSw => ?_) ?_
            rotate_left
            · (try dsimp only at hSw); go_simp; (try with_reducible rfl)
            try simp only [List.getElem_toArray, List.getElem_cons_succ, List.getElem_cons_zero, Act.put, List.setIfInBounds_toArray, List.set_cons_zero, List.set_cons_succ]
            refine ty (v := ?_) 4 (fun w hSw => ?_) ?_
            rotate_left
            · (try dsimp only at hSw); go_simp; (try with_reducible rfl)
            try simp only [List.getElem_toArray, List.getElem_cons_succ, List.getElem_cons_zero, Act.put, List.setIfInBounds_toArray, List.set_cons_zero, List.set_cons_succ]
            refine ty (v := ?_) 5 (fun w hSw => ?_) ?_
            rotate_left
            · (try dsimp only at hSw); go_simp; (try with_reducible rfl)
            try simp only [List.getElem_toArray, List.getElem_cons_succ, List.getElem_cons_zero, Act.put, List.setIfInBounds_toArray, List.set_cons_zero, List.set_cons_succ]
            refine ty (v := ?_) 6 (fun w hSw => ?_) ?_
            rotate_left
            · (try dsimp only at hSw); go_simp; (try with_reducible rfl)
            try simp only [List.getElem_toArray, List.getElem_cons_succ, List.getElem_cons_zero, Act.put, List.setIfInBounds_toArray, List.set_cons_zero, List.set_cons_succ]
            refine ty (v := ?_) 7 (fun w hSw => ?_) ?_
            rotate_left
            · (try dsimp only at hSw); go_simp; (try with_reducible rfl)
            try simp only [List.getElem_toArray, List.getElem_cons_succ, List.getElem_cons_zero, Act.put, List.setIfInBounds_toArray, List.set_cons_zero, List.set_cons_succ]
            refine tr 8 (fun K hK => ?_)
            go_simp
            (go_at_call 24; (with_reducible refine (HCl.out _ DY0.out).mono ?_); rintro E Y1 ⟨rfl, hb1⟩)
            have DY1 := Lib.hid (DY0.out.trans (hb1.mono DY0.out.size))
            have HSS : Hid (Y1.cell? ⟨W1.heap.size + 1, 0, none⟩ = some (.slice (some ⟨W1.heap.size, 0, none⟩) m m) ∧ Y1.cell? ⟨W1.heap.size, i, none⟩ = some (.slice p1 n1 c1) ∧ Y1.cell? ⟨W1.heap.size, k, none⟩ = some (.slice p2 n2 c2)) := Lib.hid ⟨(hb1.cell (p := ⟨W1.heap.size + 1, 0, none⟩) (World.block_lt_of_cell? _ _ d0)).trans d0, (hb1.cell (p := ⟨W1.heap.size, i, none⟩) (World.block_lt_of_cell? _ _ d1)).trans d1, (hb1.cell (p := ⟨W1.heap.size, k, none⟩) (World.block_lt_of_cell? _ _ d2)).trans d2⟩
            clear hb1 d0 d1 d2
            refine hK.out _ _ ?_ (fun hHeld => ?_)
            · exact HSS.out
            clear hK K
            try simp only [List.getElem_toArray, List.getElem_cons_succ, List.getElem_cons_zero, Act.put, List.setIfInBounds_toArray, List.set_cons_zero, List.set_cons_succ]
            refine done_np (by kernel_rfl) ?_ _
            gi_wp2
            exact ⟨keeps_low DY1.out, ⟨DY1.out.mono HLW.out.1, DY1.out.block _ HLW.out.2⟩, HBB.out.trans (DY1.out.mono HBB.out.size), fun y hy => by
              rcases List.mem_append.1 hy with h | h
              · exact HNO.out y h
              · rw [List.mem_singleton.1 h]; exact HCF.out⟩
        case done =>
          rintro D xs W hD rfl ⟨hB, hall⟩ hK
          have xc : W.cell? ⟨w.heap.size, 0, none⟩ = some (.bool false) := (hB.cell (p := ⟨w.heap.size, 0, none⟩) (Array.getElem?_eq_some_iff.1 HX2.out).1).trans (cell_row HX2.out rfl)
          have xf : W.frozen? ⟨w.heap.size, 0, none⟩ = false := free_row ((hB.block _ (Array.getElem?_eq_some_iff.1 HX2.out).1).trans HX2.out)
          have HXc := Lib.hid xc
          have HBB := Lib.hid (HWX.out.trans (hB.mono HWX.out.size))
          have HE := Lib.hid (HYS.out fun i k h1 h2 h3 => hall ⟨(i, k), h1, h2, h3⟩ (mem_prs (ps := ps') ⟨(i, k), h1, h2, h3⟩ _ (Nat.lt_trans h1 h2)))
          clear hB hall xb
          gi_wp2
          have hK2 := (KeepsOthers.setCell W ⟨w.heap.size, 0, none⟩ (.bool true)).same D _ hK rfl
          refine ⟨by simp, .inl ⟨_, _, rfl, run_takeDeferred hK2, ?_⟩⟩
          exact ⟨_, res_bool rfl _ rfl (cell_kept (set_res HXc.out (.bool true)) (grownBy_putObj' _ D _) (fun r e => by cases e; exact ⟨_, hK2, rfl⟩)), by rw [HE.out], (HBB.out.setCell (p := ⟨w.heap.size, 0, none⟩) (Nat.le_refl _) _).trans (belowK_b (w := w) (Nat.le_refl _) _ D _ _ (by omega) hK2 rfl rfl)⟩
        case stop =>
          rintro D c pre W hD - ⟨xc, hB, rfl, y, hy, hc⟩ hK
          have HE := Lib.hid (HNS.out fun h => by
            have := h y.1.1 y.1.2 y.2.1 y.2.2.1 y.2.2.2
            rw [hc] at this; cases this)
          have HXc := Lib.hid xc
          have HBB := Lib.hid hB
          clear hB xb xc hc
          gi_wp2
          refine ⟨by simp, .inl ⟨_, _, rfl, run_takeDeferred hK, ?_⟩⟩
          exact ⟨_, res_bool rfl _ rfl (cell_kept HXc.out (grownBy_putObj' _ D _) (fun r e => by cases e; exact ⟨_, hK, rfl⟩)), by rw [HE.out], HBB.out.trans (belowK_b (w := w) (Nat.le_refl _) _ D _ _ (by omega) hK rfl rfl)⟩
end Go.Proofs.YtlkndpofegemdaaGreat.Tra
