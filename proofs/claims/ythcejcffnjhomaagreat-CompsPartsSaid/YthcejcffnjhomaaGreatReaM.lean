/- What the developers' graph answers, of nil too, as reach asks it; what reached and follow hand out; From (layer 16, reach). Conditions: those in each statement. -/
import Derived.Test.YthcejcffnjhomaaGreatReaI
import Derived.Test.YthcejcffnjhomaaGreatReaA
import Derived.Test.YthcejcffnjhomaaGreatReaW
import Derived.Test.YthcejcffnjhomaaGreatSetD
import Derived.Test.YthcejcffnjhomaaGreatGrbA
namespace Go.Proofs.YthcejcffnjhomaaGreat.Rea
open Go.RowKit Cmd Bat Ids Rec Wid Gra Sqm Cps Go.Shelf
set_option linter.unusedVariables false
set_option linter.unusedSimpArgs false

/-! ### Plain -/
theorem rchS_iff {rs : List Rcd} {a z : Idn} : RchS (dpG rs) a z ↔ Rch rs a z := by
  constructor
  · intro h
    induction h with
    | here => exact .here _
    | more _ hd ih => exact .more ih hd
  · intro h
    induction h with
    | here => exact .here _
    | more _ hd ih => exact .more ih hd
theorem from_all {rs : List Rcd} {l ss : List Idn} (h : AllS (dpG rs) l ss) : srt ss = fromG rs l := rise_eq (srt_rise _) (from_rise _ _) fun z => by
  rw [srt_mem, from_mem, h.2]
  exact ⟨fun ⟨a, ha, hr⟩ => ⟨a, ha, rchS_iff.1 hr⟩, fun ⟨a, ha, hr⟩ => ⟨a, ha, rchS_iff.2 hr⟩⟩
theorem from_in {rs : List Rcd} {l ss : List Idn} (h : AllS (dpG rs) l ss) (z : Idn) : z ∈ ss ↔ z ∈ fromG rs l := by rw [← from_all h, srt_mem]
theorem reach_in {rs : List Rcd} {l : List Idn} : ∀ a ∈ l, ∀ z, RchS (dpG rs) a z → z ∈ l ++ depsG rs := fun a ha z h => by
  cases h with
  | here => exact List.mem_append_left _ ha
  | more _ hd => exact List.mem_append_right _ (dp_sub hd)
theorem deps_len {rs : List Rcd} (h : Lot rs ∧ gErr rs = 0) : (depsG rs).length ≤ 16000 := by
  have key : ∀ l : List Rcd, (∀ r ∈ l, r.2.2.1.length ≤ 16) → (depsG l).length ≤ l.length * 16 := fun l => by
    induction l with
    | nil => intro _; exact Nat.le_refl _
    | cons r t ih =>
      intro hh
      have h1 := hh r List.mem_cons_self
      have h2 := ih fun x hx => hh x (List.mem_cons_of_mem _ hx)
      show (r.2.2.1 ++ depsG t).length ≤ _
      rw [List.length_append, List.length_cons]; omega
  have h1 := key rs fun r hr => (lot_ok h.2 hr).2
  have h2 := h.1.few
  omega
theorem deps_wf {rs : List Rcd} (h : Lot rs) : ∀ x ∈ depsG rs, wfId x := fun x hx => by
  obtain ⟨r, hr, hm⟩ := List.mem_flatMap.1 hx
  exact (h.wf r hr).deps x hm
theorem reach_wf {rs : List Rcd} (h : Lot rs) {l : List Idn} (hw : ∀ x ∈ l, wfId x) : ∀ z ∈ l ++ depsG rs, wfId z := fun z hz => (List.mem_append.1 hz).elim (hw z) (deps_wf h z)

/-! ### What a graph answers -/
/-- A record is told: its Deps in a row of the call's own. -/
def GivesD (ds : List Idn) (w : World) (E : Ending) (w' : World) : Prop :=
  ∃ (a b q : Int) (p : Option Addr) (n c : Nat) (p' : Option Addr) (n' c' : Nat) (ok : Bool), E = .returned (.tuple #[.agg #[.int .i64 a, .int .i64 b, .int .i64 q, .slice p n c, .slice p' n' c'], .bool ok]) ∧ Owns w' w.heap.size (.slice p n c) ds ∧ Below w.heap.size w w'
/-- What is asked of a graph, or of nil, from a world on. -/
structure Asks (gp : Option Addr) (rs : List Rcd) (w : World) : Prop where
  lot : Lot rs ∧ gErr rs = 0
  ids : ∀ W, Below w.heap.size w W → Calls Tryz.prog 55 #[.pointer gp] W (GivesRow (gIds rs) W)
  miss : ∀ W, Below w.heap.size w W → Calls Tryz.prog 57 #[.pointer gp] W (GivesRow (gMiss rs) W)
  has : ∀ W (a b : Int), Below w.heap.size w W → wfId (a, b) → Calls Tryz.prog 38 #[.pointer gp, .agg #[.int .i64 a, .int .i64 b]] W (RetBelow (.bool (decide ((a, b) ∈ idsG rs))) W)
  recd : ∀ W (a b : Int), Below w.heap.size w W → wfId (a, b) → Calls Tryz.prog 61 #[.pointer gp, .agg #[.int .i64 a, .int .i64 b]] W (GivesD (dpG rs (a, b)) W)
  users : ∀ W (a b : Int), Below w.heap.size w W → wfId (a, b) → Calls Tryz.prog 30 #[.pointer gp, .agg #[.int .i64 a, .int .i64 b]] W (GivesOwned (gUsers rs (a, b)) W)
theorem Asks.on {gp : Option Addr} {rs : List Rcd} {w w' : World} (A : Asks gp rs w) (hb : Below w.heap.size w w') : Asks gp rs w' :=
  ⟨A.lot, fun W h => A.ids W (hb.trans (h.mono hb.size)), fun W h => A.miss W (hb.trans (h.mono hb.size)), fun W a b h => A.has W a b (hb.trans (h.mono hb.size)), fun W a b h => A.recd W a b (hb.trans (h.mono hb.size)), fun W a b h => A.users W a b (hb.trans (h.mono hb.size))⟩
theorem given_no {w w' : World} {E : Ending} (h : RetBelow (.tuple #[zeroRec, .bool false]) w E w') : GivesD [] w E w' := ⟨0, 0, 0, none, 0, 0, none, 0, 0, false, h.1, World.ownsRow_nil _ _ _ _, h.2⟩
theorem Asks.graph {G : Nat → Nat → List Rcd → World → Prop} (HG : Graphs G) {N g : Nat} {rs : List Rcd} {w : World} (h : G N g rs w) : Asks (some ⟨g, 0, none⟩) rs w := by
  have up : ∀ {W}, Below w.heap.size w W → G N g rs W := fun hb => HG.on h (hb.mono (HG.le h))
  refine ⟨HG.lot h, fun W hb => HG.ids (up hb), fun W hb => HG.miss (up hb), fun W a b hb hw => HG.has (up hb) a b hw, fun W a b hb hw => ?_, fun W a b hb hw => HG.usersO (up hb) a b hw⟩
  cases hf : rs.find? (fun r => decide (r.1 = (a, b))) with
  | none =>
    have hn : (a, b) ∉ idsG rs := fun hm => by
      obtain ⟨r, hr, e⟩ := List.mem_map.1 hm
      have := List.find?_eq_none.1 hf r hr
      simp only [decide_eq_true_eq] at this
      exact this e
    rw [dp_no hn]
    exact (HG.recN (up hb) a b hw hn).mono fun _ _ h => given_no h
  | some r =>
    have hr := List.mem_of_find?_eq_some hf
    have e : r.1 = (a, b) := by
      have := List.find?_some hf
      simpa using this
    have hd : dpG rs (a, b) = r.2.2.1 := by unfold dpG; rw [hf]
    rw [hd]
    refine (HG.recY (up hb) a b hw r hr e).mono fun E w' h => ?_
    obtain ⟨v, u, rfl, h1, ⟨p', c', rfl, -⟩, h3⟩ := h
    obtain ⟨p, n, c, rfl⟩ := own_is h1
    exact ⟨_, _, _, p, n, c, p', _, c', true, rfl, h1, h3⟩
theorem Asks.nil {G : Nat → Nat → List Rcd → World → Prop} (HG : Graphs G) (w : World) : Asks none [] w :=
  ⟨⟨⟨fun x hx => (by cases hx), by decide, fun r hr => (by cases hr)⟩, by decide⟩, fun W _ => HG.nids W, fun W _ => HG.nmiss W, fun W a b _ _ => HG.nhas W a b, fun W a b _ _ => (HG.nrec W a b).mono fun _ _ h => given_no h, fun W a b _ _ => HG.nusersO W a b⟩

/-! ### follow, reached -/
abbrev flw (bl bn : Nat) : Value := .func (.func 91) #[] #[.pointer (some ⟨bl, 0, none⟩), .pointer (some ⟨bn, 0, none⟩)]
theorem follow_any (p : Option Addr) (n c fn : Nat) (bs lb : Array Value) (w : World) : Calls Tryz.prog 56 #[.slice p n c, .func (.func fn) bs lb] w fun E w' => E = .returned (flw w.heap.size (w.heap.size + 1)) ∧ w' = (w.alloc (.cells #[.slice p n c] 35)).alloc (.cells #[.func (.func fn) bs lb] 58) := by
  go_enter Tryz.func56, Tryz.ntmps56
  go_wp2
  go_ret
  exact ⟨by simp, rfl⟩
theorem reached_any (gp p : Option Addr) (n c : Nat) (w : World) : Calls Tryz.prog 74 #[.pointer gp, .slice p n c] w fun E w' => E = .returned (flw (w.heap.size + 1) (w.heap.size + 1 + 1)) ∧
    w' = ((w.alloc (.cells #[.pointer gp] 27)).alloc (.cells #[.slice p n c] 35)).alloc (.cells #[.func (.func 114) #[] #[.pointer (some ⟨w.heap.size, 0, none⟩)]] 58) := by
  go_enter Tryz.func74, Tryz.ntmps74
  go_wp2_with (go_at_call 56; refine (follow_any _ _ _ _ _ _ _).mono ?_; rintro E w1 ⟨rfl, rfl⟩)
  go_ret
  exact ⟨by simp, rfl⟩
set_option maxHeartbeats 1000000 in
theorem next_any (gp : Option Addr) (rs : List Rcd) (w W : World) (A : Asks gp rs w) (hb : Below w.heap.size w W) (bg : Nat) (hc : W.cell? ⟨bg, 0, none⟩ = some (.pointer gp)) (a b : Int) (hw : wfId (a, b)) :
    Calls Tryz.prog 114 #[.agg #[.int .i64 a, .int .i64 b], .pointer (some ⟨bg, 0, none⟩)] W (GivesOwned (dpG rs (a, b)) W) := by
  have hb1 := Cmd.below_one W (.cells #[.int .i64 a, .int .i64 b] 41)
  have C1 := Lib.hid (A.recd _ a b (hb.trans (hb1.mono hb.size)) hw)
  have hx := heap_alloc_new W (.cells #[.int .i64 a, .int .i64 b] 41)
  have c0 := cell_row (i := 0) hx rfl
  have c1 := cell_row (i := 1) hx rfl
  have c2 := (hb1.cell (p := ⟨bg, 0, none⟩) (World.block_lt_of_cell? _ _ hc)).trans hc
  have HB := Lib.hid hb1
  clear hx hc hb1 A hb hw
  go_enter Tryz.func114, Tryz.ntmps114
  go_wp2_with (go_at_call 61; (with_reducible refine C1.out.mono ?_); rintro E w1 ⟨x0, x1, x2, p, n, c, p', n', c', ok, rfl, ho, hb1⟩; have HO := Lib.hid ho; have HB1 := Lib.hid hb1; clear ho hb1)
  go_ret
  have hb2 := Cmd.below_one w1 (.cells #[.int .i64 x0, .int .i64 x1, .int .i64 x2, .slice p n c, .slice p' n' c'] 48)
  exact ⟨_, rfl, own_mono (own_below HO.out hb2) HB.out.size, (HB.out.trans (HB1.out.mono HB.out.size)).trans (hb2.mono (Nat.le_trans HB.out.size HB1.out.size))⟩
/-- What reached hands out is an iterator of all that l reaches. -/
theorem reached_stops (F : Fence) (hF : F = Fence.wide) (n : Nat) (hfn : ∀ k, F.fn k) (hro : F.round = none) (hn : 3 ≤ n) (gp : Option Addr) (rs : List Rcd) (l : List Idn) (q0 : Slc) (w W : World) (A : Asks gp rs w) (hb : Below w.heap.size w W) (bg bl bn N0 : Nat)
    (hN : N0 ≤ W.heap.size) (hw0 : w.heap.size ≤ N0) (b1 : bg < N0) (b2 : bl < N0) (b3 : bn < N0) (c1 : W.cell? ⟨bg, 0, none⟩ = some (.pointer gp)) (c2 : W.cell? ⟨bl, 0, none⟩ = some (sliceOf q0)) (c3 : W.cell? ⟨bn, 0, none⟩ = some (.func (.func 114) #[] #[.pointer (some ⟨bg, 0, none⟩)]))
    (hrow : ∀ X, Below N0 W X → RowAt X (sliceOf q0) l) (hl : l.length ≤ 1000) (hwf : ∀ x ∈ l, wfId x) :
    SeqM F n Tryz.prog 91 #[.pointer (some ⟨bl, 0, none⟩), .pointer (some ⟨bn, 0, none⟩)] Itr.encI N0 (fun _ => False) (fun x => x ∈ l ++ depsG rs) (AllS (dpG rs) l) (SomeS (dpG rs) l) (l ++ depsG rs).length W :=
  follow_stops F hF n (hfn _) hfn hro hn bl bn q0 l 114 #[] #[.pointer (some ⟨bg, 0, none⟩)] (enters_of Tryz.func114 (by kernel_rfl) rfl) (dpG rs) (l ++ depsG rs) N0 (fun _ => False) W hN (fun k hk => hk.elim) c2 (.inl b2) c3 (.inl b3)
    (fun X hX => hrow X hX.low) (fun m X a b hX hab => inWide hF (next_any gp rs w X A (hb.trans (hX.low.mono hw0)) bg ((hX.low.cell (p := ⟨bg, 0, none⟩) b1).trans c1) a b hab))
    reach_in (reach_wf A.lot.1 hwf) (by have := deps_len A.lot; rw [List.length_append]; omega)
/-- The world behind reached. -/
structure Laid (w : World) (gp : Option Addr) (q : Slc) (W : World) : Prop where
  below : Below w.heap.size w W
  size : W.heap.size = w.heap.size + 1 + 1 + 1
  c1 : W.cell? ⟨w.heap.size, 0, none⟩ = some (.pointer gp)
  c2 : W.cell? ⟨w.heap.size + 1, 0, none⟩ = some (sliceOf q)
  c3 : W.cell? ⟨w.heap.size + 1 + 1, 0, none⟩ = some (.func (.func 114) #[] #[.pointer (some ⟨w.heap.size, 0, none⟩)])
theorem reached_laid (w : World) (gp : Option Addr) (q : Slc) : Laid w gp q (((w.alloc (.cells #[.pointer gp] 27)).alloc (.cells #[sliceOf q] 35)).alloc (.cells #[.func (.func 114) #[] #[.pointer (some ⟨w.heap.size, 0, none⟩)]] 58)) := by
  have b1 := Cmd.below_one w (.cells #[.pointer gp] 27)
  have n1 := heap_alloc_new w (.cells #[.pointer gp] 27)
  have s1 : (w.alloc (.cells #[.pointer gp] 27)).heap.size = w.heap.size + 1 := by simp
  obtain ⟨w1, h1⟩ : ∃ w1, w1 = w.alloc (.cells #[.pointer gp] 27) := ⟨_, rfl⟩
  rw [← h1] at b1 n1 s1 ⊢
  have b2 := Cmd.below_one w1 (.cells #[sliceOf q] 35)
  have n2 := heap_alloc_new w1 (.cells #[sliceOf q] 35)
  have s2 : (w1.alloc (.cells #[sliceOf q] 35)).heap.size = w.heap.size + 1 + 1 := by simp [s1]
  rw [s1] at n2
  obtain ⟨w2, h2⟩ : ∃ w2, w2 = w1.alloc (.cells #[sliceOf q] 35) := ⟨_, rfl⟩
  rw [← h2] at b2 n2 s2 ⊢
  have b3 := Cmd.below_one w2 (.cells #[.func (.func 114) #[] #[.pointer (some ⟨w.heap.size, 0, none⟩)]] 58)
  have n3 := heap_alloc_new w2 (.cells #[.func (.func 114) #[] #[.pointer (some ⟨w.heap.size, 0, none⟩)]] 58)
  rw [s2] at n3
  refine ⟨(b1.trans (b2.mono b1.size)).trans (b3.mono (by omega)), by simp [s2], ?_, ?_, cell_row (i := 0) n3 rfl⟩
  · exact cell_row (i := 0) ((b3.block _ (by omega)).trans ((b2.block _ (by omega)).trans n1)) rfl
  · exact cell_row (i := 0) ((b3.block _ (by omega)).trans n2) rfl

theorem reached_is (gp p : Option Addr) (n c : Nat) (w : World) : Calls Tryz.prog 74 #[.pointer gp, .slice p n c] w fun E w' => E = .returned (flw (w.heap.size + 1) (w.heap.size + 1 + 1)) ∧ Laid w gp (p, n, c) w' :=
  (reached_any gp p n c w).mono fun E w' ⟨h1, h2⟩ => ⟨h1, by rw [h2]; exact reached_laid w gp (p, n, c)⟩

/-! ### From -/
end Go.Proofs.YthcejcffnjhomaaGreat.Rea

/- What the developers' Path and Whole give (layer 16, reach). Conditions: those in each statement. -/
namespace Go.Proofs.YthcejcffnjhomaaGreat.Rea
open Go.RowKit Cmd Bat Ids Rec Wid Gra Sqm Cps Go.Shelf
set_option linter.unusedVariables false
set_option linter.unusedSimpArgs false
attribute [local go_sem] Oper.semAt_some

/-- Four blocks laid. -/
theorem four_laid (w : World) (o1 o2 o3 o4 : Obj) : Below w.heap.size w ((((w.alloc o1).alloc o2).alloc o3).alloc o4) ∧ ((((w.alloc o1).alloc o2).alloc o3).alloc o4).heap.size = w.heap.size + 1 + 1 + 1 + 1 ∧ ((((w.alloc o1).alloc o2).alloc o3).alloc o4).heap[w.heap.size]? = some o1 ∧ ((((w.alloc o1).alloc o2).alloc o3).alloc o4).heap[w.heap.size + 1]? = some o2 ∧
    ((((w.alloc o1).alloc o2).alloc o3).alloc o4).heap[w.heap.size + 1 + 1]? = some o3 ∧ ((((w.alloc o1).alloc o2).alloc o3).alloc o4).heap[w.heap.size + 1 + 1 + 1]? = some o4 := by
  have n1 := heap_alloc_new w o1
  have n2 := heap_alloc_new (w.alloc o1) o2
  have n3 := heap_alloc_new ((w.alloc o1).alloc o2) o3
  have n4 := heap_alloc_new (((w.alloc o1).alloc o2).alloc o3) o4
  simp only [World.size_alloc] at n2 n3 n4
  have k := fun W o j h => Below.heap_alloc W o j h
  refine ⟨below_four _ _ _ _ _, by simp, ?_, ?_, ?_, n4⟩
  · rw [k _ o4 _ (by simp; try omega), k _ o3 _ (by simp; try omega), k _ o2 _ (by simp)]; exact n1
  · rw [k _ o4 _ (by simp; try omega), k _ o3 _ (by simp)]; exact n2
  · rw [k _ o4 _ (by simp)]; exact n3
/-- A truth value in a box is handed out, behind the loop's own books. -/
theorem res_box {fn : Func} {p : Tmp} (h : fn.results = #[.cell p 4]) (tmps : Array Value) {W : World} {rc : Nat} {u : Bool} (hp : tmps.getD p undef = .pointer (some ⟨rc, 0, none⟩)) (hx : Go.Boxed W rc 4 (.bool u)) : (results fn tmps).run Tryz.prog W = .ok (.bool u) W := by
  have e0 := hx.cell
  clear hx
  rw [results_cell_one h, hp]
  go_simp
theorem box_put {W : World} {rc D : Nat} {t : TypeId} {u : Value} (hx : Go.Boxed W rc t u) (hD : D ≠ rc) (o : Obj) : Go.Boxed (W.putObj D o) rc t u := (World.putObj_heap_other (fun e => hD e.symm)).trans hx
theorem box_set {W : World} {rc : Nat} {t : TypeId} {v : Value} (hx : Go.Boxed W rc t v) (u : Value) : Go.Boxed (W.setCell ⟨rc, 0, none⟩ u) rc t u := hx.set u
theorem size_set (W : World) (a : Addr) (u : Value) : W.heap.size ≤ (W.setCell a u).heap.size := (KeepsOthers.setCell W a u).size
set_option maxRecDepth 100000 in
set_option maxHeartbeats 4000000 in
theorem path_in (F : Fence) (hF : F = Fence.wide) (n : Nat) (hfn : ∀ k, F.fn k) (hro : F.round = none) (hn : 9 ≤ n) (gp : Option Addr) (rs : List Rcd) (a b c d : Int) (w : World) (A : Asks gp rs w) (ha : wfId (a, b)) (hc : wfId (c, d)) :
    CallsIn F n Tryz.prog 41 #[.pointer gp, .agg #[.int .i64 a, .int .i64 b], .agg #[.int .i64 c, .int .i64 d]] w (RetBelow (.bool (decide ((c, d) ∈ fromG rs [(a, b)]))) w) := by
  have h1 : 1 ≤ n := by omega
  have h2 : 1 ≤ n - 1 := by omega
  have L4 := four_laid w (.cells #[.int .i64 a, .int .i64 b] 41) (.cells #[.int .i64 c, .int .i64 d] 41) (.cells #[.bool false] 4) (.cells #[.int .i64 a, .int .i64 b] 41)
  have HF := Lib.hid hF
  have HA := Lib.hid A
  have HW := Lib.hid (And.intro ha hc)
  have CR := Lib.hid (fun p n' c' W => inWide hF (n := n - 1) (reached_is gp p n' c' W))
  clear hF A ha hc
  refine callsIn_of_wp_marks Tryz.func41 rfl (hfn _) ?_ hro
  simp only [Tryz.ntmps41, List.size_toArray, List.length_cons, List.length_nil, Nat.reduceAdd, Nat.reduceSub, Array.replicate_succ, Array.replicate_zero, List.push_toArray, List.append_toArray, List.nil_append, List.cons_append]
  obtain ⟨bV, sV, x1, x2, x3, x4⟩ := L4
  gi_wp2_with (first
    | (gi_at_call 74; refine (CR.out _ _ _ _).mono ?_; rintro E W1 ⟨rfl, lb, ls, l1, l2, l3⟩)
    | gi_in)
  simp only [World.size_alloc] at ls l1 l2 l3 lb
  have hbb : Below w.heap.size w W1 := bV.trans (lb.mono (by omega))
  have y1 := (lb.block w.heap.size (by omega)).trans x1
  have y2 := (lb.block (w.heap.size + 1) (by omega)).trans x2
  have y3 := (lb.block (w.heap.size + 1 + 1) (by omega)).trans x3
  have y4 := (lb.block (w.heap.size + 1 + 1 + 1) (by omega)).trans x4
  clear bV sV x1 x2 x3 x4 lb
  have HLs := Lib.hid ls
  have hrow := fun X (hX : Below W1.heap.size W1 X) => one_id ((hX.block (w.heap.size + 1 + 1 + 1) (by omega)).trans y4)
  refine range_mine hro h1 (gf := 91) (lb := #[.pointer (some ⟨w.heap.size + 1 + 1 + 1 + 1 + 1, 0, none⟩), .pointer (some ⟨w.heap.size + 1 + 1 + 1 + 1 + 1 + 1, 0, none⟩)]) rfl (hfn _) (enters_of Tryz.func91 (by kernel_rfl) rfl)
    (reached_stops F HF.out (n - 1) hfn hro (by omega) gp rs [(a, b)] (some ⟨w.heap.size + 1 + 1 + 1, 0, none⟩, 1, 1) w W1 HA.out hbb (w.heap.size + 1 + 1 + 1 + 1) (w.heap.size + 1 + 1 + 1 + 1 + 1) (w.heap.size + 1 + 1 + 1 + 1 + 1 + 1) W1.heap.size (Nat.le_refl _) (by omega) (by omega) (by omega) (by omega) l1 l2 l3 hrow (show 1 ≤ 1000 by decide) (fun x hx => by rw [List.mem_singleton.1 hx]; exact HW.out.1))
    (Kept.refl _ _ _) (Nat.le_refl _) (fun k hk => hk.elim) (fun _ => rfl)
    (fun x => .cells #[.int .i64 x.1, .int .i64 x.2] 41) (fun _ => rfl)
    (fun x Bx => { tmps := #[.pointer gp, .agg #[.int .i64 a, .int .i64 b], .agg #[.int .i64 c, .int .i64 d], undef, .pointer (some ⟨w.heap.size, 0, none⟩), .pointer (some ⟨w.heap.size + 1, 0, none⟩), .pointer (some ⟨w.heap.size + 1 + 1, 0, none⟩), .pointer (some ⟨Bx, 0, none⟩), .pointer gp, .agg #[.int .i64 a, .int .i64 b], .slice (some ⟨w.heap.size + 1 + 1 + 1, 0, none⟩) 1 1, flw (w.heap.size + 1 + 1 + 1 + 1 + 1) (w.heap.size + 1 + 1 + 1 + 1 + 1 + 1), .agg #[.int .i64 x.1, .int .i64 x.2], undef, undef, undef], defers := [] })
    (Still W1.heap.size W1 fun pre => (c, d) ∉ pre) (Gone W1.heap.size w.heap.size w (w.heap.size + 1 + 1) 4 (.bool true) fun pre => (c, d) ∈ pre) (Still.bears (Nat.le_refl _) _) (fun cc => Gone.bears (by omega) (Nat.le_refl _) (by omega) _ _ _ cc)
    ⟨Below.refl _ _, by simp, fun k hk => hk.elim⟩
    ?assign ?body ?done ?stop
  case assign =>
    clear ls
    rintro l x W K hK
    simp only [Itr.encI]
    gi_wp2
    exact hK
  case body =>
    clear ls l1 l2 l3 hrow
    rintro l pre ⟨x, y⟩ M Bx W _ hBx bX hM hnB ⟨hB, hno, hfar⟩ hlt
    have l3 := HLs.out
    have bX : W.heap[Bx]? = some (.cells #[.int .i64 x, .int .i64 y] 41 (0, 0)) := bX
    have c0 := cell_row (i := 0) bX rfl
    have c1 := cell_row (i := 1) bX rfl
    have z2 := (hB.block (w.heap.size + 1) (by omega)).trans y2
    have d0 := cell_row (i := 0) z2 rfl
    have d1 := cell_row (i := 1) z2 rfl
    have z3 : Go.Boxed W (w.heap.size + 1 + 1) 4 (.bool false) := (hB.block (w.heap.size + 1 + 1) (by omega)).trans y3
    have hfz := z3.frozen
    have hcz := z3.cell
    clear l3
    have hq : ∀ w, (binOp .eql 41 (.agg #[.int .i64 x, .int .i64 y]) (.agg #[.int .i64 c, .int .i64 d])).run Tryz.prog w = .ok (.bool (decide ((x, y) = (c, d)))) w := eql_pair x y c d
    by_cases he : (x, y) = (c, d)
    · rw [decide_eq_true he] at hq
      cases he
      gi_wp2
      exact ⟨(Word.refl _ W1.heap.size M W).leave.setCell _ _, rfl, (hbb.trans (hB.mono (by have := HLs.out; omega))).setCell (by show w.heap.size ≤ w.heap.size + 1 + 1; omega) _, box_set z3 _, List.mem_append_right _ (List.mem_singleton.2 rfl), Nat.le_trans hB.size (size_set _ _ _), hfar⟩
    · rw [decide_eq_false he] at hq
      gi_wp2
      exact ⟨Word.refl _ _ _ _, hB, fun hm => by
        rcases List.mem_append.1 hm with h | h
        · exact hno h
        · exact he (List.mem_singleton.1 h).symm, hfar⟩
  case done =>
    clear ls l1 l2 l3 hrow
    rintro D xs M W hD hS ⟨hB, hno, hfar⟩ hK
    have l3 := HLs.out
    have z3 : Go.Boxed W (w.heap.size + 1 + 1) 4 (.bool false) := (hB.block (w.heap.size + 1 + 1) (by omega)).trans y3
    have hfz := z3.frozen
    have hcz := z3.cell
    clear l3
    gi_wp2
    have hK2 := (KeepsOthers.setCell W ⟨w.heap.size + 1 + 1, 0, none⟩ (.bool false)).same D _ hK rfl
    have hDr : D ≠ w.heap.size + 1 + 1 := by have := HLs.out; omega
    refine ⟨by simp, .inl ⟨_, _, rfl, run_takeDeferred hK2, ?_⟩⟩
    exact ⟨_, res_box rfl _ rfl (box_put (box_set z3 (.bool false)) hDr _), by rw [decide_eq_false (fun h => hno ((from_in hS _).2 h))], ((hbb.trans (hB.mono (by have := HLs.out; omega))).setCell (by show w.heap.size ≤ w.heap.size + 1 + 1; omega) _).trans (belowK_b (w := w) (Nat.le_refl _) _ D _ _ (by have := HLs.out; omega) hK2 rfl rfl)⟩
  case stop =>
    clear ls l1 l2 l3 hrow
    rintro D cc pre M W hD hS ⟨rfl, hB, hx, hp, hs, hfar⟩ hK
    gi_wp2
    have hDr : D ≠ w.heap.size + 1 + 1 := by have := HLs.out; omega
    refine ⟨by simp, .inl ⟨_, _, rfl, run_takeDeferred hK, ?_⟩⟩
    exact ⟨_, res_box rfl _ rfl (box_put hx hDr _), by rw [decide_eq_true (from_mem.2 (by obtain ⟨a', ha', hr'⟩ := hS _ hp; exact ⟨a', ha', rchS_iff.1 hr'⟩))], hB.trans (belowK_b (w := w) (Nat.le_refl _) _ D _ _ (by have := HLs.out; omega) hK rfl rfl)⟩
theorem path_run (gp : Option Addr) (rs : List Rcd) (a b c d : Int) (w : World) (A : Asks gp rs w) (ha : wfId (a, b)) (hc : wfId (c, d)) : Calls Tryz.prog 41 #[.pointer gp, .agg #[.int .i64 a, .int .i64 b], .agg #[.int .i64 c, .int .i64 d]] w (RetBelow (.bool (decide ((c, d) ∈ fromG rs [(a, b)]))) w) :=
  (callsIn_wide (n := 9)).1 (path_in Fence.wide rfl 9 (fun _ => trivial) rfl (by omega) gp rs a b c d w A ha hc)

/-! ### Whole -/
/-- What Whole's loop has ahead of it, under B. -/
structure Whl (w : World) (gp : Option Addr) (l : List Idn) (sb gs ms : Nat) (V : World) : Prop where
  below : Below w.heap.size w V
  g : Go.Boxed V w.heap.size 27 (.pointer gp)
  r : Go.Boxed V (w.heap.size + 1) 4 (.bool false)
  s : Go.Boxed V sb 81 (.pointer (some ⟨gs, 0, none⟩))
  set : SetP V gs ms (srt l)
theorem Whl.on {w : World} {gp : Option Addr} {l : List Idn} {sb gs ms : Nat} {V W : World} {B : Nat} (h : Whl w gp l sb gs ms V) (hB : B = V.heap.size) (hb : Below B V W) : Whl w gp l sb gs ms W := by
  subst hB
  exact ⟨h.below.trans (hb.mono h.below.size), (hb.block _ h.g.lt).trans h.g, (hb.block _ h.r.lt).trans h.r, (hb.block _ h.s.lt).trans h.s, h.set.on hb⟩
theorem whl_new {w W3 : World} {gp : Option Addr} {l : List Idn} {gs ms : Nat} (hb : Below ((w.alloc (.cells #[.pointer gp] 27)).alloc (.cells #[.bool false] 4)).heap.size ((w.alloc (.cells #[.pointer gp] 27)).alloc (.cells #[.bool false] 4)) W3) (hs : SetP W3 gs ms (srt l)) :
    Whl w gp l W3.heap.size gs ms (W3.alloc (.cells #[.pointer (some ⟨gs, 0, none⟩)] 81)) := by
  have n1 := heap_alloc_new w (.cells #[.pointer gp] 27)
  have n2 := heap_alloc_new (w.alloc (.cells #[.pointer gp] 27)) (.cells #[.bool false] 4)
  have k := (Cmd.below_one w (.cells #[.pointer gp] 27)).trans ((Cmd.below_one (w.alloc (.cells #[.pointer gp] 27)) (.cells #[.bool false] 4)).mono (by simp))
  have b1 := Cmd.below_one W3 (.cells #[.pointer (some ⟨gs, 0, none⟩)] 81)
  have hs3 := hb.size
  simp only [World.size_alloc] at n2 hs3
  refine ⟨(k.trans (hb.mono (by simp; omega))).trans (b1.mono (by omega)), ?_, ?_, heap_alloc_new W3 _, hs.on b1⟩
  · exact (b1.block _ (by omega)).trans ((hb.block _ (by simp; omega)).trans ((Below.heap_alloc _ _ _ (by simp)).trans n1))
  · exact (b1.block _ (by omega)).trans ((hb.block _ (by simp)).trans n2)
theorem wh_yes {rs : List Rcd} {l xs : List Idn} (hS : AllS (dpG rs) l xs) (h : ∀ x ∈ xs, x ∈ idsG rs ∧ x ∈ l) : wholeG rs l = true := by
  unfold wholeG
  exact decide_eq_true fun z hz => h z ((from_in hS z).2 hz)
theorem wh_no {rs : List Rcd} {l xs : List Idn} (hS : SomeS (dpG rs) l xs) (h : ∃ x ∈ xs, ¬ (x ∈ idsG rs ∧ x ∈ l)) : wholeG rs l = false := by
  obtain ⟨x, hx, hn⟩ := h
  obtain ⟨a, ha, hr⟩ := hS x hx
  unfold wholeG
  exact decide_eq_false fun k => hn (k x (from_mem.2 ⟨a, ha, rchS_iff.1 hr⟩))
end Go.Proofs.YthcejcffnjhomaaGreat.Rea
