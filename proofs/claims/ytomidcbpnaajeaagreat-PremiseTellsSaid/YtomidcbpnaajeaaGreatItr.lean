/- The library's maps.Keys and slices.Collect at ids, over a map of any elements (layer 15, edges): the keys come, each once, in a row of the call's own; of a nil map none. Conditions: those in each statement. -/
import Derived.Test.YtomidcbpnaajeaaGreatMapG
import Derived.Test.YtomidcbpnaajeaaGreatIdA
import Derived.RangeFuncNested
import Derived.RangeFuncLeaves
import Derived.Shelf.Abstract
import Derived.Shelf.RegionOpen
import Derived.Sort.MapsRangeIn
import Derived.Maps.OwnIn
import Derived.WalkKit
import Derived.OwnWalkIn
import Derived.TacticsInMore
import Derived.RegionIn
import Derived.LoopNIn
import Derived.LoopIn
namespace Go.Proofs.YtomidcbpnaajeaaGreat.Itr
open Go.RowKit Ids Mpg Go.Maps Go.WideElems Go.ChangeMaps Go.Sort Go.Shelf
set_option linter.unusedVariables false
set_option linter.unusedSimpArgs false
attribute [local go_sem] Oper.semAt_some

/-! ### The iterator -/
theorem came_len {D : DataW Value} {ks out : List Idn} {f : Idn → Option Value} {left : Lit → Bool} (S : Says kyI D ks f) (C : Came kyI f left out) {x : Idn} {v : Value} (hx : f x = some v) (hl : left (kyI.lit x) = true) : out.length < ks.length := by
  have h := (C.step S hx hl).2
  have := nodup_len h.nodup (fun y hy => (S.mem y).2 ((h.mem y).1 hy).1)
  rw [List.length_append] at this
  simp at this
  omega
/-- A round's step in a fenced walk: nothing is left, or one of the keys has come. (Both goals are hidden, for the walk to stand.) -/
theorem in_next {F : Fence} {nF : Nat} {w : World} {ops : Array Oper} {rest : List Oper} {o : Oper} {a : Act} {Q : Exit → Act → World → Prop} (hg : o.guard = none) (it : Operand) (hop : o.op = Op.next it false) (m r n : Nat) (D : DataW Value) (ks : List Idn) (f : Idn → Option Value) (S : Says kyI D ks f) (left : Lit → Bool) (cnt : Nat)
    (hit : a.eval it = .pointer (some ⟨r, 0, none⟩)) (h : Going 32 w m r n D left cnt)
    (hDone : Hid ((∀ kl, left kl = false) → wpListIn F nF Tryz.prog ops Q rest (a.put o.dst (.tuple #[.bool false])) w))
    (hMore : Hid (∀ (x y : Int) (v : Value) (w' : World) (cnt' : Nat), f (x, y) = some v → left (kyI.lit (x, y)) = true → Going 32 w' m r n D (fun z => left z && !z.sameKey (kyI.lit (x, y))) cnt' → cnt' < cnt → w.grownBy w' (some r) →
      (Instr.entry (.pointer (some ⟨r, 0, none⟩))).run Tryz.prog w' = .ok (.tuple #[.agg #[.int .i64 x, .int .i64 y], v]) w' → wpListIn F nF Tryz.prog ops Q rest (a.put o.dst (.tuple #[.bool true, .agg #[.int .i64 x, .int .i64 y], v])) w')) :
    wpListIn F nF Tryz.prog ops Q (o :: rest) a w := by
  refine wpListIn_next_ranges w hg it hop 32 kyI.law raw kyI.val (fun v : Value => v) (fun key kl hk => by obtain ⟨x, _, hx, _⟩ := kyI.inv hk; exact ⟨x, hx⟩) (fun v y hv => ⟨v, rfl⟩) m r n D left cnt hit h (fun _ => hDone.out) ?_
  intro s c kl yv w' cnt' hkey hlk hv hat hrg hlt hgr hsz hen
  obtain ⟨x, hok, e, rfl⟩ := kyI.inv hkey
  obtain rfl := kyI.vinj e
  cases hv
  have hfx : f s = some c := by
    have h1 := S.has s hok
    rw [has_true_of_atKey hat] at h1
    cases hf : f s with
    | none => rw [hf] at h1; cases h1
    | some u =>
      have := (S.val s hok u hf (.held c)).symm.trans (hat _)
      cases this; rfl
  exact hMore.out s.1 s.2 c w' cnt' hfx hlk hrg hlt hgr hen
set_option maxRecDepth 100000 in
set_option maxHeartbeats 1000000 in
theorem keys1_any (F : Fence) (n : Nat) (hf : F.fn 85) (hro : F.round = none) (hn : 1 ≤ n) (l Bm b N : Nat) (f : Idn → Option Value) (J Jx : List Idn → World → Prop)
    (hY : ∀ pre x W, J pre W → pre.length < N → YieldAt F (n - 1) Tryz.prog l #[.agg #[.int .i64 x.1, .int .i64 x.2]] W fun e W' => (e = .returned (.bool true) ∧ J (pre ++ [x]) W' ∧ KeepsWalks W W') ∨ (e = .returned (.bool false) ∧ Jx (pre ++ [x]) W'))
    (W : World) (hJ : AbidesFrom W.heap.size J) (hm : W.cell? ⟨Bm, 0, none⟩ = some (.map (some b))) (M : MapG kyI W b N f) (h0 : J [] W) :
    CallsIn F n Tryz.prog 85 #[.func (.yield l) #[] #[], .pointer (some ⟨Bm, 0, none⟩)] W fun e W' => (∃ v, e = .returned v) ∧
      ((∃ ss : List Idn, (ss.Nodup ∧ ∀ x, x ∈ ss ↔ (f x).isSome = true) ∧ J ss W') ∨ (∃ pre, True ∧ Jx pre W')) := by
  obtain ⟨D, ks, hown, S, hk⟩ := M
  refine callsIn_of_wp Tryz.func85 rfl hf ?_ hro
  simp only [Tryz.ntmps85, List.size_toArray, List.length_cons, List.length_nil, Nat.reduceAdd, Nat.reduceSub, Array.replicate_succ, Array.replicate_zero, List.push_toArray, List.append_toArray, List.nil_append, List.cons_append]
  gi_wp2_with (first
    | (gi_at_range; refine wpListIn_range_own _ rfl _ 56 rfl 32 42 kyI.law Tryz.underlying56 _ b ks.length _ rfl hown ?_; intro w0 hrg0 hg0 hs0)
    | gi_in)
  go_frame
  gi_loopw [3] (fun _ wr => ∃ (left : Lit → Bool) (cnt : Nat) (ss : List Idn), wr.ranges Tryz.prog 32 raw b W.heap.size ks.length D left cnt ∧ Came kyI f left ss ∧ J ss wr)
    (fun _ wr => wr.rangeLeft b W.heap.size)
  case atStart =>
    exact ⟨_, _, [], hrg0, Came.start S, hJ [] W w0 none h0 hg0 (fun r e => by cases e)⟩
  case round =>
    obtain ⟨left, cnt, ss, hrg, hC, hJs⟩ := hrel
    gi_wp2_with (first
      | (gi_at_next; refine in_next rfl _ rfl b W.heap.size ks.length D ks f S left cnt rfl hrg ?_ ?_)
      | fail)
    · refine Lib.hid fun hl0 => ?_
      gi_wp2
      go_end0
      exact ⟨⟨_, rfl⟩, .inl ⟨ss, hC.done hl0, hJs⟩⟩
    · refine Lib.hid fun x y c w2 cnt2 hfx hlk hrg2 hlt hg2 hen => ?_
      have hJ2 : J ss w2 := hJ ss wr w2 (some W.heap.size) hJs hg2 (fun r e => by cases e; exact ⟨Nat.le_refl _, hrg.iter_walk⟩)
      have hCs := (hC.step S hfx hlk).2
      have hlen := came_len S hC hfx hlk
      have hbx := World.grownBy_alloc w2 (.cells #[.int .i64 x, .int .i64 y] 32) none
      have hJ3 : J ss (w2.alloc (.cells #[.int .i64 x, .int .i64 y] 32)) := hJ ss w2 _ none hJ2 hbx (fun r e => by cases e)
      have hrg3 := hrg2.of_walks (KeepsWalks.alloc w2 (.cells #[.int .i64 x, .int .i64 y] 32))
      obtain ⟨fn, tmps, assign, body, hy, hR⟩ := hY ss (x, y) _ hJ3 (by omega)
      gi_wp2
      refine hR.mono ?_
      rintro e W3 (⟨rfl, hJ4, hk3⟩ | ⟨rfl, hJx⟩)
      · gi_wp2
        have hrg4 := hrg3.of_walks hk3
        go_roundw
        case rel => exact ⟨_, cnt2, ss ++ [(x, y)], hrg4, hCs, hJ4⟩
        case measure => rw [hrg4.left_eq, hrg.left_eq]; exact hlt
      · gi_wp2
        refine bodyPost_ret (results_none rfl _ _ _) rfl ?_
        exact ⟨⟨_, rfl⟩, .inr ⟨_, trivial, hJx⟩⟩
def encI (x : Idn) : Array Value := #[.agg #[.int .i64 x.1, .int .i64 x.2]]
theorem keys_stops (F : Fence) (n : Nat) (hf : F.fn 85) (hro : F.round = none) (hn : 1 ≤ n) (Bm b N : Nat) (f : Idn → Option Value) (w : World) (hBm : Bm < w.heap.size)
    (hm : w.cell? ⟨Bm, 0, none⟩ = some (.map (some b))) (M : MapG kyI w b N f) :
    SeqStopsK F n Tryz.prog 85 #[.pointer (some ⟨Bm, 0, none⟩)] encI KeepsWalks (fun ss => ss.Nodup ∧ ∀ x, x ∈ ss ↔ (f x).isSome = true) (fun _ => True) N w := fun l J Jx W hW hJ _ hY h0 =>
  keys1_any F n hf hro hn l Bm b N f J Jx hY W hJ ((hW.cell (p := ⟨Bm, 0, none⟩) hBm).trans hm) (M.on hW) h0
set_option maxRecDepth 100000 in
set_option maxHeartbeats 1000000 in
theorem keys_stops_nil (F : Fence) (n : Nat) (hf : F.fn 85) (hro : F.round = none) (Bm : Nat) (w : World) (hBm : Bm < w.heap.size) (hm : w.cell? ⟨Bm, 0, none⟩ = some (.map none)) :
    SeqStopsK F n Tryz.prog 85 #[.pointer (some ⟨Bm, 0, none⟩)] encI KeepsWalks (fun ss => ss.Nodup ∧ ∀ x : Idn, x ∈ ss ↔ ((fun _ => none : Idn → Option Value) x).isSome = true) (fun _ => True) 0 w := fun l J Jx W hW hJ _ hY h0 => by
  have hm' := (hW.cell (p := ⟨Bm, 0, none⟩) hBm).trans hm
  refine callsIn_of_wp Tryz.func85 rfl hf ?_ hro
  simp only [Tryz.ntmps85, List.size_toArray, List.length_cons, List.length_nil, Nat.reduceAdd, Nat.reduceSub, Array.replicate_succ, Array.replicate_zero, List.push_toArray, List.append_toArray, List.nil_append, List.cons_append]
  have hrg := run_range_nilMap (P := Tryz.prog) W 56 32 42 Tryz.underlying56
  have hnx : ∀ ty, (Instr.next (.pointer (some ⟨W.heap.size, 0, none⟩)) false ty).run Tryz.prog (W.alloc (.mapIter none 0 #[] 0)) = _ := fun ty => run_next_nilMap _ ty 0 0 #[]
  clear hY
  gi_wp2
  refine wpIn_loop_rounds 1 ?_
  rw [roundsIn_succ]
  gi_wp2
  go_end0
  exact ⟨⟨_, rfl⟩, .inl ⟨[], ⟨.nil, fun x => by simp⟩, hJ [] W _ none h0 (World.grownBy_alloc W _ none) (fun r e => by cases e)⟩⟩
set_option maxRecDepth 100000 in
theorem keys_any (F : Fence) (n : Nat) (hf : F.fn 69) (hro : F.round = none) (mb : Option Nat) (w : World) :
    CallsIn F n Tryz.prog 69 #[.map mb] w fun e w' => e = .returned (.func (.func 85) #[] #[.pointer (some ⟨w.heap.size, 0, none⟩)]) ∧ w' = w.alloc (.cells #[.map mb] 56) := by
  refine callsIn_of_wp Tryz.func69 rfl hf ?_ hro
  simp only [Tryz.ntmps69, List.size_toArray, List.length_cons, List.length_nil, Nat.reduceAdd, Nat.reduceSub, Array.replicate_succ, Array.replicate_zero, List.push_toArray, List.append_toArray, List.nil_append, List.cons_append]
  gi_wp2
  go_ret
  exact ⟨rfl, rfl⟩

/-! ### What is collected -/
theorem flat_snoc (zs : List Idn) (x : Idn) : flat (zs ++ [x]) = flat zs ++ [.int .i64 x.1, .int .i64 x.2] := by unfold flat; rw [List.flatMap_append]; simp [ids]
theorem cell_two (w : World) (a b : Value) (t : TypeId) : ∀ j u, [a, b][j]? = some u → (w.alloc (.cells #[a, b] t)).cell? ((⟨w.heap.size, 0, none⟩ : Addr).add j) = some u := fun j u hu => by
  have e : ((⟨w.heap.size, 0, none⟩ : Addr).add j) = ⟨w.heap.size, j, none⟩ := by unfold Addr.add; split <;> simp_all
  rw [e]
  have h := World.alloc_heap_new w (.cells #[a, b] t)
  match j, hu with
  | 0, hu => injection hu with hu; subst hu; simp only [World.cell?]; rw [h]; rfl
  | 1, hu => injection hu with hu; subst hu; simp only [World.cell?]; rw [h]; rfl
  | j + 2, hu => simp at hu
def Box2 (W : World) (B : Nat) (x : Idn) : Prop := W.heap[B]? = some (.cells #[.int .i64 x.1, .int .i64 x.2] 32 (0, 0))
theorem Box2.c0 {W : World} {B : Nat} {x : Idn} (h : Box2 W B x) : W.cell? ⟨B, 0, none⟩ = some (.int .i64 x.1) := by simp [World.cell?, show W.heap[B]? = _ from h]
theorem Box2.c1 {W : World} {B : Nat} {x : Idn} (h : Box2 W B x) : W.cell? ⟨B, 1, none⟩ = some (.int .i64 x.2) := by simp [World.cell?, show W.heap[B]? = _ from h]
set_option maxRecDepth 100000 in
set_option maxHeartbeats 4000000 in
theorem appendSeq_any (F : Fence) (n : Nat) (hf : F.fn 84) (hro : F.round = none) (hn : 2 ≤ n) (g : Nat) (lb : Array Value) (hFg : F.fn g) (eg : ∀ args w, (callFunc g args).run Tryz.prog w = .ok (.enter g args) w)
    (S : List Idn → Prop) (N : Nat) (hN : N ≤ 1000000) (w : World) (hseq : SeqStopsK F (n - 1) Tryz.prog g lb encI KeepsWalks S (fun _ => True) N w) :
    CallsIn F n Tryz.prog 84 #[.slice none 0 0, .func (.func g) #[] lb] w fun e w' => ∃ (v : Value) (ss : List Idn), e = .returned v ∧ S ss ∧ Owns w' w.heap.size v ss ∧ Below w.heap.size w w' := by
  have h1 : 1 ≤ n := by omega
  obtain ⟨i0, hi, hz0, hz1, hz2⟩ := info_parts info_id
  refine callsIn_of_wp_marks Tryz.func84 rfl hf ?_ hro
  simp only [Tryz.ntmps84, List.size_toArray, List.length_cons, List.length_nil, Nat.reduceAdd, Nat.reduceSub, Array.replicate_succ, Array.replicate_zero, List.push_toArray, List.append_toArray, List.nil_append, List.cons_append]
  gi_wp2
  have bS := Boxed.new w 23 (.slice none 0 0)
  have hB0 : Below w.heap.size w (w.alloc (.cells #[.slice none 0 0] 23)) := (Below.refl _ w).alloc (Nat.le_refl _) _
  have hsz : (w.alloc (.cells #[.slice none 0 0] 23)).heap.size = w.heap.size + 1 := by simp
  obtain ⟨W0, hW0⟩ : ∃ W0, w.alloc (.cells #[.slice none 0 0] 23) = W0 := ⟨_, rfl⟩
  rw [hW0] at bS hB0 hsz ⊢
  clear hW0
  refine wpIn_rangeFunc_ownH hro h1 (gf := g) (lb := lb) rfl hFg eg hseq walksK_t walksK_b hB0 (fun _ => rfl)
    (fun pre W => (∃ v, Boxed W w.heap.size 23 v ∧ W.ownsRow w.heap.size 32 2 v pre.length (flat pre) ∧ True) ∧ Below w.heap.size w W)
    (fun _ _ _ => False)
    (OwnFrom.and (Own.from (holdsRow_own w.heap.size w.heap.size 23 32 2 (fun pre : List Idn => pre.length) (fun pre => flat pre) (fun _ _ => True)) _) (ownFrom_below (Nat.le_refl _) (by omega)))
    (fun _ _ _ _ _ hs _ _ => hs)
    ⟨⟨_, bS, World.ownsRow_nil W0 w.heap.size 32 2, trivial⟩, hB0⟩
    (fun x a' W => ∃ Bx, w.heap.size < Bx ∧ Box2 W Bx x ∧ a' = { tmps := #[.slice none 0 0, .func (.func g) #[] lb, .pointer (some ⟨w.heap.size, 0, none⟩), undef, .slice none 0 0, .pointer (some ⟨Bx, 0, none⟩), .func (.func g) #[] lb, .agg #[.int .i64 x.1, .int .i64 x.2], undef, undef, undef, undef, undef], defers := [] })
    (fun x a' _ X Y row hs hg hr => by
      obtain ⟨Bx, h1, h2, h3⟩ := hs
      exact ⟨Bx, h1, (hg.block Bx (Array.getElem?_eq_some_iff.1 h2).1 (fun e => by obtain ⟨o, ho, hc⟩ := (hr Bx e.symm).2; rw [show X.heap[Bx]? = _ from h2] at ho; cases ho; cases hc)).trans h2, h3⟩)
    ?assign ?body ?done ?stop
  case assign =>
    rintro l pre x W K ⟨⟨v, bv, hrow, -⟩, hB⟩ hK
    have b2 : Box2 (W.alloc (.cells #[.int .i64 x.1, .int .i64 x.2] 32)) W.heap.size x := World.alloc_heap_new W _
    simp only [encI]
    gi_wp2
    exact hK _ _ ((KeepsOthers.alloc _ _).from _) (KeepsWalks.alloc _ _) ⟨⟨v, bv.alloc _, hrow.alloc _, trivial⟩, hB.alloc hB.size _⟩ ⟨W.heap.size, bv.lt, b2, rfl⟩
  case body =>
    rintro l pre x a' W hl ⟨r, hr⟩ ⟨⟨v, bv, hrow, -⟩, hB⟩ ⟨Bx, hBx, bX, rfl⟩ hlt
    have cS := bv.cell
    have c0 := bX.c0
    have c1 := bX.c1
    have hp : pre.length < 1000000 := by omega
    gi_wp2_with (first
      | (gi_at_builtin; refine wpListIn_append_own _ rfl _ _ 23 rfl w.heap.size 32 i0 (.agg #[.int .i64 0, .int .i64 0]) 2 16 Tryz.underlying23 hi hz0 hz1 hz2 rfl (by decide) _ _ _ rfl (hrow.alloc _) ⟨W.heap.size, 0, none⟩ 1 1 [.int .i64 x.1, .int .i64 x.2] rfl rfl (cell_two _ _ _ _) (by simp [Value.oneCell']) (by unfold maxLen; omega) (by omega) (by have := hB.size; simp; omega) ?_; intro v' w1 hown' hgrow _; obtain ⟨g', cap', rfl⟩ := ownsRow_succ hown'; obtain ⟨hv1, hv2, hr2, hk2, hb2⟩ := bv.appended (by decide) hrow hB.size (Nat.le_refl _) hown' hgrow; have hc1 := hv1.cell; have hf1 := hv1.frozen)
      | gi_in)
    refine ⟨hk2.from _, ?_, ⟨⟨_, hv2, ?_, trivial⟩, hB.trans hb2⟩⟩
    · exact ⟨hk2.size, fun k o hk ho => hk2.same k o hk (Obj.not_cells_of_walk ho)⟩
    · rw [List.length_append, flat_snoc]; exact hr2
  case done =>
    rintro D xs W hD hS ⟨⟨v, bv, hrow, -⟩, hB⟩ hK
    have cS := bv.cell
    gi_wp2
    refine ⟨by simp, .inl ⟨_, _, rfl, run_takeDeferred hK, ?_⟩⟩
    exact ⟨_, results_tmp rfl _ _ _, v, xs, rfl, hS, ownsRow_putObj hrow _ hK rfl, hB.trans (belowK_b (w := w) (Nat.le_refl _) W D _ _ (by omega) hK rfl rfl)⟩
  case stop =>
    rintro D c pre W _ _ h _
    exact h.elim
set_option maxHeartbeats 1000000 in
theorem collect_any (F : Fence) (n : Nat) (hf : F.fn 68) (hfa : F.fn 84) (hro : F.round = none) (hn : 3 ≤ n) (g : Nat) (lb : Array Value) (hFg : F.fn g) (eg : ∀ args w, (callFunc g args).run Tryz.prog w = .ok (.enter g args) w)
    (S : List Idn → Prop) (N : Nat) (hN : N ≤ 1000000) (w : World) (hseq : SeqStopsK F (n - 1 - 1) Tryz.prog g lb encI KeepsWalks S (fun _ => True) N w) :
    CallsIn F n Tryz.prog 68 #[.func (.func g) #[] lb] w fun e w' => ∃ (v : Value) (ss : List Idn), e = .returned v ∧ S ss ∧ Owns w' w.heap.size v ss ∧ Below w.heap.size w w' := by
  have h1 : 1 ≤ n := by omega
  refine callsIn_of_wp Tryz.func68 rfl hf ?_ hro
  simp only [Tryz.ntmps68, List.size_toArray, List.length_cons, List.length_nil, Nat.reduceAdd, Nat.reduceSub, Array.replicate_succ, Array.replicate_zero, List.push_toArray, List.append_toArray, List.nil_append, List.cons_append]
  gi_wp2_with (gi_at_call 84; refine (appendSeq_any F (n - 1) hfa hro (by omega) g lb hFg eg S N hN _ hseq).mono ?_; rintro e w' ⟨v, ss, rfl, hS, hrow, hb⟩)
  go_ret
  exact ⟨v, ss, rfl, hS, hrow, hb⟩
end Go.Proofs.YtomidcbpnaajeaaGreat.Itr
