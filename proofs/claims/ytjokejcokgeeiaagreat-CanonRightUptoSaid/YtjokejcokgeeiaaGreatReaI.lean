/- What the developers' follow tells (layer 16, reach), to whoever ranges over it: each id that those of a list lead to, once. Conditions: the list and the function of next ids lie under what no round turns; what is reached is a list of not more than 100000 ids. -/
import Derived.Test.YtjokejcokgeeiaaGreatSeqM
import Derived.Test.YtjokejcokgeeiaaGreatSls
import Derived.Test.YtjokejcokgeeiaaGreatSetA
import Derived.Test.YtjokejcokgeeiaaGreatReaA
import Derived.Test.YtjokejcokgeeiaaGreatItr
import Derived.Test.YtjokejcokgeeiaaGreatRecD
namespace Go.Proofs.YtjokejcokgeeiaaGreat.Rea
open Go.RowKit Cmd Bat Ids Rec Wid Gra Sqm Cps
set_option linter.unusedVariables false
set_option linter.unusedSimpArgs false
attribute [local go_sem] Oper.semAt_some

/-! ### Which ids lead to which -/
inductive RchS (s : Idn → List Idn) : Idn → Idn → Prop
  | here (x : Idn) : RchS s x x
  | more {x y z : Idn} : RchS s x y → z ∈ s y → RchS s x z
/-- So far pre has been told; A is still to be looked at. -/
structure Way (s : Idn → List Idn) (l pre A : List Idn) : Prop where
  nodup : pre.Nodup
  ok : ∀ z ∈ pre, ∃ a ∈ l, RchS s a z
  todo : ∀ z ∈ A, ∃ a ∈ l, RchS s a z
  all : ∀ a ∈ l, a ∈ pre ∨ a ∈ A
  come : ∀ z ∈ pre, ∀ d ∈ s z, d ∈ pre ∨ d ∈ A
theorem Way.start (s : Idn → List Idn) (l : List Idn) : Way s l [] l :=
  ⟨.nil, fun z hz => (by cases hz), fun z hz => ⟨z, hz, .here z⟩, fun a ha => .inr ha, fun z hz => (by cases hz)⟩
theorem Way.alike {s : Idn → List Idn} {l pre A A' : List Idn} (h : Way s l pre A) (e : ∀ z, z ∈ A ↔ z ∈ A') : Way s l pre A' :=
  ⟨h.nodup, h.ok, fun z hz => h.todo z ((e z).2 hz), fun a ha => (h.all a ha).imp id (e a).1, fun z hz d hd => (h.come z hz d hd).imp id (e d).1⟩
theorem Way.skip {s : Idn → List Idn} {l pre A : List Idn} {x : Idn} (h : Way s l pre (x :: A)) (hx : x ∈ pre) : Way s l pre A :=
  ⟨h.nodup, h.ok, fun z hz => h.todo z (List.mem_cons_of_mem _ hz), fun a ha => (h.all a ha).elim .inl fun hm => (List.mem_cons.1 hm).elim (fun e => .inl (e ▸ hx)) .inr,
    fun z hz d hd => (h.come z hz d hd).elim .inl fun hm => (List.mem_cons.1 hm).elim (fun e => .inl (e ▸ hx)) .inr⟩
theorem Way.told {s : Idn → List Idn} {l pre A : List Idn} {x : Idn} (h : Way s l pre (x :: A)) : ∃ a ∈ l, RchS s a x := h.todo x List.mem_cons_self
theorem Way.tell {s : Idn → List Idn} {l pre A : List Idn} {x : Idn} (h : Way s l pre (x :: A)) (hx : x ∉ pre) : Way s l (pre ++ [x]) (s x ++ A) := by
  have hin : ∀ {y}, y ∈ pre ∨ y ∈ x :: A → y ∈ pre ++ [x] ∨ y ∈ s x ++ A := fun {y} hy => by
    rcases hy with hy | hy
    · exact .inl (List.mem_append_left _ hy)
    · rcases List.mem_cons.1 hy with rfl | hy
      · exact .inl (List.mem_append_right _ (List.mem_singleton.2 rfl))
      · exact .inr (List.mem_append_right _ hy)
  refine ⟨?_, fun z hz => ?_, fun z hz => ?_, fun a ha => hin (h.all a ha), fun z hz d hd => ?_⟩
  · rw [List.nodup_append]
    exact ⟨h.nodup, by simp, fun a ha b hb e => by rw [List.mem_singleton] at hb; exact hx (hb ▸ e ▸ ha)⟩
  · rcases List.mem_append.1 hz with hz | hz
    · exact h.ok z hz
    · rw [List.mem_singleton.1 hz]; exact h.told
  · rcases List.mem_append.1 hz with hz | hz
    · obtain ⟨a, ha, hr⟩ := h.told
      exact ⟨a, ha, .more hr hz⟩
    · exact h.todo z (List.mem_cons_of_mem _ hz)
  · rcases List.mem_append.1 hz with hz | hz
    · exact hin (h.come z hz d hd)
    · rw [List.mem_singleton.1 hz] at hd
      exact .inr (List.mem_append_left _ hd)
/-- All that l leads to, each once. -/
def AllS (s : Idn → List Idn) (l pre : List Idn) : Prop := pre.Nodup ∧ ∀ z, z ∈ pre ↔ ∃ a ∈ l, RchS s a z
/-- Some of it. -/
def SomeS (s : Idn → List Idn) (l pre : List Idn) : Prop := ∀ z ∈ pre, ∃ a ∈ l, RchS s a z
theorem Way.done {s : Idn → List Idn} {l pre : List Idn} (h : Way s l pre []) : AllS s l pre :=
  ⟨h.nodup, fun z => ⟨h.ok z, by
    rintro ⟨a, ha, hr⟩
    induction hr with
    | here => exact (h.all _ ha).resolve_right (by simp)
    | more _ hd ih => exact (h.come _ ih _ hd).resolve_right (by simp)⟩⟩
theorem Way.some {s : Idn → List Idn} {l pre A : List Idn} (h : Way s l pre A) : SomeS s l pre := h.ok

/-! ### How many a set has, read off the memory -/
theorem set_one {W : World} {g m m' : Nat} {zs zs' : List Idn} (h : SetP W g m zs) (h' : SetP W g m' zs') : zs = zs' := by
  have e := h.cell.symm.trans h'.cell
  injection e with e
  injection e with e
  injection e with e
  subst e
  refine rise_eq h.set.rise h'.set.rise fun x => ?_
  have key : ∀ {ys ys' : List Idn}, IsSet W m ys → IsSet W m ys' → x ∈ ys → x ∈ ys' := fun {ys ys'} k k' hx => by
    have h1 := k.look (k.wf x hx)
    have h2 := k'.look (k.wf x hx)
    rw [h1] at h2
    injection h2 with h2
    injection h2 with h2
    rw [decide_eq_true hx] at h2
    exact of_decide_eq_true h2.symm
  exact ⟨key h.set h'.set, key h'.set h.set⟩
open Classical in
noncomputable def setLen (W : World) (g : Nat) : Nat := if h : ∃ zs, ∃ m, SetP W g m zs then (Classical.choose h).length else 0
theorem setLen_eq {W : World} {g m : Nat} {zs : List Idn} (h : SetP W g m zs) : setLen W g = zs.length := by
  unfold setLen
  have hx : ∃ zs, ∃ m, SetP W g m zs := ⟨zs, m, h⟩
  rw [dif_pos hx]
  obtain ⟨m', h'⟩ := Classical.choose_spec hx
  rw [set_one h' h]
def lenV : Value → Nat
  | .slice _ n _ => n
  | _ => 0

/-! ### What stands in the list of open ways -/
/-- A way that is open: the first one, or a row of the iterator's own. -/
def Item (W : World) (M : Nat → Prop) (q0 : Slc) (l : List Idn) (q : Slc) (L : List Idn) : Prop := (q = q0 ∧ L = l) ∨ (Owns W 0 (sliceOf q) L ∧ ∀ g, (sliceOf q).ownBlock = some g → M g)
theorem Item.row {W : World} {M : Nat → Prop} {q0 q : Slc} {l L : List Idn} (h : Item W M q0 l q L) (h0 : RowAt W (sliceOf q0) l) : RowAt W (sliceOf q) L := by
  rcases h with ⟨rfl, rfl⟩ | ⟨h, -⟩
  · exact h0
  · exact h.row
theorem Item.keep {W W' : World} {M M' : Nat → Prop} {q0 q : Slc} {l L : List Idn} (h : Item W M q0 l q L) (hk : ∀ (k : Nat) (cur : Array Value), M k → W.heap[k]? = some (.cells cur 43 (0, 0)) → W'.heap[k]? = some (.cells cur 43 (0, 0))) (hs : ∀ k, M k → M' k) : Item W' M' q0 l q L := by
  rcases h with h | ⟨h, hm⟩
  · exact .inl h
  · refine .inr ⟨⟨h.1, h.2.imp id ?_⟩, fun g hg => hs g (hm g hg)⟩
    rintro ⟨g, cap, cur, h1, h2, h3, h4⟩
    exact ⟨g, cap, cur, h1, h2, hk g cur (hm g (by rw [h1]; rfl)) h3, h4⟩
/-- The list of open ways: slices qs, of the lists ls. -/
structure Ways (W : World) (M : Nat → Prop) (base : Nat) (q0 : Slc) (l : List Idn) (o : Value) (qs : List Slc) (ls : List (List Idn)) : Prop where
  len : qs.length = ls.length
  own : wdSl.Own 38 W base o qs
  mine : ∀ g, o.ownBlock = Option.some g → M g
  item : ∀ k, k < qs.length → Item W M q0 l (qs.getD k (none, 0, 0)) (ls.getD k [])
theorem Ways.keep {W W' : World} {M M' : Nat → Prop} {base : Nat} {q0 : Slc} {l : List Idn} {o : Value} {qs : List Slc} {ls : List (List Idn)} (h : Ways W M base q0 l o qs ls)
    (hk : ∀ (k : Nat) (cur : Array Value) (t : TypeId), M k → W.heap[k]? = Option.some (.cells cur t (0, 0)) → W'.heap[k]? = Option.some (.cells cur t (0, 0))) (hs : ∀ k, M k → M' k) : Ways W' M' base q0 l o qs ls :=
  ⟨h.len, ⟨h.own.1, h.own.2.imp id fun ⟨g, cap, cur, h1, h2, h3, h4⟩ => ⟨g, cap, cur, h1, h2, hk g cur _ (h.mine g (by rw [h1]; rfl)) h3, h4⟩⟩,
    fun g hg => hs g (h.mine g hg), fun k hlt => (h.item k hlt).keep (fun k cur hm hb => hk k cur _ hm hb) hs⟩
theorem keep_below {W W' : World} (hb : Below W.heap.size W W') (M : Nat → Prop) : ∀ (k : Nat) (cur : Array Value) (t : TypeId), M k → W.heap[k]? = Option.some (.cells cur t (0, 0)) → W'.heap[k]? = Option.some (.cells cur t (0, 0)) :=
  fun k cur t _ h => (hb.block k (Array.getElem?_eq_some_iff.1 h).1).trans h
theorem keep_kept {N0 : Nat} {M : Nat → Prop} {W W' : World} (hb : Kept N0 M W W') : ∀ (k : Nat) (cur : Array Value) (t : TypeId), M k → W.heap[k]? = Option.some (.cells cur t (0, 0)) → W'.heap[k]? = Option.some (.cells cur t (0, 0)) :=
  fun k cur t hm h => (hb.mine k hm).trans h
theorem keep_map {W W' : World} {m : Nat} (hg : W.grownBy W' (Option.some m)) {es : Array MapEntry} {c : Nat} (hm : W.heap[m]? = Option.some (.map es c)) (M : Nat → Prop) : ∀ (k : Nat) (cur : Array Value) (t : TypeId), M k → W.heap[k]? = Option.some (.cells cur t (0, 0)) → W'.heap[k]? = Option.some (.cells cur t (0, 0)) :=
  fun k cur t _ h => (hg.block k (Array.getElem?_eq_some_iff.1 h).1 (fun e => by cases e; rw [hm] at h; cases h)).trans h
/-- The last one is taken off. -/
theorem Ways.cut {W : World} {M : Nat → Prop} {base : Nat} {q0 : Slc} {l : List Idn} {p : Option Addr} {n cap : Nat} {qs : List Slc} {ls : List (List Idn)} (h : Ways W M base q0 l (.slice p n cap) qs ls) (k : Nat) (hk : k ≤ qs.length) : Ways W M base q0 l (.slice (cutw p cap) k cap) (qs.take k) (ls.take k) := by
  have hl := h.len
  refine ⟨by rw [List.length_take, List.length_take, hl], own_cut h.own k hk, fun g hg => h.mine g ?_, fun j hj => ?_⟩
  · cases p with
    | none => unfold cutw at hg; split at hg <;> cases hg
    | some a =>
      unfold cutw at hg
      split at hg
      · exact hg
      · simp only [Option.map_some, Value.ownBlock] at hg ⊢
        rw [← hg]; unfold Addr.add; split <;> rfl
  · rw [List.length_take] at hj
    have e1 : (qs.take k).getD j (none, 0, 0) = qs.getD j (none, 0, 0) := by rw [List.getD_eq_getElem?_getD, List.getD_eq_getElem?_getD, List.getElem?_take_of_lt (by omega)]
    have e2 : (ls.take k).getD j [] = ls.getD j [] := by rw [List.getD_eq_getElem?_getD, List.getD_eq_getElem?_getD, List.getElem?_take_of_lt (by omega)]
    rw [e1, e2]; exact h.item j (by omega)
/-- A row of slices has grown: what an item reads as stands. -/
theorem Item.far {W W' : World} {M M' : Nat → Prop} {q0 q : Slc} {l L : List Idn} (h : Item W M q0 l q L) {base : Nat} {o : Value} {qs : List Slc} (ho : wdSl.Own 38 W base o qs) (hg : W.grownBy W' o.ownBlock) (hs : ∀ k, M k → M' k) : Item W' M' q0 l q L :=
  h.keep (fun k cur _ hb => by
    refine (hg.block k (Array.getElem?_eq_some_iff.1 hb).1 (fun e => ?_)).trans hb
    rcases ho.2 with ⟨rfl, -⟩ | ⟨g', cap', cur', rfl, -, hg', -⟩
    · cases e
    · injection e with e
      subst e
      rw [hb] at hg'
      injection hg' with e
      injection e with e1 e2
      exact absurd e2 (by decide)) hs
/-- One more. -/
theorem Ways.snoc {W W' : World} {M M' : Nat → Prop} {base : Nat} {q0 : Slc} {l : List Idn} {o o' : Value} {qs : List Slc} {ls : List (List Idn)} (h : Ways W M base q0 l o qs ls) {q : Slc} {L : List Idn} (hq : Owns W 0 (sliceOf q) L) (hm : ∀ g, (sliceOf q).ownBlock = Option.some g → M g)
    (ho : wdSl.Own 38 W' base o' (qs ++ [q])) (hg : W.grownBy W' o.ownBlock) (hs : ∀ k, M k → M' k) (hn : ∀ g, o'.ownBlock = Option.some g → M' g) : Ways W' M' base q0 l o' (qs ++ [q]) (ls ++ [L]) := by
  have hk : ∀ (k : Nat) (cur : Array Value), M k → W.heap[k]? = Option.some (.cells cur 43 (0, 0)) → W'.heap[k]? = Option.some (.cells cur 43 (0, 0)) := fun k cur _ hb => by
    refine (hg.block k (Array.getElem?_eq_some_iff.1 hb).1 (fun e => ?_)).trans hb
    rcases h.own.2 with ⟨rfl, -⟩ | ⟨g', cap', cur', rfl, -, hg', -⟩
    · cases e
    · injection e with e
      subst e
      rw [hb] at hg'
      injection hg' with e
      injection e with e1 e2
      exact absurd e2 (by decide)
  have hl := h.len
  refine ⟨by simp [hl], ho, hn, fun j hj => ?_⟩
  rw [List.length_append, List.length_singleton] at hj
  by_cases hjl : j < qs.length
  · have e1 : (qs ++ [q]).getD j (none, 0, 0) = qs.getD j (none, 0, 0) := by rw [List.getD_eq_getElem?_getD, List.getElem?_append_left hjl, ← List.getD_eq_getElem?_getD]
    have e2 : (ls ++ [L]).getD j [] = ls.getD j [] := by rw [List.getD_eq_getElem?_getD, List.getElem?_append_left (by omega), ← List.getD_eq_getElem?_getD]
    rw [e1, e2]; exact (h.item j hjl).keep hk hs
  · obtain rfl : j = qs.length := by omega
    have e1 : (qs ++ [q]).getD qs.length (none, 0, 0) = q := by rw [List.getD_eq_getElem?_getD]; simp
    have e2 : (ls ++ [L]).getD qs.length [] = L := by rw [hl, List.getD_eq_getElem?_getD]; simp
    rw [e1, e2]
    exact (Item.keep (.inr ⟨hq, hm⟩ : Item W M q0 l q L) hk hs)
theorem Ways.start (W : World) (M : Nat → Prop) (q0 : Slc) (l : List Idn) (hm : M W.heap.size) : Ways (W.alloc (.cells #[sliceOf q0] 38)) M W.heap.size q0 l (.slice (some ⟨W.heap.size, 0, none⟩) 1 1) [q0] [l] := by
  refine ⟨rfl, ⟨rfl, .inr ⟨W.heap.size, 1, #[sliceOf q0], rfl, Nat.le_refl _, heap_alloc_new W _, Nat.le_refl _, by decide, rfl, rfl⟩⟩, fun g hg => ?_, fun k hk => ?_⟩
  · injection hg with hg; rw [← hg]; exact hm
  · obtain rfl : k = 0 := by simp at hk; omega
    exact .inl ⟨rfl, rfl⟩
/-- The iterator's memory between two of its steps. -/
structure Frm (N0 : Nat) (M0 : Nat → Prop) (w : World) (J : List Idn → (Nat → Prop) → World → Prop) (gt mt : Nat) (W : World) (M : Nat → Prop) (pre zs : List Idn) : Prop where
  kept : Kept N0 M0 w W
  set : SetP W gt mt zs
  mg : M gt
  mm : M mt
  lt : ∀ k, M k → k < W.heap.size
  j : J pre M W
  same : ∀ z, z ∈ zs ↔ z ∈ pre
section
variable {N0 : Nat} {M0 : Nat → Prop} {w : World} {J : List Idn → (Nat → Prop) → World → Prop} {gt mt : Nat} {W W' : World} {M : Nat → Prop} {pre zs : List Idn}
theorem Frm.below (h : Frm N0 M0 w J gt mt W M pre zs) (hJ : Sqm.Bears J) (hN : N0 ≤ w.heap.size) (hM : ∀ k, M0 k → k < w.heap.size) (hb : Below W.heap.size W W') : Frm N0 M0 w J gt mt W' (Grown M W W') pre zs :=
  ⟨h.kept.trans (Kept.of_below hb (Nat.le_trans hN h.kept.low.size) fun k hk => Nat.lt_of_lt_of_le (hM k hk) h.kept.low.size), h.set.on hb, .inl h.mg, .inl h.mm, fun k hk => by
    rcases hk with hk | hk
    · exact Nat.lt_of_lt_of_le (h.lt k hk) hb.size
    · exact hk.2, hJ _ _ _ _ _ h.j (Step.of_below M hb), h.same⟩
/-- The set has turned (an id is put in, or stood there). -/
theorem Frm.turn (h : Frm N0 M0 w J gt mt W M pre zs) (hJ : Sqm.Bears J) (hN : N0 ≤ w.heap.size) (hwm : w.heap.size ≤ mt) (hM : ∀ k, M0 k → k < w.heap.size) {zs' : List Idn} (ht : Turns gt mt zs' W W') : Kept N0 M0 w W' ∧ SetP W' gt mt zs' ∧ (∀ k, Grown M W W' k → k < W'.heap.size) ∧ J pre (Grown M W W') W' :=
  ⟨h.kept.trans ⟨⟨ht.grown.os, ht.grown.tape, ht.grown.output, ht.grown.size, fun k hk => ht.grown.block k (by have := h.kept.low.size; have := h.set.set.lt; omega) (fun e => by cases e; omega)⟩, fun k hk => ht.grown.block k (Nat.lt_of_lt_of_le (hM k hk) h.kept.low.size) (fun e => by cases e; have := hM _ hk; omega)⟩, ht.set, fun k hk => by
    rcases hk with hk | hk
    · exact Nat.lt_of_lt_of_le (h.lt k hk) ht.grown.size
    · exact hk.2, hJ _ _ _ _ _ h.j (Step.of_grown M ht.grown h.mm)⟩
/-- The list of open ways has grown. -/
theorem Frm.row (h : Frm N0 M0 w J gt mt W M pre zs) (hJ : Sqm.Bears J) {base : Nat} {o : Value} {n : Nat} {xs : List Value} {e : TypeId} {c : Nat} (ho : W.ownsRow base e c o n xs) (hmine : ∀ g, o.ownBlock = some g → M g) (hb : gt < base ∧ mt < base) (hN : N0 ≤ w.heap.size) (hwb : w.heap.size ≤ base) (hM : ∀ k, M0 k → k < w.heap.size) (hg : W.grownBy W' o.ownBlock) : Frm N0 M0 w J gt mt W' (Grown M W W') pre zs := by
  have far : ∀ k, k < base → W.heap.size > k → W'.heap[k]? = W.heap[k]? := fun k hk hlt => hg.block k hlt fun e => by
    have := (World.ownsRow.lt ho k e.symm).1
    omega
  have sz := h.kept.low.size
  refine ⟨h.kept.trans ⟨⟨hg.os, hg.tape, hg.output, hg.size, fun k hk => ?_⟩, fun k hk => far k (Nat.lt_of_lt_of_le (hM k hk) hwb) (Nat.lt_of_lt_of_le (hM k hk) sz)⟩, ⟨(World.cell?_of_block (w := W) (a := ⟨gt, 0, none⟩) (far gt hb.1 h.set.lt)).trans h.set.cell, Nat.lt_of_lt_of_le h.set.lt hg.size, h.set.set.block (far mt hb.2 h.set.set.lt)⟩, .inl h.mg, .inl h.mm, fun k hk => ?_, hJ _ _ _ _ _ h.j (Step.of_row M hg hmine), h.same⟩
  · exact far k (by omega) (by omega)
  · rcases hk with hk | hk
    · exact Nat.lt_of_lt_of_le (h.lt k hk) hg.size
    · exact hk.2
/-- A round has gone on. -/
theorem Frm.yielded {zs' : List Idn} {pre' : List Idn} (k2 : Kept N0 M0 w W) (s2 : SetP W gt mt zs') (mg : M gt) (mm : M mt) (lt : ∀ k, M k → k < W.heap.size) (hk : Kept N0 (fun k => M0 k ∨ M k) W W') (j : J pre' M W') (same : ∀ z, z ∈ zs' ↔ z ∈ pre') : Frm N0 M0 w J gt mt W' M pre' zs' :=
  ⟨k2.trans (hk.sub fun k h => .inl h), ⟨(World.cell?_of_block (w := W) (a := ⟨gt, 0, none⟩) (hk.mine gt (.inr mg))).trans s2.cell, Nat.lt_of_lt_of_le s2.lt hk.low.size, s2.set.block (hk.mine mt (.inr mm))⟩, mg, mm, fun k h => Nat.lt_of_lt_of_le (lt k h) hk.low.size, j, same⟩
end
/-- An element of a row of ids. -/
theorem row_cells {W : World} {p : Option Addr} {n c : Nat} {L : List Idn} (h : RowAt W (.slice p n c) L) {k : Nat} (hk : k < L.length) : ∃ B off, p = some ⟨B, off, none⟩ ∧ W.cell? ⟨B, off + k * 2, none⟩ = some (.int .i64 (nth L k).1) ∧ W.cell? ⟨B, off + k * 2 + 1, none⟩ = some (.int .i64 (nth L k).2) := by
  obtain ⟨p', c', e, h1, h2, h0, h3⟩ := h
  injection e with e1 e2 e3
  subst e1
  obtain ⟨B, off, rfl, hb, hc⟩ := h3 (by rintro rfl; simp at hk)
  exact ⟨B, off, rfl, (hc k hk).1, (hc k hk).2⟩
theorem row_len {W : World} {p : Option Addr} {n c : Nat} {L : List Idn} (h : RowAt W (.slice p n c) L) : n = L.length ∧ L.length ≤ 9223372036854775807 := by
  obtain ⟨p', c', e, h1, h2, h0, h3⟩ := h
  injection e with e1 e2 e3
  exact ⟨e2, by omega⟩
theorem ways_row {W : World} {M : Nat → Prop} {base : Nat} {q0 : Slc} {l : List Idn} {o : Value} {qs : List Slc} {ls : List (List Idn)} (h : Ways W M base q0 l o qs ls) : W.ownsRow base 38 1 o qs.length (wdSl.flat qs) := h.own
theorem drop_nth' {l : List Idn} {k : Nat} (hk : k < l.length) : l.drop k = nth l k :: l.drop (k + 1) := by
  rw [List.drop_eq_getElem_cons hk]
  congr 1
  unfold nth
  rw [List.getD_eq_getElem?_getD, List.getElem?_eq_getElem hk]; rfl
theorem flat_mem {L : List Idn} {ls : List (List Idn)} {A : List Idn} (z : Idn) : z ∈ L ++ (A ++ ls.flatten) ↔ z ∈ A ++ (ls ++ [L]).flatten := by
  simp only [List.mem_append, List.flatten_append, List.flatten_cons, List.flatten_nil, List.append_nil]
  constructor <;> (rintro (h | h | h) <;> simp [h])
theorem last_mem {ls : List (List Idn)} {j : Nat} (hj : ls.length = j + 1) (z : Idn) : z ∈ ls.flatten ↔ z ∈ (ls.getD j []).drop 0 ++ (ls.take j).flatten := by
  have e : ls = ls.take j ++ [ls.getD j []] := by
    have h1 : j < ls.length := by omega
    conv => lhs; rw [← List.take_append_drop j ls]
    congr 1
    rw [List.drop_eq_getElem_cons h1, List.drop_eq_nil_of_le (by omega), List.getD_eq_getElem?_getD, List.getElem?_eq_getElem h1]; rfl
  rw [List.drop_zero]
  conv => lhs; rw [e]
  simp only [List.flatten_append, List.flatten_cons, List.flatten_nil, List.append_nil, List.mem_append]
  exact Or.comm
theorem same_len {zs pre : List Idn} (hz : Rise zs) (hp : pre.Nodup) (h : ∀ z, z ∈ zs ↔ z ∈ pre) : zs.length = pre.length :=
  Nat.le_antisymm (nodup_lenI (rise_nodupI hz) fun x hx => (h x).1 hx) (nodup_lenI hp fun x hx => (h x).2 hx)
end Go.Proofs.YtjokejcokgeeiaaGreat.Rea

/- What the developers' follow tells (layer 16, reach): its walk. Conditions: those in each statement. -/
namespace Go.Proofs.YtjokejcokgeeiaaGreat.Rea
open Go.RowKit Cmd Bat Ids Rec Wid Gra Sqm Cps
set_option linter.unusedVariables false
set_option linter.unusedSimpArgs false
attribute [local go_sem] Oper.semAt_some

theorem inWide {F : Fence} (hF : F = Fence.wide) {n f : Nat} {P : Program} {args : Array Value} {w : World} {R : Ending → World → Prop} (h : Calls P f args w R) : CallsIn F n P f args w R := by subst hF; exact callsIn_wide.2 h
theorem scopeIn {F : Fence} (hF : F = Fence.wide) {n : Nat} {P : Program} {c : Code} {Q : Exit → Act → World → Prop} {a : Act} {w : World} (h : c.wpIn F n P (Exit.noGoto Q) a w) : (Code.scope c).wpIn F n P Q a w := by subst hF; exact wpIn_wide.2 (wp_scope_straight (wpIn_wide.1 h))
/-- What the function of next ids gives, in any world in which what no round turns is as it was. -/
def NextIs (F : Fence) (N0 : Nat) (M0 : Nat → Prop) (w : World) (fn : Nat) (bs lb : Array Value) (s : Idn → List Idn) : Prop :=
  ∀ (n : Nat) (W : World) (a b : Int), Kept N0 M0 w W → wfId (a, b) → CallsIn F n Tryz.prog fn (bs.push (.agg #[.int .i64 a, .int .i64 b]) ++ lb) W (GivesOwned (s (a, b)) W)
set_option maxRecDepth 100000 in
set_option maxHeartbeats 16000000 in
theorem follow_stops (F : Fence) (hF : F = Fence.wide) (n : Nat) (hf : F.fn 107) (hfn : ∀ k, F.fn k) (hro : F.round = none) (hn : 3 ≤ n) (bl bn : Nat) (q0 : Slc) (l : List Idn) (fn : Nat) (bs lb : Array Value) (eg : ∀ args w, (callFunc fn args).run Tryz.prog w = .ok (.enter fn args) w)
    (s : Idn → List Idn) (univ : List Idn) (N0 : Nat) (M0 : Nat → Prop) (w : World) (hN0 : N0 ≤ w.heap.size) (hM0 : ∀ k, M0 k → k < w.heap.size)
    (hl : w.cell? ⟨bl, 0, none⟩ = some (sliceOf q0)) (hbl : bl < N0 ∨ M0 bl) (hg : w.cell? ⟨bn, 0, none⟩ = some (.func (.func fn) bs lb)) (hbn : bn < N0 ∨ M0 bn)
    (hrow : ∀ W, Kept N0 M0 w W → RowAt W (sliceOf q0) l) (hnext : NextIs F N0 M0 w fn bs lb s)
    (huniv : ∀ a ∈ l, ∀ z, RchS s a z → z ∈ univ) (hwf : ∀ z ∈ univ, wfId z) (hlen : univ.length ≤ 100000) :
    SeqM F n Tryz.prog 107 #[.pointer (some ⟨bl, 0, none⟩), .pointer (some ⟨bn, 0, none⟩)] Itr.encI N0 M0 (fun x => x ∈ univ) (AllS s l) (SomeS s l) univ.length w := by
  intro lp J Jx W hK hJ hJx hY h0
  have h1 : 1 ≤ n := by omega
  have h2 : 1 ≤ n - 1 := by omega
  obtain ⟨p0, n0, c0⟩ := q0
  have HNew := Lib.hid (inWide hF (n := n - 1) (new_any (.slice none 0 0) [] W ⟨none, 0, rfl, Nat.le_refl _, by omega, fun _ => rfl, fun h => absurd rfl h⟩ (fun y hy => by cases hy) (by decide)))
  have cl : W.cell? ⟨bl, 0, none⟩ = some (.slice p0 n0 c0) := by
    rcases hbl with h | h
    · exact (hK.low.cell (p := ⟨bl, 0, none⟩) h).trans hl
    · exact (World.cell?_of_block (w := w) (a := ⟨bl, 0, none⟩) (hK.mine bl h)).trans hl
  have hlt := World.block_lt_of_cell? _ _ cl
  have HF := Lib.hid hF
  have HNx := Lib.hid hnext
  have HRow := Lib.hid hrow
  have HUn := Lib.hid (And.intro huniv (And.intro hwf hlen))
  have HM0 := Lib.hid hM0
  have HK := Lib.hid hK
  have HJ := Lib.hid hJ
  have HJx := Lib.hid hJx
  have HY := Lib.hid hY
  have H0 := Lib.hid h0
  have HG := Lib.hid (And.intro hg hbn)
  clear hF hnext hrow huniv hwf hlen hM0 hK hJ hJx hY h0 hg hbn hbl hl
  refine callsIn_of_wp Tryz.func107 rfl hf ?_ hro
  simp only [Tryz.ntmps107, List.size_toArray, List.length_cons, List.length_nil, Nat.reduceAdd, Nat.reduceSub, Array.replicate_succ, Array.replicate_zero, List.push_toArray, List.append_toArray, List.nil_append, List.cons_append]
  gi_wp2
  refine scopeIn HF.out ?_
  gi_wp2_with (first
    | (gi_at_call 77; refine HNew.out.mono ?_; rintro E W1 ⟨gt, mt, rfl, hgt, hmt, hset, hb1⟩; have cl1 := (hb1.cell (p := ⟨bl, 0, none⟩) hlt).trans cl; have HS1 := Lib.hid (And.intro hgt (And.intro hmt (And.intro hset hb1))); clear hgt hmt hset hb1)
    | gi_in)
  refine wpIn_label ?_
  gi_wp2
  obtain ⟨hgt, hmt, hset, hb1⟩ := HS1.out
  have hWw := HK.out.low.size
  have hbA := Cmd.below_one W1 (.cells #[.slice p0 n0 c0] 38)
  have F0 : Frm N0 M0 w J gt mt W1 (Grown (fun _ => False) W W1) [] [] :=
    ⟨HK.out.trans (Kept.of_below hb1 (by omega) fun k hk => by have := HM0.out k hk; omega), hset, .inr ⟨hgt, hset.lt⟩, .inr ⟨hmt, hset.set.lt⟩, fun k hk => by
      rcases hk with hk | hk
      · exact hk.elim
      · exact hk.2, HJ.out _ _ _ _ _ H0.out (Step.of_below _ hb1), fun z => Iff.rfl⟩
  have FR := Lib.hid (F0.below HJ.out hN0 HM0.out hbA)
  have WY := Lib.hid (Ways.start W1 (Grown (Grown (fun _ => False) W W1) W1 (W1.alloc (.cells #[.slice p0 n0 c0] 38))) (p0, n0, c0) l (.inr ⟨Nat.le_refl _, by simp⟩))
  have HB := Lib.hid (And.intro hset.lt (And.intro hset.set.lt (And.intro (show w.heap.size ≤ mt by omega) (show w.heap.size ≤ W1.heap.size by have := hb1.size; omega))))
  have SZ := Lib.hid (Nat.le_of_lt (show W1.heap.size < (W1.alloc (.cells #[.slice p0 n0 c0] 38)).heap.size by simp))
  obtain ⟨base, hbase⟩ : ∃ base, base = W1.heap.size := ⟨_, rfl⟩
  rw [← hbase] at WY HB SZ ⊢
  clear hgt hmt hset hb1 hWw hbA F0 hbase HNew HS1 cl1
  gi_loopw [5] (fun o wr => ∃ (M : Nat → Prop) (pre zs : List Idn) (qs : List Slc) (ls : List (List Idn)), Hid (Frm N0 M0 w J gt mt wr M pre zs) ∧ Hid (Ways wr M base (p0, n0, c0) l o qs ls) ∧ Hid (Way s l pre ls.flatten) ∧ Hid (ls.length ≤ pre.length + 1) ∧ Hid (base ≤ wr.heap.size)) (fun o wr => lenV o + (univ.length - setLen wr gt))
  case atStart => exact ⟨_, [], [], _, _, FR, WY, Lib.hid (Way.alike (Way.start s l) (fun z => by simp)), Lib.hid (by simp), SZ⟩
  case round =>
    obtain ⟨M, pre, zs, qs, ls, HFr, HWy, HW, HLe, HSz⟩ := hrel
    obtain ⟨p, cap, rfl, hc1, hc2, -⟩ := Wd.Own.row HWy.out.own
    obtain ⟨m, hm⟩ : ∃ m, m = qs.length := ⟨_, rfl⟩
    have HM := Lib.hid (And.intro hm (hm.trans HWy.out.len))
    rw [← hm] at HWy hc1 ⊢
    clear hm
    by_cases hm0 : 0 < m
    · obtain ⟨j, hj⟩ : ∃ j, m = j + 1 := ⟨m - 1, by omega⟩
      have kw : IntKind.i64.wrap ((m : Int) - 1) = j := by rw [show (m : Int) - 1 = j by omega]; exact IntWalk.i64_in _ (by omega)
      have m0' : (0 : Int) < m := by omega
      have j0 : (0 : Int) ≤ j := by omega
      have jm : (j : Int) < m := by omega
      have jc : (j : Int) ≤ cap := by omega
      have hjq : j < qs.length := by rw [← HM.out.1]; omega
      obtain ⟨g, hg1, hg2⟩ := own_nth HWy.out.own hjq
      obtain ⟨⟨pw, nw, cw⟩, hq⟩ : ∃ q, qs.getD j (none, 0, 0) = q := ⟨_, rfl⟩
      rw [hq] at hg2
      have c0 : wr.cell? ⟨g, j, none⟩ = some (.slice pw nw cw) := by rw [Nat.zero_add] at hg2; exact hg2
      have HCut := Lib.hid (cut_wide wtSl p m cap j (by omega))
      subst hg1
      have HJm := Lib.hid hj
      have HIt := Lib.hid (HWy.out.item j hjq)
      rw [hq] at HIt
      clear hj hjq hq hg2
      have hcut := HCut.out
      gi_wp2
      have hls : ls.length = j + 1 := by rw [← HM.out.2]; exact HJm.out
      have WY0 := Lib.hid (HWy.out.cut j (by rw [← HM.out.1, HJm.out]; omega))
      have WW0 := Lib.hid (HW.out.alike (last_mem hls))
      obtain ⟨way, hway⟩ : ∃ way, way = ls.getD j [] := ⟨_, rfl⟩
      rw [← hway] at HIt WW0
      have hnw : nw = way.length ∧ way.length ≤ 9223372036854775807 := row_len (HIt.out.row (HRow.out wr HFr.out.kept))
      have HNw := Lib.hid hnw
      have HLe0 : Hid ((ls.take j).length ≤ pre.length + 1 ∧ (ls.take j).length + (univ.length - zs.length) ≤ j + (univ.length - zs.length)) := Lib.hid (by
        have := HLe.out
        rw [List.length_take]; omega)
      have HMe : Hid (lenV (.slice (some ⟨g, 0, none⟩) m cap) + (univ.length - setLen wr gt) = j + 1 + (univ.length - zs.length)) := Lib.hid (by rw [setLen_eq HFr.out.set]; show m + _ = _; rw [HJm.out])
      obtain ⟨m1, hm1⟩ : ∃ m1, m1 = j + (univ.length - zs.length) := ⟨_, rfl⟩
      have HMe2 : Hid (lenV (.slice (some ⟨g, 0, none⟩) m cap) + (univ.length - setLen wr gt) = m1 + 1) := Lib.hid (by have := HMe.out; omega)
      rw [← hm1] at HLe0
      have nwb : nw ≤ 9223372036854775807 := by omega
      clear hnw hway hls hm1 HMe hcut kw c0 HCut
      obtain ⟨o1, ho1⟩ : ∃ o1, o1 = Value.slice (cutw (some ⟨g, 0, none⟩) cap) j cap := ⟨_, rfl⟩
      rw [← ho1] at WY0 ⊢
      clear ho1
      gi_loopw [5, 28] (fun o i wr => ∃ (k : Nat) (M : Nat → Prop) (pre zs : List Idn) (qs : List Slc) (ls : List (List Idn)), k ≤ nw ∧ i = .int .i64 k ∧ Hid (Frm N0 M0 w J gt mt wr M pre zs) ∧ Hid (Ways wr M base (p0, n0, c0) l o qs ls) ∧ Hid (Way s l pre (way.drop k ++ ls.flatten)) ∧ Hid (ls.length ≤ pre.length + 1 ∧ ls.length + (univ.length - zs.length) ≤ m1) ∧ Hid (Item wr M (p0, n0, c0) l (pw, nw, cw) way) ∧ Hid (base ≤ wr.heap.size)) (fun _ i _ => nw - (intOf i).toNat)
      case atStart => exact ⟨0, M, pre, zs, _, _, Nat.zero_le _, rfl, HFr, WY0, WW0, HLe0, HIt, HSz⟩
      case round =>
        clear HFr WY0 WW0 HLe0 HIt HSz HWy HW HLe
        obtain ⟨k, M, pre, zs, qs, ls, hk, rfl, HFr, HWy, HW, HLe, HIt, HSz⟩ := hrel
        have k0 : (0 : Int) ≤ k := by omega
        by_cases hkn : k < nw
        · have kn : (k : Int) < nw := by omega
          have hkw : k < way.length := by rw [← HNw.out.1]; exact hkn
          obtain ⟨B, off, hpw, d0, d1⟩ := row_cells (HIt.out.row (HRow.out wr HFr.out.kept)) hkw
          have hpw : pw = some ⟨B, off, none⟩ := hpw
          subst hpw
          obtain ⟨⟨x, y⟩, hxy⟩ : ∃ z, nth way k = z := ⟨_, rfl⟩
          rw [hxy] at d0 d1
          have HWx : Hid (Way s l pre ((x, y) :: (way.drop (k + 1) ++ ls.flatten))) := Lib.hid (by
            have := HW.out
            rw [drop_nth' hkw, hxy] at this; exact this)
          obtain ⟨a0, ha0, hr0⟩ := HWx.out.told
          have hxu := HUn.out.1 a0 ha0 _ hr0
          have hxw := HUn.out.2.1 _ hxu
          have hzl := same_len HFr.out.set.set.rise HWx.out.nodup HFr.out.same
          have hpl := nodup_lenI HWx.out.nodup (fun z hz => by obtain ⟨a, ha, hr⟩ := HWx.out.ok z hz; exact HUn.out.1 a ha z hr)
          have hul := HUn.out.2.2
          -- the box of the loop's variable
          have hb1 := Cmd.below_one wr (.cells #[.int .i64 x, .int .i64 y] 43)
          have FB := Lib.hid (HFr.out.below HJ.out hN0 HM0.out hb1)
          have hbx := heap_alloc_new wr (.cells #[.int .i64 x, .int .i64 y] 43)
          have HWy1 := Lib.hid (HWy.out.keep (M' := Grown M wr (wr.alloc (.cells #[.int .i64 x, .int .i64 y] 43))) (keep_below hb1 M) (fun k hk => .inl hk))
          have HIt1 := Lib.hid (HIt.out.keep (M' := Grown M wr (wr.alloc (.cells #[.int .i64 x, .int .i64 y] 43))) (fun k cur hm hh => keep_below hb1 M k cur _ hm hh) (fun k hk => .inl hk))
          have HX1 := Lib.hid (And.intro hbx (show Grown M wr (wr.alloc (.cells #[.int .i64 x, .int .i64 y] 43)) wr.heap.size from .inr ⟨Nat.le_refl _, by simp⟩))
          have HCA := Lib.hid (inWide HF.out (n := n - 1) (add_p gt mt zs x y _ FB.out.set hxw (by omega)))
          have e0 := cell_row (i := 0) hbx rfl
          have e1 := cell_row (i := 1) hbx rfl
          have HSz1 : Hid (base ≤ (wr.alloc (.cells #[.int .i64 x, .int .i64 y] 43)).heap.size) := Lib.hid (by have := HSz.out; simp; omega)
          have HmtX : Hid (mt ≠ wr.heap.size) := Lib.hid (by have := HFr.out.set.set.lt; omega)
          have HPl := Lib.hid (And.intro hzl (And.intro hpl hul))
          have HXu := Lib.hid (And.intro hxu hxw)
          unfold setPtr
          by_cases hm : (x, y) ∈ zs
          · have hmp := (HFr.out.same _).1 hm
            have HW2 := Lib.hid (HWx.out.skip hmp)
            have HPut := Lib.hid (put_of_mem hm)
            rw [decide_eq_true hm] at HCA
            clear hkw hxy hb1 hbx hzl hpl hul hxu hxw hm hmp ha0 hr0
            gi_wp2_with (first
              | (gi_at_call 108; refine HCA.out.mono ?_; rintro E W2 ⟨rfl, ht⟩; have HT := Lib.hid ht; clear ht)
              | gi_in)
            rw [HPut.out] at HT
            obtain ⟨k2, s2, l2, j2⟩ := FB.out.turn HJ.out hN0 HB.out.2.2.1 HM0.out HT.out
            obtain ⟨es, cc, hmap⟩ := FB.out.set.set.isMap
            go_roundw
            case rel => exact ⟨k + 1, _, pre, zs, qs, ls, by omega, by go_num, Lib.hid ⟨k2, s2, .inl FB.out.mg, .inl FB.out.mm, l2, j2, HFr.out.same⟩, Lib.hid (HWy1.out.keep (keep_map HT.out.grown hmap _) (fun k hk => .inl hk)), HW2, HLe, Lib.hid (HIt1.out.keep (fun k cur hm hh => keep_map HT.out.grown hmap _ k cur _ hm hh) (fun k hk => .inl hk)), Lib.hid (Nat.le_trans HSz1.out HT.out.grown.size)⟩
            case measure => simp [intOf]; omega
          · rw [decide_eq_false hm] at HCA
            have hmp : (x, y) ∉ pre := fun h => hm ((HFr.out.same _).2 h)
            have HW2 := Lib.hid (HWx.out.tell hmp)
            have HSm : Hid (∀ z, z ∈ put zs (x, y) ↔ z ∈ pre ++ [(x, y)]) := Lib.hid fun z => by
              rw [put_mem, List.mem_append, List.mem_singleton, HFr.out.same]
              exact Or.comm
            have HZl : Hid (pre.length < univ.length ∧ (put zs (x, y)).length = pre.length + 1) := Lib.hid (by
              have h1 := nodup_lenI HW2.out.nodup (fun z hz => by obtain ⟨a, ha, hr⟩ := HW2.out.ok z hz; exact HUn.out.1 a ha z hr)
              have h2 := same_len (put_rise HFr.out.set.set.rise (x := (x, y))) HW2.out.nodup HSm.out
              rw [List.length_append, List.length_singleton] at h1 h2
              exact ⟨by omega, h2⟩)
            clear hkw hxy hb1 hbx hzl hpl hul hxu hxw hm hmp ha0 hr0
            gi_wp2_with (first
              | (gi_at_call 108; refine HCA.out.mono ?_; rintro E W2 ⟨rfl, ht⟩; have HT := Lib.hid ht; have hbx2 := (ht.grown.block wr.heap.size (by simp) (fun e => HmtX.out (by cases e; rfl))).trans HX1.out.1; have g0 := cell_row (i := 0) hbx2 rfl; have g1 := cell_row (i := 1) hbx2 rfl; have HX2 := Lib.hid hbx2; obtain ⟨k2, s2, l2, j2⟩ := FB.out.turn HJ.out hN0 HB.out.2.2.1 HM0.out ht; obtain ⟨fnY, tmpsY, assignY, bodyY, hy, hR⟩ := HY.out pre (x, y) _ W2 HXu.out.1 j2 HZl.out.1; dsimp only [Itr.encI] at hy; have HR := Lib.hid hR; have HFF := Lib.hid (And.intro k2 (And.intro s2 l2)); clear ht hbx2 k2 s2 l2 j2 hR)
              | gi_in)
            refine HR.out.mono ?_
            obtain ⟨es, cc, hmap⟩ := FB.out.set.set.isMap
            have HWy2 := Lib.hid (HWy1.out.keep (M' := Sqm.Grown (Sqm.Grown M wr (wr.alloc (.cells #[.int .i64 x, .int .i64 y] 43))) (wr.alloc (.cells #[.int .i64 x, .int .i64 y] 43)) W2) (keep_map HT.out.grown hmap _) (fun k hk => .inl hk))
            have HIt2 := Lib.hid (HIt1.out.keep (M' := Sqm.Grown (Sqm.Grown M wr (wr.alloc (.cells #[.int .i64 x, .int .i64 y] 43))) (wr.alloc (.cells #[.int .i64 x, .int .i64 y] 43)) W2) (fun k cur hm hh => keep_map HT.out.grown hmap _ k cur _ hm hh) (fun k hk => .inl hk))
            have HMm : Hid (Sqm.Grown (Sqm.Grown M wr (wr.alloc (.cells #[.int .i64 x, .int .i64 y] 43))) (wr.alloc (.cells #[.int .i64 x, .int .i64 y] 43)) W2 gt ∧ Sqm.Grown (Sqm.Grown M wr (wr.alloc (.cells #[.int .i64 x, .int .i64 y] 43))) (wr.alloc (.cells #[.int .i64 x, .int .i64 y] 43)) W2 mt ∧ Sqm.Grown (Sqm.Grown M wr (wr.alloc (.cells #[.int .i64 x, .int .i64 y] 43))) (wr.alloc (.cells #[.int .i64 x, .int .i64 y] 43)) W2 wr.heap.size) := Lib.hid ⟨.inl FB.out.mg, .inl FB.out.mm, .inl HX1.out.2⟩
            have HSz2 : Hid (base ≤ W2.heap.size) := Lib.hid (Nat.le_trans HSz1.out HT.out.grown.size)
            obtain ⟨M2, hM2⟩ : ∃ M2, M2 = Sqm.Grown (Sqm.Grown M wr (wr.alloc (.cells #[.int .i64 x, .int .i64 y] 43))) (wr.alloc (.cells #[.int .i64 x, .int .i64 y] 43)) W2 := ⟨_, rfl⟩
            rw [← hM2] at HFF HWy2 HIt2 HMm ⊢
            clear hM2 hmap HT FB HWy1 HIt1 HX1 HWy HIt HFr HR
            rintro e W3 (⟨rfl, hj3, hk3⟩ | ⟨rfl, hjx⟩)
            · have F3 := Lib.hid (Frm.yielded HFF.out.1 HFF.out.2.1 HMm.out.1 HMm.out.2.1 HFF.out.2.2 hk3 hj3 HSm.out)
              have HWy3 := Lib.hid (HWy2.out.keep (keep_kept (hk3.sub fun k hk => .inr hk)) (fun k hk => hk))
              have HIt3 := Lib.hid (HIt2.out.keep (fun k cur hm hh => keep_kept (hk3.sub fun k hk => .inr hk) k cur _ hm hh) (fun k hk => hk))
              have hbx3 := (hk3.mine _ (.inr HMm.out.2.2)).trans HX2.out
              have f0 := cell_row (i := 0) hbx3 rfl
              have f1 := cell_row (i := 1) hbx3 rfl
              have cfn : W3.cell? ⟨bn, 0, none⟩ = some (.func (.func fn) bs lb) := by
                rcases HG.out.2 with h | h
                · exact (F3.out.kept.low.cell (p := ⟨bn, 0, none⟩) h).trans HG.out.1
                · exact (World.cell?_of_block (w := w) (a := ⟨bn, 0, none⟩) (F3.out.kept.mine bn h)).trans HG.out.1
              have HCN := Lib.hid (HNx.out (n - 1) W3 x y F3.out.kept HXu.out.2)
              have HSz3 : Hid (base ≤ W3.heap.size) := Lib.hid (Nat.le_trans HSz2.out hk3.low.size)
              clear hj3 hk3 hbx3 g0 g1 e0 e1 d0 d1
              gi_wp2
              refine HCN.out.mono ?_
              rintro e W4 ⟨v4, rfl, ho4, hb4⟩
              obtain ⟨p4, n4, c4, rfl⟩ := own_is ho4
              have F4 := F3.out.below HJ.out hN0 HM0.out hb4
              have hb5 := Cmd.below_one W4 (.cells #[.slice p4 n4 c4] 38)
              have F5 := Lib.hid (F4.below HJ.out hN0 HM0.out hb5)
              have HWy5 := Lib.hid ((HWy3.out.keep (M' := Sqm.Grown M2 W3 W4) (keep_below hb4 M2) (fun k hk => .inl hk)).keep (M' := Sqm.Grown (Sqm.Grown M2 W3 W4) W4 (W4.alloc (.cells #[.slice p4 n4 c4] 38))) (keep_below hb5 _) (fun k hk => .inl hk))
              have HIt5 := Lib.hid ((HIt3.out.keep (M' := Sqm.Grown M2 W3 W4) (fun k cur hm hh => keep_below hb4 M2 k cur _ hm hh) (fun k hk => .inl hk)).keep (M' := Sqm.Grown (Sqm.Grown M2 W3 W4) W4 (W4.alloc (.cells #[.slice p4 n4 c4] 38))) (fun k cur hm hh => keep_below hb5 _ k cur _ hm hh) (fun k hk => .inl hk))
              have HO5 : Hid (Owns (W4.alloc (.cells #[.slice p4 n4 c4] 38)) 0 (sliceOf (p4, n4, c4)) (s (x, y))) := Lib.hid (own_mono (own_below ho4 hb5) (Nat.zero_le _))
              have HN5 : Hid (∀ g, (sliceOf (p4, n4, c4)).ownBlock = some g → Sqm.Grown (Sqm.Grown M2 W3 W4) W4 (W4.alloc (.cells #[.slice p4 n4 c4] 38)) g) := Lib.hid fun g hg => .inl (.inr ⟨(World.ownsRow.lt ho4 g hg).1, (World.ownsRow.lt ho4 g hg).2⟩)
              have HSz5 : Hid (base ≤ (W4.alloc (.cells #[.slice p4 n4 c4] 38)).heap.size) := Lib.hid (by have := HSz3.out; have := hb4.size; simp; omega)
              have HE5 := Lib.hid (heap_alloc_new W4 (.cells #[.slice p4 n4 c4] 38))
              have HQl : Hid (qs.length + 1 ≤ 1000000) := Lib.hid (by
                have := HLe.out.1; have := HWy5.out.len; have := HPl.out; omega)
              have hrow5 := ways_row HWy5.out
              obtain ⟨i0, hi, hz0, hz1, hz2⟩ := info_parts infoSl
              clear ho4 hb4 F4 hb5 f0 f1 cfn
              gi_wp2_with (first
                | (gi_at_builtin; refine in_append _ rfl _ _ 30 rfl base 38 i0 (.slice none 0 0) 1 24 Tryz.underlying30 hi hz0 hz1 hz2 rfl (by decide) _ _ _ rfl hrow5 W4.heap.size #[.slice p4 n4 c4] rfl HE5.out rfl (by simp [Value.oneCell']) HQl.out (by decide) HSz5.out ?_; intro v6 W6 hown6 hgrow6 hat6; have HO6 := Lib.hid (own_snoc1 hown6); have HG6 := Lib.hid hgrow6; have HA6 := Lib.hid hat6; clear hown6 hgrow6 hat6)
                | gi_in)
              have F6 := Lib.hid (F5.out.row HJ.out hrow5 HWy5.out.mine ⟨HB.out.1, HB.out.2.1⟩ hN0 HB.out.2.2.2 HM0.out HG6.out)
              have HWy6 := Lib.hid (HWy5.out.snoc (M' := Sqm.Grown (Sqm.Grown (Sqm.Grown M2 W3 W4) W4 (W4.alloc (.cells #[.slice p4 n4 c4] 38))) (W4.alloc (.cells #[.slice p4 n4 c4] 38)) W6) HO5.out HN5.out HO6.out HG6.out (fun k hk => .inl hk) (fun g hg => by
                rcases HA6.out with h | h
                · rw [h] at hg; exact .inl (HWy5.out.mine g hg)
                · have h2 := (World.ownsRow.lt HO6.out g hg).2
                  rw [h] at hg; injection hg with hg
                  exact .inr ⟨by rw [hg]; exact Nat.le_refl _, h2⟩))
              have HIt6 : Hid (Item W6 (Sqm.Grown (Sqm.Grown (Sqm.Grown M2 W3 W4) W4 (W4.alloc (.cells #[.slice p4 n4 c4] 38))) (W4.alloc (.cells #[.slice p4 n4 c4] 38)) W6) (p0, n0, c0) l (some ⟨B, off, none⟩, nw, cw) way) := Lib.hid (HIt5.out.far HWy5.out.own HG6.out (fun k hk => .inl hk))
              have HLe6 : Hid ((ls ++ [s (x, y)]).length ≤ (pre ++ [(x, y)]).length + 1 ∧ (ls ++ [s (x, y)]).length + (univ.length - (put zs (x, y)).length) ≤ m1) := Lib.hid (by
                have h1 := HLe.out; have h2 := HZl.out; have h3 := HPl.out
                rw [List.length_append, List.length_append, List.length_singleton, List.length_singleton, h2.2]
                omega)
              go_roundw
              case rel => exact ⟨k + 1, _, pre ++ [(x, y)], put zs (x, y), qs ++ [(p4, n4, c4)], ls ++ [s (x, y)], by omega, by go_num, F6, HWy6, Lib.hid (HW2.out.alike flat_mem), HLe6, HIt6, Lib.hid (Nat.le_trans HSz5.out HG6.out.size)⟩
              case measure => simp [intOf]; omega
            · gi_wp2
              dsimp only [Exit.noGoto]
              go_end0
              exact ⟨⟨_, rfl⟩, .inr ⟨pre ++ [(x, y)], M2, HW2.out.some, hjx⟩⟩
        · have kn : ¬ (k : Int) < nw := by omega
          have hke : k = nw := by omega
          have HW2 : Hid (Way s l pre ls.flatten) := Lib.hid (HW.out.alike fun z => by rw [List.drop_eq_nil_of_le (by rw [← HNw.out.1]; omega)]; rfl)
          gi_wp2
          go_roundw
          case rel => exact ⟨M, pre, zs, qs, ls, HFr, HWy, HW2, Lib.hid HLe.out.1, HSz⟩
          case measure =>
            have h1 := HLe.out.2
            have h2 := HMe2.out
            have h3 := setLen_eq HFr.out.set
            have h4 := HWy.out.len
            obtain ⟨p', cap', e', -⟩ := Wd.Own.row HWy.out.own
            subst e'
            show lenV _ + (univ.length - setLen wr gt) < lenV _ + _
            rw [h2, h3]
            show qs.length + _ < _
            omega
    · obtain rfl : m = 0 := by omega
      gi_wp2
      dsimp only [Exit.noGoto]
      go_end0
      have hl0 : ls = [] := List.eq_nil_of_length_eq_zero HM.out.2.symm
      have HD := HW.out
      rw [hl0] at HD
      exact ⟨⟨_, rfl⟩, .inl ⟨pre, M, HD.done, HFr.out.j⟩⟩
end Go.Proofs.YtjokejcokgeeiaaGreat.Rea

/- The library's slices.AppendSeq and slices.Collect at ids, over an iterator that keeps state of its own (layer 16, reach): what it tells comes in a row of the call's own. Conditions: those in each statement. -/
namespace Go.Proofs.YtjokejcokgeeiaaGreat.Rea
open Go.RowKit Cmd Bat Ids Rec Wid Gra Sqm Cps Go.Shelf
set_option linter.unusedVariables false
set_option linter.unusedSimpArgs false
attribute [local go_sem] Oper.semAt_some

/-- What stands between two rounds of AppendSeq: the row is in a box at b. -/
structure App (w : World) (b : Nat) (pre : List Idn) (M : Nat → Prop) (W : World) : Prop where
  row : ∃ v, Go.Boxed W b 38 v ∧ Owns W b v pre ∧ ∀ g, v.ownBlock = some g → ¬ M g
  below : Below b w W
  far : ∀ k, M k → b < k
theorem App.bears (w : World) (b B : Nat) (hB : b ≤ B) (hbw : b ≤ w.heap.size) : BearsFar B (fun pre M W => App w b pre M W) := fun pre M M' W W' h k => by
  obtain ⟨⟨v, h1, h2, h3⟩, hb, hf⟩ := h
  have sz := hb.size
  refine ⟨⟨v, k.block b _ h1 (fun hm => absurd (hf b hm) (Nat.lt_irrefl _)) (fun _ => rfl), ⟨h2.1, h2.2.imp id ?_⟩, fun g hg hm => ?_⟩, ⟨k.os.trans hb.os, k.tape.trans hb.tape, k.output.trans hb.output, Nat.le_trans sz k.size, fun j hj => ?_⟩, fun j hj => ?_⟩
  · rintro ⟨g, cap, cur, e1, e2, e3, e4⟩
    exact ⟨g, cap, cur, e1, e2, k.block g _ e3 (h3 g (by rw [e1]; rfl)) (fun _ => rfl), e4⟩
  · rcases k.new g hm with hm | hm
    · exact h3 g hg hm
    · have := (World.ownsRow.lt h2 g hg).2; omega
  · have hj2 : j < W.heap.size := Nat.lt_of_lt_of_le hj (Nat.le_trans hbw sz)
    refine Eq.trans ?_ (hb.block j hj)
    rw [Array.getElem?_eq_getElem hj2]
    exact k.block j _ (Array.getElem?_eq_getElem hj2) (fun hm => by have := hf j hm; omega) (fun h => by omega)
  · rcases k.new j hj with hm | hm
    · exact hf j hm
    · have := h1.lt; omega
end Go.Proofs.YtjokejcokgeeiaaGreat.Rea
