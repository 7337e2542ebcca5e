/- A range over a function whose iterator keeps state of its own in memory (cells, maps), between rounds whose body keeps state of its own: who may turn which block; the iterator's contract (SeqM), the law for its caller (range_mine). Conditions: those in each statement. -/
import Derived.RangeFuncNested
import Derived.RangeFuncBound
import Derived.RangeFuncLeaves
namespace Go.Proofs.YtjokejcokgeeiaaGreat.Sqm
open Go Go.RowKit
set_option linter.unusedVariables false
set_option linter.unusedSimpArgs false

/-- What the iterator does between two rounds: it turns blocks of its own (M) alone, and new ones may become its own. -/
structure Step (M M' : Nat → Prop) (W W' : World) : Prop where
  os : W'.os = W.os
  tape : W'.tape = W.tape
  output : W'.output = W.output
  size : W.heap.size ≤ W'.heap.size
  block : ∀ k, k < W.heap.size → ¬ M k → W'.heap[k]? = W.heap[k]?
  sub : ∀ k, M k → M' k
  new : ∀ k, M' k → M k ∨ (W.heap.size ≤ k ∧ k < W'.heap.size)
/-- What a caller's invariant must bear: the iterator's steps, and turns of blocks without cells from B on. -/
structure Far (B : Nat) (M M' : Nat → Prop) (W W' : World) : Prop where
  os : W'.os = W.os
  tape : W'.tape = W.tape
  output : W'.output = W.output
  size : W.heap.size ≤ W'.heap.size
  block : ∀ (k : Nat) (o : Obj), W.heap[k]? = some o → ¬ M k → (B ≤ k → o.isCells = true) → W'.heap[k]? = some o
  sub : ∀ k, M k → M' k
  new : ∀ k, M' k → M k ∨ (W.heap.size ≤ k ∧ k < W'.heap.size)
theorem Step.refl (M : Nat → Prop) (W : World) : Step M M W W := ⟨rfl, rfl, rfl, Nat.le_refl _, fun _ _ _ => rfl, fun _ h => h, fun _ h => .inl h⟩
theorem Step.trans {M M' M'' : Nat → Prop} {A B C : World} (h : Step M M' A B) (g : Step M' M'' B C) : Step M M'' A C :=
  ⟨g.os.trans h.os, g.tape.trans h.tape, g.output.trans h.output, Nat.le_trans h.size g.size,
    fun k hk hM => (g.block k (Nat.lt_of_lt_of_le hk h.size) (fun hm => by
      rcases h.new k hm with h1 | h1
      · exact hM h1
      · omega)).trans (h.block k hk hM),
    fun k hk => g.sub k (h.sub k hk), fun k hk => by
      rcases g.new k hk with h1 | ⟨h1, h2⟩
      · rcases h.new k h1 with h2 | ⟨h2, h3⟩
        · exact .inl h2
        · exact .inr ⟨h2, Nat.lt_of_lt_of_le h3 g.size⟩
      · exact .inr ⟨Nat.le_trans h.size h1, h2⟩⟩
/-- What is laid while M's blocks are kept becomes the iterator's own. -/
def Grown (M : Nat → Prop) (W W' : World) : Nat → Prop := fun k => M k ∨ (W.heap.size ≤ k ∧ k < W'.heap.size)
theorem Step.of_below (M : Nat → Prop) {W W' : World} (h : Below W.heap.size W W') : Step M (Grown M W W') W W' :=
  ⟨h.os, h.tape, h.output, h.size, fun k hk _ => h.block k hk, fun _ hk => .inl hk, fun _ hk => hk⟩
theorem Step.of_grown (M : Nat → Prop) {W W' : World} {b : Nat} (h : W.grownBy W' (some b)) (hb : M b) : Step M (Grown M W W') W W' :=
  ⟨h.os, h.tape, h.output, h.size, fun k hk hM => h.block k hk (fun e => hM (by cases e; exact hb)), fun _ hk => .inl hk, fun _ hk => hk⟩
theorem Step.of_row (M : Nat → Prop) {W W' : World} {row : Option Nat} (h : W.grownBy W' row) (hb : ∀ b, row = some b → M b) : Step M (Grown M W W') W W' :=
  ⟨h.os, h.tape, h.output, h.size, fun k hk hM => h.block k hk (fun e => hM (hb k e.symm)), fun _ hk => .inl hk, fun _ hk => hk⟩
theorem Step.drew (M : Nat → Prop) (W : World) : Step M M W W.drew := ⟨rfl, rfl, rfl, Nat.le_refl _, fun _ _ _ => rfl, fun _ h => h, fun _ h => .inl h⟩
theorem Step.far {M M' : Nat → Prop} {W W' : World} (h : Step M M' W W') (B : Nat) : Far B M M' W W' :=
  ⟨h.os, h.tape, h.output, h.size, fun k o hk hM _ => (h.block k (Array.getElem?_eq_some_iff.1 hk).1 hM).trans hk, h.sub, h.new⟩
theorem Far.alloc (B : Nat) (M : Nat → Prop) (W : World) (o : Obj) : Far B M M W (W.alloc o) :=
  ⟨rfl, rfl, rfl, by simp, fun k o' hk _ _ => (Below.heap_alloc W o k (Array.getElem?_eq_some_iff.1 hk).1).trans hk, fun _ h => h, fun _ h => .inl h⟩
theorem Far.put {B : Nat} {M : Nat → Prop} {W : World} {l : Nat} {o : Obj} (o' : Obj) (hB : B ≤ l) (hl : W.heap[l]? = some o) (ho : o.isCells = false) : Far B M M W (W.putObj l o') :=
  ⟨rfl, rfl, rfl, by simp, fun k o2 hk _ hc => by
    by_cases e : k = l
    · subst e
      rw [hl] at hk; cases hk
      rw [hc hB] at ho; cases ho
    · exact (World.putObj_heap_other e).trans hk, fun _ h => h, fun _ h => .inl h⟩
def Bears {β : Type} (J : β → (Nat → Prop) → World → Prop) : Prop := ∀ s M M' W W', J s M W → Step M M' W W' → J s M' W'
def BearsFar {β : Type} (B : Nat) (J : β → (Nat → Prop) → World → Prop) : Prop := ∀ s M M' W W', J s M W → Far B M M' W W' → J s M' W'
theorem BearsFar.false {β : Type} (B : Nat) : BearsFar B (fun (_ : β) _ _ => False) := fun _ _ _ _ _ h _ => h
/-- What a round keeps for the iterator. -/
structure Kept (N0 : Nat) (M : Nat → Prop) (W W' : World) : Prop where
  low : Below N0 W W'
  mine : ∀ k, M k → W'.heap[k]? = W.heap[k]?
theorem Kept.refl (N0 : Nat) (M : Nat → Prop) (W : World) : Kept N0 M W W := ⟨Below.refl _ _, fun _ _ => rfl⟩
theorem Kept.trans {N0 : Nat} {M : Nat → Prop} {A B C : World} (h : Kept N0 M A B) (g : Kept N0 M B C) : Kept N0 M A C := ⟨h.low.trans g.low, fun k hk => (g.mine k hk).trans (h.mine k hk)⟩
theorem Kept.of_below {N0 : Nat} {M : Nat → Prop} {W W' : World} (h : Below W.heap.size W W') (hN : N0 ≤ W.heap.size) (hM : ∀ k, M k → k < W.heap.size) : Kept N0 M W W' := ⟨h.mono hN, fun k hk => h.block k (hM k hk)⟩
theorem Kept.put {N0 : Nat} {M : Nat → Prop} (W : World) {l : Nat} (o' : Obj) (hN : N0 ≤ l) (hM : ¬ M l) : Kept N0 M W (W.putObj l o') :=
  ⟨⟨rfl, rfl, rfl, by simp, fun k hk => World.putObj_heap_other (by omega)⟩, fun k hk => World.putObj_heap_other (fun e => hM (e ▸ hk))⟩
theorem Kept.sub {N0 : Nat} {M M' : Nat → Prop} {W W' : World} (h : Kept N0 M' W W') (hs : ∀ k, M k → M' k) : Kept N0 M W W' := ⟨h.low, fun k hk => h.mine k (hs k hk)⟩
/-- What a round that leaves the loop gives its word for. -/
structure Leave (B : Nat) (W W' : World) : Prop where
  size : W.heap.size ≤ W'.heap.size
  same : ∀ (k : Nat) (o : Obj), B ≤ k → W.heap[k]? = some o → o.isCells = false → W'.heap[k]? = some o
/-- What a round's body gives its word for. -/
structure Word (B N0 : Nat) (M : Nat → Prop) (W W' : World) : Prop where
  kept : Kept N0 M W W'
  same : ∀ (k : Nat) (o : Obj), B ≤ k → W.heap[k]? = some o → o.isCells = false → W'.heap[k]? = some o
theorem Word.leave {B N0 : Nat} {M : Nat → Prop} {W W' : World} (h : Word B N0 M W W') : Leave B W W' := ⟨h.kept.low.size, h.same⟩
theorem Leave.setCell {B : Nat} {W W' : World} (h : Leave B W W') (a : Addr) (u : Value) : Leave B W (W'.setCell a u) :=
  ⟨Nat.le_trans h.size (KeepsOthers.setCell W' a u).size, fun k o hB hk ho => (KeepsOthers.setCell W' a u).same k o (h.same k o hB hk ho) ho⟩
theorem Word.refl (B N0 : Nat) (M : Nat → Prop) (W : World) : Word B N0 M W W := ⟨.refl _ _ _, fun _ _ _ h _ => h⟩
theorem Word.trans {B N0 : Nat} {M : Nat → Prop} {X Y Z : World} (h : Word B N0 M X Y) (g : Word B N0 M Y Z) : Word B N0 M X Z := ⟨h.kept.trans g.kept, fun k o hB hk ho => g.same k o hB (h.same k o hB hk ho) ho⟩
theorem Word.of_below {B N0 : Nat} {M : Nat → Prop} {W W' : World} (h : Below W.heap.size W W') (hN : N0 ≤ W.heap.size) (hM : ∀ k, M k → k < W.heap.size) : Word B N0 M W W' :=
  ⟨.of_below h hN hM, fun k o _ hk _ => (h.block k (Array.getElem?_eq_some_iff.1 hk).1).trans hk⟩
def post {α : Type} (B N0 : Nat) (M0 : Nat → Prop) (I : List α → (Nat → Prop) → World → Prop) (Ix : Code → List α → (Nat → Prop) → World → Prop) (xs : List α) (M : Nat → Prop) (W : World) : Exit → Act → World → Prop
  | .normal, _, W' => Word B N0 (fun k => M0 k ∨ M k) W W' ∧ I xs M W'
  | .ret, _, W' => Leave B W W' ∧ Ix .ret xs M W'
  | .exit id, _, W' => Leave B W W' ∧ Ix (.exit id) xs M W'
  | .goto t, _, W' => Leave B W W' ∧ Ix (.goto t) xs M W'
  | .panic _, _, _ => False
  | .outgrown, _, _ => False
/-- The contract of an iterator: no round turns its own blocks, nor those that it reads: what lies under N0, and M0; what it tells is Ok. -/
def SeqM {α : Type} (F : Fence) (n : Nat) (P : Program) (g : Nat) (lb : Array Value) (encs : α → Array Value) (N0 : Nat) (M0 : Nat → Prop) (Ok : α → Prop) (S Sp : List α → Prop) (N : Nat) (w : World) : Prop :=
  ∀ (l : Nat) (J Jx : List α → (Nat → Prop) → World → Prop) (W : World), Kept N0 M0 w W → Bears J → Bears Jx →
    (∀ pre x M W1, Ok x → J pre M W1 → pre.length < N → YieldAt F (n - 1) P l (encs x) W1 fun e W' =>
      (e = .returned (.bool true) ∧ J (pre ++ [x]) M W' ∧ Kept N0 (fun k => M0 k ∨ M k) W1 W') ∨ (e = .returned (.bool false) ∧ Jx (pre ++ [x]) M W')) →
    J [] (fun _ => False) W →
    CallsIn F n P g (#[.func (.yield l) #[] #[]] ++ lb) W fun e W' => (∃ v, e = .returned v) ∧ ((∃ xs M, S xs ∧ J xs M W') ∨ (∃ pre M, Sp pre ∧ Jx pre M W'))

variable {F : Fence} {n : Nat} {P : Program} {α : Type}
/-- The law for who ranges over it: the loop variable lies in a box of its own in each round. -/
theorem range_mine {g : Operand} {ps : Array Tmp} {assign body : Code} {Q : Exit → Act → World → Prop} {a : Act} {w : World}
    (hro : F.round = none) (h1 : 1 ≤ n) {gf : Nat} {lb : Array Value} (hg : a.eval g = .func (.func gf) #[] lb) (hFg : F.fn gf) (eg : ∀ args w, (callFunc gf args).run P w = .ok (.enter gf args) w)
    {encs : α → Array Value} {N0 : Nat} {M0 : Nat → Prop} {Ok : α → Prop} {S Sp : List α → Prop} {N : Nat} {w0 : World} (hseq : SeqM F (n - 1) P gf lb encs N0 M0 Ok S Sp N w0) (hk0 : Kept N0 M0 w0 w) (hN0 : N0 ≤ w.heap.size) (hM0 : ∀ k, M0 k → k < w.heap.size) (hps : ∀ x, (encs x).size = ps.size)
    (box : α → Obj) (hbox : ∀ x, (box x).isCells = true) (A : α → Nat → Act)
    (I : List α → (Nat → Prop) → World → Prop) (Ix : Code → List α → (Nat → Prop) → World → Prop) (hI : BearsFar w.heap.size I) (hIx : ∀ c, BearsFar w.heap.size (Ix c)) (h0 : I [] (fun _ => False) w)
    (hassign : ∀ (l : Nat) (x : α) (W : World) (K : Act → World → Prop), K (A x W.heap.size) (W.alloc (box x)) →
      assign.wpIn (F.inRound l) (n - 1 - 1) P (Exit.then K (fun _ _ _ => False)) { tmps := (ps.zip (encs x)).foldl (fun t (p, v) => t.setIfInBounds p v) a.tmps, defers := [] } W)
    (hbody : ∀ (l : Nat) (pre : List α) (x : α) (M : Nat → Prop) (Bx : Nat) (W : World), Ok x → w.heap.size ≤ Bx → W.heap[Bx]? = some (box x) → (∀ k, M k → k < W.heap.size ∧ w.heap.size ≤ k) → ¬ M Bx → I pre M W → pre.length < N →
      body.wpIn (F.inRound l) (n - 1 - 1) P (post w.heap.size N0 M0 I Ix (pre ++ [x]) M W) (A x Bx) W)
    (hdone : ∀ (D : Nat) (xs : List α) (M : Nat → Prop) (W : World), w.heap.size ≤ D → S xs → I xs M W → W.heap[D]? = some (.deferred (some [])) → Q .normal { a with defers := { target := .collected D, args := #[] } :: a.defers } W)
    (hstop : ∀ (D : Nat) (c : Code) (pre : List α) (M : Nat → Prop) (W : World), w.heap.size ≤ D → Sp pre → Ix c pre M W → W.heap[D]? = some (.deferred (some [])) → c.wpIn F n P Q { a with defers := { target := .collected D, args := #[] } :: a.defers } W) :
    (Code.rangeFunc g ps assign body).wpIn F n P Q a w := by
  refine wpIn_rangeFunc fun fn hfn => ?_
  rw [hro]
  obtain ⟨B, hB⟩ : ∃ B, B = w.heap.size := ⟨_, rfl⟩
  obtain ⟨rec, hrec⟩ : ∃ rec : LoopState → Option Code → Loop, rec = fun st pe => { state := st, pending := pe, fn, tmps := a.tmps, params := ps, assign, body, defers := w.heap.size } := ⟨_, rfl⟩
  obtain ⟨V, hV⟩ : ∃ V, V = (w.alloc (.deferred (some []))).alloc (.loop (rec .ready none)) := ⟨_, rfl⟩
  have eR : V.heap[B + 1]? = some (.loop (rec .ready none)) := by
    have := World.alloc_heap_new (w.alloc (.deferred (some []))) (.loop (rec .ready none))
    rw [World.size_alloc] at this
    rw [hV, hB]; exact this
  have eD : V.heap[B]? = some (.deferred (some [])) := by
    rw [hV, hB]; exact (Below.heap_alloc _ _ _ (by simp)).trans (World.alloc_heap_new w _)
  have bV : Below w.heap.size w V := by rw [hV]; exact ((Below.refl _ w).alloc (Nat.le_refl _) _).alloc (by simp) _
  have sV : V.heap.size = B + 2 := by rw [hV, hB]; simp
  have iV : I [] (fun _ => False) V := by rw [hV]; exact hI _ _ _ _ _ (hI _ _ _ _ _ h0 (Far.alloc _ _ _ _)) (Far.alloc _ _ _ _)
  refine ⟨B + 1, [{ target := .collected B, args := #[] }], V, { target := .fn (.func gf) lb, args := #[.func (.yield (B + 1)) #[] #[]] }, V, gf, #[.func (.yield (B + 1)) #[] #[]] ++ lb, V, ?_, ?_, ?_, ?_, fun _ => h1, ?_⟩
  · rw [hV, hrec, hB]; exact run_enterLoop_outer _ _ _ _ _
  · simp only [resolve, hg]
    simp [go_sem]
  · intro f' hf'
    simp [Target.leads] at hf'
    subst hf'; exact hFg
  · simp [invoke, go_sem, eg]
  -- the two blocks of the loop's own books, and whose the others are
  obtain ⟨Bk, hBk⟩ : ∃ Bk : LoopState → Option Code → (Nat → Prop) → World → Prop, Bk = fun st pe M W => W.heap[B + 1]? = some (.loop (rec st pe)) ∧ W.heap[B]? = some (.deferred (some [])) ∧ ∀ k, M k → k < W.heap.size ∧ k ≠ B ∧ k ≠ B + 1 ∧ B ≤ k := ⟨_, rfl⟩
  have step : ∀ {st pe M M'} {W W' : World}, Bk st pe M W → Step M M' W W' → Bk st pe M' W' := by
    intro st pe M M' W W' h s
    rw [hBk] at h ⊢
    obtain ⟨h1, h2, h3⟩ := h
    have l1 := (Array.getElem?_eq_some_iff.1 h1).1
    have l2 := (Array.getElem?_eq_some_iff.1 h2).1
    refine ⟨(s.block _ l1 fun hm => (h3 _ hm).2.2.1 rfl).trans h1, (s.block _ l2 fun hm => (h3 _ hm).2.1 rfl).trans h2, fun k hk => ?_⟩
    rcases s.new k hk with hk | ⟨hk, hk'⟩
    · obtain ⟨q1, q2, q3, q4⟩ := h3 k hk
      exact ⟨Nat.lt_of_lt_of_le q1 s.size, q2, q3, q4⟩
    · exact ⟨hk', by omega, by omega, by omega⟩
  refine (hseq (B + 1) (fun pre M W => I pre M W ∧ Bk .ready none M W) (fun pre M W => ∃ c, Ix c pre M W ∧ Bk .done (some c) M W) V
    (hk0.trans (Kept.of_below bV hN0 hM0))
    (fun s M M' W W' h k => ⟨hI _ _ _ _ _ h.1 (k.far _), step h.2 k⟩)
    (fun s M M' W W' h k => by obtain ⟨c, h, h'⟩ := h; exact ⟨c, hIx c _ _ _ _ _ h (k.far _), step h' k⟩)
    ?_ ⟨iV, by rw [hBk]; exact ⟨eR, eD, fun k hk => hk.elim⟩⟩).mono ?_
  · rintro pre x M W hok ⟨hi, hb⟩ hlen
    rw [hBk] at hb
    obtain ⟨hl, hd, hm⟩ := hb
    have hlt := (Array.getElem?_eq_some_iff.1 hl).1
    have hdt := (Array.getElem?_eq_some_iff.1 hd).1
    have hy := run_yield (P := P) (args := encs x) hl (by rw [hrec]; exact hps x)
    rw [hrec] at hy
    refine ⟨fn, _, assign, body, hy, roundIn_of_wpIn hfn (hassign _ x W _ ?_)⟩
    clear hy
    obtain ⟨U, hU⟩ : ∃ U, U = W.alloc (box x) := ⟨_, rfl⟩
    have bU : Below W.heap.size W U := by rw [hU]; exact (Below.refl _ W).alloc (Nat.le_refl _) _
    have lU : U.heap[B + 1]? = some (.loop (rec .ready none)) := (bU.block _ hlt).trans hl
    have dU : U.heap[B]? = some (.deferred (some [])) := (bU.block _ hdt).trans hd
    have xU : U.heap[W.heap.size]? = some (box x) := by rw [hU]; exact World.alloc_heap_new W _
    have iU : I pre M U := by rw [hU]; exact hI _ _ _ _ _ hi (Far.alloc _ _ _ _)
    rw [← hU]
    refine ⟨_, run_beginRound lU (by rw [hrec]), ?_⟩
    obtain ⟨Y, hY⟩ : ∃ Y, Y = U.putObj (B + 1) (.loop { rec .ready none with state := .busy }) := ⟨_, rfl⟩
    rw [← hY]
    have nM : ¬ (M0 (B + 1) ∨ M (B + 1)) := fun h => h.elim (fun h => by have := hM0 _ h; omega) fun h => (hm _ h).2.2.1 rfl
    have lY : Y.heap[B + 1]? = some (.loop { rec .ready none with state := .busy }) := by rw [hY]; exact World.putObj_heap_same (Array.getElem?_eq_some_iff.1 lU).1
    have dY : Y.heap[B]? = some (.deferred (some [])) := by rw [hY]; exact (World.putObj_heap_other (by omega)).trans dU
    have xY : Y.heap[W.heap.size]? = some (box x) := by rw [hY]; exact (World.putObj_heap_other (by omega)).trans xU
    have iY : I pre M Y := by rw [hY]; exact hI _ _ _ _ _ iU (Far.put _ (by omega) lU rfl)
    have sU := bU.size
    have sY : U.heap.size = Y.heap.size := by rw [hY]; simp
    have kY : Kept N0 (fun k => M0 k ∨ M k) W Y := by
      rw [hY]
      exact (Kept.of_below bU (by omega) fun k hk => hk.elim (fun h => by have := hM0 _ h; omega) fun h => (hm k h).1).trans (Kept.put U _ (by omega) nM)
    refine wpIn_mono (hbody _ pre x M W.heap.size Y hok (by omega) xY (fun k hk => by
      obtain ⟨q1, q2, q3, q4⟩ := hm k hk
      exact ⟨by omega, by omega⟩) (fun h => by have := (hm _ h).1; omega) iY hlen) ?_
    have fin : ∀ (jump : Option Code) (Z : World), Leave w.heap.size Y Z →
        (Instr.endRound (B + 1) jump).run P Z = .ok (.bool jump.isNone) (Z.putObj (B + 1) (.loop (rec (if jump.isNone then .ready else .done) jump))) ∧
        Far w.heap.size M M Z (Z.putObj (B + 1) (.loop (rec (if jump.isNone then .ready else .done) jump))) ∧
        Bk (if jump.isNone then .ready else .done) jump M (Z.putObj (B + 1) (.loop (rec (if jump.isNone then .ready else .done) jump))) ∧
        (Kept N0 (fun k => M0 k ∨ M k) Y Z → Kept N0 (fun k => M0 k ∨ M k) W (Z.putObj (B + 1) (.loop (rec (if jump.isNone then .ready else .done) jump)))) := fun jump Z hw => by
      have lZ := hw.same _ _ (by omega) lY rfl
      have dZ := hw.same _ _ (by omega) dY rfl
      have hr := run_endRound (P := P) jump lZ
      rw [hrec] at hr
      refine ⟨by rw [hrec]; exact hr, Far.put _ (by omega) lZ rfl, ?_, fun hk => (kY.trans hk).trans (Kept.put Z _ (by omega) nM)⟩
      rw [hBk]
      refine ⟨World.putObj_heap_same (Array.getElem?_eq_some_iff.1 lZ).1, (World.putObj_heap_other (by omega)).trans dZ, fun k hk => ?_⟩
      obtain ⟨q1, q2, q3, q4⟩ := hm k hk
      have := hw.size
      exact ⟨by simp; omega, q2, q3, q4⟩
    rintro e a3 Z hp
    cases e with
    | normal =>
      obtain ⟨f1, f2, f3, f4⟩ := fin none Z hp.1.leave
      exact ⟨_, _, f1, .inl ⟨rfl, ⟨hI _ _ _ _ _ hp.2 f2, f3⟩, f4 hp.1.kept⟩⟩
    | ret =>
      obtain ⟨f1, f2, f3, f4⟩ := fin (some .ret) Z hp.1
      exact ⟨_, _, f1, .inr ⟨rfl, _, hIx _ _ _ _ _ _ hp.2 f2, f3⟩⟩
    | exit id =>
      obtain ⟨f1, f2, f3, f4⟩ := fin (some (.exit id)) Z hp.1
      exact ⟨_, _, f1, .inr ⟨rfl, _, hIx _ _ _ _ _ _ hp.2 f2, f3⟩⟩
    | goto t =>
      obtain ⟨f1, f2, f3, f4⟩ := fin (some (.goto t)) Z hp.1
      exact ⟨_, _, f1, .inr ⟨rfl, _, hIx _ _ _ _ _ _ hp.2 f2, f3⟩⟩
    | panic ch => exact hp.elim
    | outgrown => exact hp.elim
  · rintro e Z ⟨⟨v, rfl⟩, (⟨xs, M, hS, hi, hb⟩ | ⟨pre, M, hSp, c, hi, hb⟩)⟩
    · rw [hBk] at hb
      obtain ⟨hl, hd, -⟩ := hb
      have hr := run_endLoop (P := P) hl (by rw [hrec]; simp)
      rw [hrec] at hr
      exact ⟨none, _, hr, hdone B xs M _ (by omega) hS (hI _ _ _ _ _ hi (Far.put _ (by omega) hl rfl)) ((World.putObj_heap_other (by omega)).trans hd)⟩
    · rw [hBk] at hb
      obtain ⟨hl, hd, -⟩ := hb
      have hr := run_endLoop (P := P) hl (by rw [hrec]; simp)
      rw [hrec] at hr
      exact ⟨some c, _, hr, hstop B c pre M _ (by omega) hSp (hIx c _ _ _ _ _ hi (Far.put _ (by omega) hl rfl)) ((World.putObj_heap_other (by omega)).trans hd)⟩
/-! ### Two invariants that many callers have -/
/-- Nothing under B has turned since V. -/
def Still (B : Nat) (V : World) (p : List α → Prop) (pre : List α) (M : Nat → Prop) (W : World) : Prop := Below B V W ∧ p pre ∧ ∀ k, M k → B ≤ k
theorem Still.bears {B : Nat} {V : World} (hV : B ≤ V.heap.size) (p : List α → Prop) : BearsFar B (Still B V p) := fun pre M M' W W' h k => by
  obtain ⟨hb, hp, hm⟩ := h
  have sz := hb.size
  refine ⟨⟨k.os.trans hb.os, k.tape.trans hb.tape, k.output.trans hb.output, Nat.le_trans sz k.size, fun j hj => ?_⟩, hp, fun j hj => ?_⟩
  · have hj2 : j < W.heap.size := by omega
    refine Eq.trans ?_ (hb.block j hj)
    rw [Array.getElem?_eq_getElem hj2]
    exact k.block j _ (Array.getElem?_eq_getElem hj2) (fun h => by have := hm j h; omega) (fun h => by omega)
  · rcases k.new j hj with h | h
    · exact hm j h
    · omega
/-- A round has left, its answer in a box at rc; nothing under b has turned since V. -/
def Gone (B b : Nat) (V : World) (rc : Nat) (t : TypeId) (u : Value) (p : List α → Prop) (c : Code) (pre : List α) (M : Nat → Prop) (W : World) : Prop := c = .ret ∧ Below b V W ∧ Go.Boxed W rc t u ∧ p pre ∧ B ≤ W.heap.size ∧ ∀ k, M k → B ≤ k
theorem Gone.bears {B b : Nat} {V : World} {rc : Nat} (hb : b ≤ B) (hV : b ≤ V.heap.size) (hrc : rc < B) (t : TypeId) (u : Value) (p : List α → Prop) (c : Code) : BearsFar B (Gone B b V rc t u p c) := fun pre M M' W W' h k => by
  obtain ⟨hc, hbl, hx, hp, hs, hm⟩ := h
  have sz := hbl.size
  refine ⟨hc, ⟨k.os.trans hbl.os, k.tape.trans hbl.tape, k.output.trans hbl.output, Nat.le_trans sz k.size, fun j hj => ?_⟩, k.block rc _ hx (fun h => by have := hm rc h; omega) (fun _ => rfl), hp, Nat.le_trans hs k.size, fun j hj => ?_⟩
  · have hj2 : j < W.heap.size := by omega
    refine Eq.trans ?_ (hbl.block j hj)
    rw [Array.getElem?_eq_getElem hj2]
    exact k.block j _ (Array.getElem?_eq_getElem hj2) (fun h => by have := hm j h; omega) (fun h => by omega)
  · rcases k.new j hj with h | h
    · exact hm j h
    · omega
end Go.Proofs.YtjokejcokgeeiaaGreat.Sqm
