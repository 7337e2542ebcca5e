/- Maps with any keys, whose elements are any values: what one reads as, as a function of keys; made, asked, put into, taken out of, counted, emptied, gone over. Conditions: those in each statement. -/
import Derived.Test.YtomidcbpnaajeaaGreatLay
import Derived.Maps.OwnSet
import Derived.Maps.RangeWalk
import Derived.Carry
import Derived.Test.YtomidcbpnaajeaaGreatIdA
import Derived.DeepKeys4
import Derived.WideKeyEntry
namespace Go.Proofs.YtomidcbpnaajeaaGreat.Mpg
open Go.RowKit Cmd Bat Go.Maps Go.WideElems Go.ChangeMaps
set_option linter.unusedVariables false
set_option linter.unusedSimpArgs false

/-- Keys of a type: how one lies, how it reads, which may be. -/
structure Ky (K : Type) (kt : TypeId) where
  val : K → Value
  lit : K → Lit
  ok : K → Prop
  law : Keyed Tryz.prog kt
  key : ∀ {x : K}, ok x → keyOf Tryz.prog kt (val x) = some (lit x)
  inv : ∀ {v : Value} {l : Lit}, keyOf Tryz.prog kt v = some l → ∃ x, ok x ∧ v = val x ∧ l = lit x
  inj : ∀ {x y : K}, ok x → ok y → lit x = lit y → x = y
  vinj : ∀ {x y : K}, val x = val y → x = y
  isLit : ∀ x : K, WideAt.IsKeyLit (lit x)
noncomputable abbrev raw : Value → Option (DataW Value × List MemPlace) := fun v => some (.held v, [])
section
variable {K : Type} {kt : TypeId} (Y : Ky K kt)

/-! ### Lists without a double -/
theorem nodup_len [DecidableEq K] : ∀ {a b : List K}, a.Nodup → (∀ x ∈ a, x ∈ b) → a.length ≤ b.length
  | [], b, _, _ => Nat.zero_le _
  | x :: a, b, h, hs => by
    obtain ⟨h1, h2⟩ := List.nodup_cons.1 h
    have hx := hs x List.mem_cons_self
    have := nodup_len (a := a) (b := b.erase x) h2 (fun y hy => (List.mem_erase_of_ne (fun e => h1 (by rw [← e]; exact hy))).2 (hs y (List.mem_cons_of_mem _ hy)))
    rw [List.length_erase_of_mem hx] at this
    have := List.length_pos_of_mem hx
    simp only [List.length_cons]; omega
theorem nodup_all [DecidableEq K] {a b : List K} (h : a.Nodup) (hs : ∀ x ∈ a, x ∈ b) (hl : b.length ≤ a.length) {x : K} (hx : x ∈ b) : x ∈ a := by
  refine Classical.byContradiction fun hn => ?_
  have := nodup_len (a := a) (b := b.erase x) h (fun y hy => (List.mem_erase_of_ne (fun e => hn (by rw [← e]; exact hy))).2 (hs y hy))
  rw [List.length_erase_of_mem hx] at this
  have := List.length_pos_of_mem hx
  omega

/-! ### What a map says -/
/-- The map has just what f says, its keys are ks. -/
structure Says (D : DataW Value) (ks : List K) (f : K → Option Value) : Prop where
  has : ∀ x, Y.ok x → Maps.has D (Y.lit x) = (f x).isSome
  val : ∀ x, Y.ok x → ∀ v, f x = some v → ∀ z, D.atKey (Y.lit x) z = .held v
  nodup : ks.Nodup
  mem : ∀ x, x ∈ ks ↔ (f x).isSome = true
  size : Maps.size D = ks.length
  few : ∀ x, (f x).isSome = true → Y.ok x
variable {Y}
def setF [DecidableEq K] (f : K → Option Value) (x : K) (o : Option Value) : K → Option Value := fun y => if y = x then o else f y
theorem setF_same [DecidableEq K] (f : K → Option Value) (x : K) (o : Option Value) : setF f x o x = o := if_pos rfl
theorem setF_other [DecidableEq K] (f : K → Option Value) {x y : K} (o : Option Value) (h : y ≠ x) : setF f x o y = f y := if_neg h
theorem Says.none : Says Y (.map []) [] (fun _ => Option.none) := ⟨fun x _ => rfl, fun x _ v h => (by cases h), .nil, fun x => by simp, rfl, fun x h => (by cases h)⟩
theorem Says.put [DecidableEq K] {D : DataW Value} {ks : List K} {f : K → Option Value} (h : Says Y D ks f) (hT : Tidy D) (x : K) (v : Value) (hx : Y.ok x) : ∃ ks', Says Y (D.put (Y.lit x) (.held v)) ks' (setF f x (some v)) ∧ ks'.length ≤ ks.length + 1 := by
  have hhas : ∀ y, Y.ok y → Maps.has (D.put (Y.lit x) (.held v)) (Y.lit y) = (setF f x (some v) y).isSome := fun y hy => by
    by_cases e : y = x
    · subst e; rw [setF_same]; exact has_put_same hT.isMap (Y.isLit y) _
    · rw [setF_other f _ e, has_put_other (fun e2 => e (Y.inj hy hx e2)), h.has y hy]
  have hval : ∀ y, Y.ok y → ∀ u, setF f x (some v) y = some u → ∀ z, (D.put (Y.lit x) (.held v)).atKey (Y.lit y) z = .held u := fun y hy u hu z => by
    by_cases e : y = x
    · subst e; rw [setF_same] at hu; cases hu; exact atKey_put_same hT.isMap (Y.isLit y) _ z
    · rw [setF_other f _ e] at hu
      rw [atKey_put_other (fun e2 => e (Y.inj hy hx e2))]; exact h.val y hy u hu z
  have hfew : ∀ y, (setF f x (some v) y).isSome = true → Y.ok y := fun y hy => by
    by_cases e : y = x
    · rw [e]; exact hx
    · rw [setF_other f _ e] at hy; exact h.few y hy
  by_cases hs : x ∈ ks
  · refine ⟨ks, ⟨hhas, hval, h.nodup, fun t => ?_, ?_, hfew⟩, by omega⟩
    · by_cases e : t = x
      · subst e; rw [setF_same]; exact ⟨fun _ => rfl, fun _ => hs⟩
      · rw [setF_other f _ e]; exact h.mem t
    · rw [size_put hT, h.has x hx, (h.mem x).1 hs, if_pos rfl, h.size]
  · refine ⟨x :: ks, ⟨hhas, hval, List.nodup_cons.2 ⟨hs, h.nodup⟩, fun t => ?_, ?_, hfew⟩, by simp⟩
    · by_cases e : t = x
      · subst e; rw [setF_same]; exact ⟨fun _ => rfl, fun _ => List.mem_cons_self⟩
      · rw [setF_other f _ e, List.mem_cons, ← h.mem t]; exact ⟨fun h => h.resolve_left e, .inr⟩
    · have h0 : (f x).isSome = false := by
        cases hf : (f x).isSome with
        | false => rfl
        | true => exact absurd ((h.mem x).2 hf) hs
      rw [size_put hT, h.has x hx, h0, h.size]; rfl
theorem Says.del [DecidableEq K] {D : DataW Value} {ks : List K} {f : K → Option Value} (h : Says Y D ks f) (hT : Tidy D) (x : K) (hx : Y.ok x) : ∃ ks', Says Y (D.del (Y.lit x)) ks' (setF f x Option.none) ∧ ks'.length ≤ ks.length := by
  have hz := size_del (k := Y.lit x) hT
  rw [h.has x hx, h.size] at hz
  refine ⟨ks.erase x, ⟨fun t ht => ?_, fun t ht u hu z => ?_, h.nodup.erase x, fun t => ?_, ?_, fun t ht => ?_⟩, List.length_erase_le⟩
  · by_cases e : t = x
    · subst e; rw [setF_same]; exact has_del_same
    · rw [setF_other f _ e, has_del_other (fun e2 => e (Y.inj ht hx e2)), h.has t ht]
  · by_cases e : t = x
    · subst e; rw [setF_same] at hu; cases hu
    · rw [setF_other f _ e] at hu
      rw [atKey_del_other (fun e2 => e (Y.inj ht hx e2))]; exact h.val t ht u hu z
  · rw [h.nodup.mem_erase_iff]
    by_cases e : t = x
    · subst e; rw [setF_same]; simp
    · rw [setF_other f _ e, ← h.mem t]; exact ⟨fun h => h.2, fun h => ⟨e, h⟩⟩
  · by_cases hs : x ∈ ks
    · rw [(h.mem x).1 hs] at hz
      rw [List.length_erase_of_mem hs]
      simp at hz
      omega
    · have h0 : (f x).isSome = false := by
        cases hf : (f x).isSome with
        | false => rfl
        | true => exact absurd ((h.mem x).2 hf) hs
      rw [h0] at hz
      rw [List.erase_of_not_mem hs]
      simpa using hz
  · by_cases e : t = x
    · rw [e, setF_same] at ht; cases ht
    · rw [setF_other f _ e] at ht; exact h.few t ht

/-! ### In memory -/
variable (Y) in
/-- Block b is a map that has just what f says, at most N keys. -/
def MapG (w : World) (b N : Nat) (f : K → Option Value) : Prop := ∃ (D : DataW Value) (ks : List K), w.ownsMap Tryz.prog kt raw b ks.length D ∧ Says Y D ks f ∧ ks.length ≤ N
theorem tightR {P : Program} {k : TypeId} {R : Value → Option (DataW Value × List MemPlace)} {w : World} {b n : Nat} {D : DataW Value} (h : w.ownsMap P k R b n D) : w.ownsMap P k R b (Maps.size D) D := by
  obtain ⟨es, clock, hb, F, hs, rfl⟩ := h
  exact ⟨es, clock, hb, F, by simp [Maps.size, length_sorted], rfl⟩
variable {w w' : World} {b N M : Nat} {f g : K → Option Value}
theorem MapG.lt (h : MapG Y w b N f) : b < w.heap.size := by obtain ⟨D, ks, h, _⟩ := h; exact h.lt
theorem MapG.mono (h : MapG Y w b N f) (hm : N ≤ M) : MapG Y w b M f := by obtain ⟨D, ks, h1, h2, h3⟩ := h; exact ⟨D, ks, h1, h2, Nat.le_trans h3 hm⟩
theorem MapG.block (h : MapG Y w b N f) (e : w'.heap[b]? = w.heap[b]?) : MapG Y w' b N f := by
  obtain ⟨D, ks, ⟨es, c, hb, r⟩, t⟩ := h
  exact ⟨D, ks, ⟨es, c, e.trans hb, r⟩, t⟩
theorem MapG.on (h : MapG Y w b N f) (hb : Below w.heap.size w w') : MapG Y w' b N f := h.block (hb.block b h.lt)
theorem MapG.below (h : MapG Y w b N f) (hb : Below M w w') (hm : b < M) : MapG Y w' b N f := h.block (hb.block b hm)
theorem MapG.drewn (h : MapG Y w b N f) (n : Nat) : MapG Y (w.drewN n) b N f := h.block rfl
theorem MapG.drew (h : MapG Y w b N f) : MapG Y w.drew b N f := h.block rfl
theorem MapG.alloc (h : MapG Y w b N f) (o : Obj) : MapG Y (w.alloc o) b N f := h.below (Cmd.below_one w o) h.lt
theorem MapG.made (w : World) : MapG Y (w.alloc (.map #[] 0)) w.heap.size 0 (fun _ => none) := ⟨.map [], [], World.ownsMap_made w _ _ _, .none, Nat.le_refl _⟩
theorem MapG.ext (h : MapG Y w b N f) (e : ∀ x, f x = g x) : MapG Y w b N g := by rw [← (funext e : f = g)]; exact h
theorem MapG.ok (h : MapG Y w b N f) {x : K} (hx : (f x).isSome = true) : Y.ok x := by obtain ⟨D, ks, _, S, _⟩ := h; exact S.few x hx
variable {t e : TypeId} {z : Value}
theorem MapG.look (h : MapG Y w b N f) (ht : Tryz.prog.underlying t = some (.map kt e)) (hz : ∀ w, (zeroValue e).run Tryz.prog w = .ok z w) {x : K} (hx : Y.ok x) : (Instr.lookup t (.map (some b)) (Y.val x) false).run Tryz.prog w = .ok ((f x).getD z) w := by
  obtain ⟨D, ks, hD, S, _⟩ := h
  obtain ⟨v, ps, hrun, hv⟩ := hD.lookup Y.law ht (hz w) (zd := .held z) (zp := []) rfl (Y.key hx)
  rw [hrun]
  cases hf : f x with
  | none =>
    have h0 := S.has x hx
    rw [hf] at h0
    rw [atKey_of_not_has h0] at hv
    cases hv; rfl
  | some u =>
    rw [S.val x hx u hf] at hv
    cases hv; rfl
theorem MapG.look_ok (h : MapG Y w b N f) (ht : Tryz.prog.underlying t = some (.map kt e)) (hz : ∀ w, (zeroValue e).run Tryz.prog w = .ok z w) {x : K} (hx : Y.ok x) : (Instr.lookup t (.map (some b)) (Y.val x) true).run Tryz.prog w = .ok (.tuple #[(f x).getD z, .bool (f x).isSome]) w := by
  obtain ⟨D, ks, hD, S, _⟩ := h
  obtain ⟨v, ps, hrun, hv⟩ := hD.look_ok Y.law ht (hz w) (zd := .held z) (zp := []) rfl (Y.key hx)
  rw [hrun, S.has x hx]
  cases hf : f x with
  | none =>
    have h0 := S.has x hx
    rw [hf] at h0
    rw [atKey_of_not_has h0] at hv
    cases hv; rfl
  | some u =>
    rw [S.val x hx u hf] at hv
    cases hv; rfl
theorem MapG.store [DecidableEq K] (h : MapG Y w b N f) (ht : Tryz.prog.underlying t = some (.map kt e)) (hN : N ≤ 1000000) {x : K} (hx : Y.ok x) (v : Value) : ∃ w', (Instr.mapUpdate t (.map (some b)) (Y.val x) v).run Tryz.prog w = .ok () w' ∧ MapG Y w' b (N + 1) (setF f x (some v)) ∧ w.mapTurned w' b := by
  obtain ⟨D, ks, hD, S, hk⟩ := h
  obtain ⟨w', hrun, h1, h2⟩ := hD.store Y.law ht (by unfold maxLen; omega) (Y.key hx) (val := v) (d := .held v) (ps := []) rfl
  obtain ⟨ks', S', hl⟩ := S.put (hD.tidy Y.law) x v hx
  have h3 := tightR h1
  rw [S'.size] at h3
  exact ⟨w', hrun, ⟨_, ks', h3, S', by omega⟩, h2⟩
theorem MapG.drop [DecidableEq K] (h : MapG Y w b N f) (ht : Tryz.prog.underlying t = some (.map kt e)) {x : K} (hx : Y.ok x) (ty : TypeId) : ∃ w', (Builtin.delete_ #[t, kt] ty #[.map (some b), Y.val x]).run Tryz.prog w = .ok (.tuple #[]) w' ∧ MapG Y w' b N (setF f x none) ∧ w.mapTurned w' b := by
  obtain ⟨D, ks, hD, S, hk⟩ := h
  obtain ⟨w', hrun, h1, h2⟩ := hD.drop Y.law ht (Y.key hx) ty
  obtain ⟨ks', S', hl⟩ := S.del (hD.tidy Y.law) x hx
  have h3 := tightR h1
  rw [S'.size] at h3
  exact ⟨w', hrun, ⟨_, ks', h3, S', by omega⟩, h2⟩
/-- How many keys there are: as many as any list without a double that has just them. -/
theorem MapG.len [DecidableEq K] (h : MapG Y w b N f) (ht : Tryz.prog.underlying t = some (.map kt e)) (ty : TypeId) {ks : List K} (hk : ks.Nodup) (hm : ∀ x, x ∈ ks ↔ (f x).isSome = true) : (Builtin.len_ #[t] ty #[.map (some b)]).run Tryz.prog w = .ok (.int .i64 ks.length) w := by
  obtain ⟨D, ks', hD, S, -⟩ := h
  have e : ks'.length = ks.length := Nat.le_antisymm (nodup_len S.nodup fun x hx => (hm x).2 ((S.mem x).1 hx)) (nodup_len hk fun x hx => (S.mem x).2 ((hm x).1 hx))
  rw [hD.len ht ty, S.size, e]
theorem MapG.clear (h : MapG Y w b N f) (ht : Tryz.prog.underlying t = some (.map kt e)) (ty : TypeId) : ∃ w', (Builtin.clear_ #[t] ty #[.map (some b)]).run Tryz.prog w = .ok (.tuple #[]) w' ∧ MapG Y w' b 0 (fun _ => none) ∧ w.mapTurned w' b := by
  obtain ⟨D, ks, ⟨es, c, hb, -⟩, -⟩ := h
  refine ⟨setBlock w b (.map #[] c), ?_, ⟨.map [], [], ⟨#[], c, heap_setBlock_same hb _, ⟨by simp, Go.MapKept.stamped_empty c, by simp⟩, Nat.le_refl _, rfl⟩, .none, Nat.le_refl _⟩, ⟨es, c, #[], c, hb, rfl⟩⟩
  simp [Builtin.clear_, run_underlying ht, Go.MapKept.run_getObj_map hb, Go.MapKept.run_setObj_map _ hb, Result.andThen, setBlock]

/-! ### Gone over -/
variable (kt) in
abbrev Going (w : World) (m r n : Nat) (D : DataW Value) (left : Lit → Bool) (cnt : Nat) : Prop := w.ranges Tryz.prog kt raw m r n D left cnt
/-- A round's step: nothing is left, or one of the keys has come. (Both goals are hidden, for the walk to stand.) -/
theorem wp_next {ops : Array Oper} {rest : List Oper} {o : Oper} {a : Act} {Q : Exit → Act → World → Prop} (hg : o.guard = none) (it : Operand) (hop : o.op = Op.next it false) (m r n : Nat) (D : DataW Value) (ks : List K) (S : Says Y D ks f) (left : Lit → Bool) (cnt : Nat)
    (hit : a.eval it = .pointer (some ⟨r, 0, none⟩)) (h : Going kt w m r n D left cnt)
    (hDone : Hid ((∀ kl, left kl = false) → wpList Tryz.prog ops Q rest (a.put o.dst (.tuple #[.bool false])) w))
    (hMore : Hid (∀ (x : K) (v : Value) (w' : World) (cnt' : Nat), f x = some v → Y.ok x → left (Y.lit x) = true → Going kt w' m r n D (fun z => left z && !z.sameKey (Y.lit x)) cnt' → cnt' < cnt → w.grownBy w' (some r) → w'.heap.size = w.heap.size →
      (Instr.entry (.pointer (some ⟨r, 0, none⟩))).run Tryz.prog w' = .ok (.tuple #[Y.val x, v]) w' → wpList Tryz.prog ops Q rest (a.put o.dst (.tuple #[.bool true, Y.val x, v])) w')) :
    wpList Tryz.prog ops Q (o :: rest) a w := by
  refine wpList_next_ranges w hg it hop kt Y.law raw Y.val (fun v : Value => v) (fun key kl hk => by obtain ⟨x, _, hx, _⟩ := Y.inv hk; exact ⟨x, hx⟩) (fun v y hv => ⟨v, rfl⟩) m r n D left cnt hit h (fun _ => hDone.out) ?_
  intro s c kl yv w' cnt' hkey hlk hv hat hrg hlt hgr hsz hen
  obtain ⟨x, hx, e, rfl⟩ := Y.inv hkey
  obtain rfl := Y.vinj e
  have hh := has_true_of_atKey hat
  cases hv
  have hf : f s = some c := by
    have h0 := S.has s hx
    rw [hh] at h0
    cases hf : f s with
    | none => rw [hf] at h0; cases h0
    | some u =>
      have := (S.val s hx u hf (.held c)).symm.trans (hat _)
      cases this; rfl
  exact hMore.out s c w' cnt' hf hx hlk hrg hlt hgr hsz hen
/-- Those that have come: just the keys that are no longer to come. -/
structure Came (Y : Ky K kt) (f : K → Option Value) (left : Lit → Bool) (out : List K) : Prop where
  nodup : out.Nodup
  mem : ∀ x, x ∈ out ↔ (f x).isSome = true ∧ left (Y.lit x) = false
theorem Came.start {D : DataW Value} {ks : List K} (S : Says Y D ks f) : Came Y f (Maps.has D) [] :=
  ⟨.nil, fun x => ⟨fun h => (by cases h), fun ⟨h1, h2⟩ => by rw [S.has x (S.few x h1), h1] at h2; cases h2⟩⟩
theorem Came.step {D : DataW Value} {ks out : List K} {left : Lit → Bool} (S : Says Y D ks f) (h : Came Y f left out) {x : K} {v : Value} (hx : f x = some v) (hl : left (Y.lit x) = true) : x ∉ out ∧ Came Y f (fun z => left z && !z.sameKey (Y.lit x)) (out ++ [x]) := by
  have hs : (f x).isSome = true := by rw [hx]; rfl
  have hok := S.few x hs
  have hno : x ∉ out := fun hm => by have := ((h.mem x).1 hm).2; rw [hl] at this; cases this
  refine ⟨hno, ?_, fun y => ?_⟩
  · rw [List.nodup_append]
    exact ⟨h.nodup, by simp, fun a ha b hb e => hno (by rw [← List.mem_singleton.1 hb, ← e]; exact ha)⟩
  · rw [List.mem_append, List.mem_singleton, h.mem]
    constructor
    · rintro (⟨h1, h2⟩ | rfl)
      · exact ⟨h1, by rw [h2]; rfl⟩
      · refine ⟨hs, ?_⟩
        have : (Y.lit y).sameKey (Y.lit y) = true := WideAt.sameKey_self (Y.isLit y)
        rw [this]; simp
    · rintro ⟨h1, h2⟩
      rw [Bool.and_eq_false_iff] at h2
      rcases h2 with h2 | h2
      · exact .inl ⟨h1, h2⟩
      · exact .inr (Y.inj (S.few y h1) hok (WideAt.sameKey_eq (by simpa using h2)))
theorem Came.done {left : Lit → Bool} {out : List K} (h : Came Y f left out) (hl : ∀ k, left k = false) : out.Nodup ∧ ∀ x, x ∈ out ↔ (f x).isSome = true :=
  ⟨h.nodup, fun x => ⟨fun hm => ((h.mem x).1 hm).1, fun hs => (h.mem x).2 ⟨hs, hl _⟩⟩⟩
end
end Go.Proofs.YtomidcbpnaajeaaGreat.Mpg

/- Ids as keys of maps: what a key reads as; maps with any elements. No condition but those in each statement. -/
namespace Go.Proofs.YtomidcbpnaajeaaGreat.Ids
open Go.RowKit Go.Maps Go.WideElems Go.ChangeMaps
set_option linter.unusedVariables false

/-! ### Keys -/
def idv (x : Idn) : Value := .agg #[.int .i64 x.1, .int .i64 x.2]
def litId (x : Idn) : Lit := .string (keyBytes [.int .i64 x.1, .int .i64 x.2])
set_option maxRecDepth 100000 in
theorem wide_id : (match Tryz.prog.underlying 32 with | some (.array _ _) | some (.struct _) => true | _ => false) = true := by rw [Tryz.underlying32]
set_option maxRecDepth 100000 in
theorem law_id : Keyed Tryz.prog 32 :=
  Keyed.of_law (deep_law_laid (by kernel_rfl) (m := 3) (by omega) (of_decide_eq_true (by kernel_rfl)) (by kernel_rfl) wide_id)
set_option maxRecDepth 100000 in
theorem keyType_id : Tryz.prog.keyType 32 = true := by kernel_rfl
set_option maxRecDepth 100000 in
theorem cells_id : Tryz.prog.cellsOf 32 = 2 := by kernel_rfl
set_option maxRecDepth 100000 in
theorem cells_int : Tryz.prog.cellsOf 3 = 1 := by kernel_rfl
set_option maxRecDepth 100000 in
theorem size_types : ∃ n, Tryz.prog.types.size + 1 = n + 2 := ⟨Tryz.prog.types.size - 1, by have : 1 ≤ Tryz.prog.types.size := of_decide_eq_true (by kernel_rfl); omega⟩
set_option maxRecDepth 100000 in
theorem key_id {x : Idn} (h : wfId x) : keyOf Tryz.prog 32 (idv x) = some (litId x) := by
  obtain ⟨n, hn⟩ := size_types
  have w1 := wf_i64.2 h.1
  have w2 := wf_i64.2 h.2
  unfold keyOf
  rw [Tryz.underlying32, hn]
  simp [keyType_id, idv, Value.formed, Tryz.underlying32, cells_id, cells_int, Value.cells, Program.keyLits, Tryz.underlying3, w1, w2, litId]
set_option maxRecDepth 100000 in
theorem lits_int {d : Nat} {c : Value} {ls : List Lit} (h : Tryz.prog.keyLits (d + 1) 3 [c] = some ls) : ∃ n, c = .int .i64 n ∧ wfI n ∧ ls = [.int .i64 n] := by
  cases c <;> simp [Program.keyLits, Tryz.underlying3] at h
  obtain ⟨⟨rfl, hw⟩, rfl⟩ := h
  exact ⟨_, rfl, wf_i64.1 hw, rfl⟩
set_option maxRecDepth 100000 in
theorem lits_id (n : Nat) (c0 c1 : Value) : Tryz.prog.keyLits (n + 2) 32 [c0, c1] = (Tryz.prog.keyLits (n + 1) 3 [c0]).bind fun a => (Tryz.prog.keyLits (n + 1) 3 [c1]).bind fun b => some (a ++ b) := by
  conv => lhs; unfold Program.keyLits
  simp [Tryz.underlying32, cells_id, cells_int]
  cases Tryz.prog.keyLits (n + 1) 3 [c0] <;> cases Tryz.prog.keyLits (n + 1) 3 [c1] <;> simp
set_option maxRecDepth 100000 in
theorem key_inv {v : Value} {l : Lit} (h : keyOf Tryz.prog 32 v = some l) : ∃ x, wfId x ∧ v = idv x ∧ l = litId x := by
  obtain ⟨n, hn⟩ := size_types
  unfold keyOf at h
  rw [Tryz.underlying32, hn] at h
  simp only [keyType_id, Bool.true_and] at h
  split at h
  · rename_i hf
    rw [Option.map_eq_some_iff] at h
    obtain ⟨ls, h1, rfl⟩ := h
    cases v <;> simp [Value.formed, Tryz.underlying32, cells_id] at hf
    rename_i cs
    obtain ⟨l⟩ := cs
    match l, hf with
    | [c0, c1], _ =>
      have h2 : Tryz.prog.keyLits (n + 2) 32 [c0, c1] = some ls := h1
      rw [lits_id, Option.bind_eq_some_iff] at h2
      obtain ⟨la, ha, h2⟩ := h2
      rw [Option.bind_eq_some_iff] at h2
      obtain ⟨lb, hb, h2⟩ := h2
      obtain ⟨x, rfl, hx, rfl⟩ := lits_int ha
      obtain ⟨y, rfl, hy, rfl⟩ := lits_int hb
      cases h2
      exact ⟨(x, y), ⟨hx, hy⟩, rfl, rfl⟩
  · cases h
set_option maxRecDepth 100000 in
theorem litId_inj {x y : Idn} (hx : wfId x) (hy : wfId y) (h : litId x = litId y) : x = y := by
  have := law_id.inj (key_id hx) (h ▸ key_id hy)
  unfold idv at this
  simp at this
  exact Prod.ext this.1 this.2
set_option maxRecDepth 100000 in
theorem lit_key (x : Idn) : WideAt.IsKeyLit (litId x) := trivial

end Go.Proofs.YtomidcbpnaajeaaGreat.Ids
namespace Go.Proofs.YtomidcbpnaajeaaGreat.Mpg
open Go.RowKit Go.Maps Go.WideElems Go.ChangeMaps
theorem idv_inj {x y : Ids.Idn} (h : Ids.idv x = Ids.idv y) : x = y := by
  unfold Ids.idv at h
  simp at h
  exact Prod.ext h.1 h.2
def kyI : Ky Ids.Idn 32 := ⟨Ids.idv, Ids.litId, Ids.wfId, Ids.law_id, fun h => Ids.key_id h, fun h => Ids.key_inv h, fun hx hy h => Ids.litId_inj hx hy h, fun h => idv_inj h, fun _ => trivial⟩
end Go.Proofs.YtomidcbpnaajeaaGreat.Mpg

/- 'm[k] = f(m[k])' at a map of any elements: the entry is read (and made), and stored into later (layer 15, edges). Conditions: those in each statement. -/
namespace Go.Proofs.YtomidcbpnaajeaaGreat.Mpg
open Go.RowKit Cmd Bat Go.Maps Go.WideElems Go.ChangeMaps
set_option linter.unusedVariables false
set_option linter.unusedSimpArgs false
section
variable {K : Type} [DecidableEq K] {kt : TypeId} {Y : Ky K kt} {w : World} {b N : Nat} {f : K → Option Value} {t e : TypeId} {z : Value}
theorem MapG.entry (h : MapG Y w b N f) (KL : Go.WideMaps.KeyLaw Tryz.prog kt) (ht : Tryz.prog.underlying t = some (.map kt e)) (hz : ∀ w, (zeroValue e).run Tryz.prog w = .ok z w) (hN : N ≤ 1000000) {x : K} (hx : Y.ok x) :
    ∃ (st : Int) (w1 : World), (Instr.mapEntry t (.map (some b)) (Y.val x)).run Tryz.prog w = .ok (.tuple #[(f x).getD z, .int .i64 st]) w1 ∧ w.mapTurned w1 b ∧
      ∀ (w2 : World) (v : Value), w2.heap[b]? = w1.heap[b]? → ∃ w3, (Instr.entryStore t (.map (some b)) (.int .i64 st) v).run Tryz.prog w2 = .ok () w3 ∧ MapG Y w3 b (N + 1) (setF f x (some v)) ∧ w2.mapTurned w3 b := by
  have h' := h
  obtain ⟨D, ks, ⟨es, clock, hb, F, hs, hD⟩, S, hk⟩ := h
  obtain ⟨v0, st, es1, clock1, hrun, hv0, hst⟩ := entry_then_store KL ht hz hb F (Y.key hx)
  have hv : v0 = (f x).getD z := by
    have h0 := S.has x hx
    rcases hv0 with ⟨e0, hm, hke, rfl⟩ | ⟨hno, rfl⟩
    · have hat := atKey_some KL F (Y.key hx) hm hke (z := (.held e0.val, [])) rfl
      cases hf : f x with
      | none =>
        rw [hf] at h0
        have := has_true_of_atKey (D := D) (k := Y.lit x) (fun zd => by rw [hD]; exact hat zd)
        rw [h0] at this; cases this
      | some u =>
        have h1 := S.val x hx u hf (.held u)
        have h2 : D.atKey (Y.lit x) (.held u) = .held e0.val := by rw [hD]; exact hat _
        rw [h1] at h2
        cases h2; rfl
    · have hat := atKey_none KL F (Y.key hx) hno
      cases hf : f x with
      | none => rfl
      | some u =>
        have h1 := S.val x hx u hf (.lit (.bool true))
        have h2 : D.atKey (Y.lit x) (.lit (.bool true)) = .lit (.bool true) := by rw [hD]; exact hat _
        rw [h1] at h2; cases h2
  refine ⟨(st : Int), setBlock w b (.map es1 clock1), by rw [hrun, hv]; rfl, ⟨es, clock, es1, clock1, hb, rfl⟩, fun w2 v e2 => ?_⟩
  have hw2 : w2.heap[b]? = some (.map es1 clock1) := e2.trans (heap_setBlock_same hb _)
  obtain ⟨es', clock', r1, r2⟩ := hst w2 v hw2
  obtain ⟨w', r3, m3, -⟩ := MapG.store h' ht hN hx v
  rw [r2] at r3
  have e4 : setBlock w b (.map es' clock') = w' := by injection r3
  exact ⟨_, r1, m3.block ((heap_setBlock_same hw2 _).trans (by rw [← e4]; exact (heap_setBlock_same hb _).symm)), ⟨es1, clock1, es', clock', hw2, rfl⟩⟩
end
set_option maxRecDepth 100000 in
theorem klaw_id : Go.WideMaps.KeyLaw Tryz.prog 32 := deep_law_laid (by kernel_rfl) (m := 3) (by omega) (of_decide_eq_true (by kernel_rfl)) (by kernel_rfl) Ids.wide_id
end Go.Proofs.YtomidcbpnaajeaaGreat.Mpg
