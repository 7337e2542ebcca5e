/- Maps keyed by texts whose elements are any values: what one reads as, as a function of keys; made, asked, put into, taken out of, counted, gone over (layer 13, vault). Conditions: those in each statement. -/
import Derived.Test.YtdnabghhjlhjoaaVauE
import Derived.Maps.OwnSet
import Derived.Maps.RangeWalk
import Derived.Carry
import Derived.Sort.KeysCollected
import Derived.Test.YtdnabghhjlhjoaaCelD
import Derived.Lib.SliceRun
namespace Go.Proofs.Ytdnabghhjlhjoaa.Vau
open Go.RowKit Cmd Bat Cel Wid Go.Maps Go.WideElems Go.ChangeMaps Go.Sort
set_option linter.unusedVariables false
set_option linter.unusedSimpArgs false

abbrev Key := List UInt8
/-! ### Lists without a double -/
theorem nodup_len : ∀ {a b : List Key}, a.Nodup → (∀ x ∈ a, x ∈ b) → a.length ≤ b.length
  | [], b, _, _ => Nat.zero_le _
  | x :: a, b, h, hs => by
    obtain ⟨h1, h2⟩ := List.nodup_cons.1 h
    have hx := hs x List.mem_cons_self
    have := nodup_len (a := a) (b := b.erase x) h2 (fun y hy => (List.mem_erase_of_ne (fun e => h1 (by rw [← e]; exact hy))).2 (hs y (List.mem_cons_of_mem _ hy)))
    rw [List.length_erase_of_mem hx] at this
    have := List.length_pos_of_mem hx
    simp only [List.length_cons]; omega
theorem nodup_all {a b : List Key} (h : a.Nodup) (hs : ∀ x ∈ a, x ∈ b) (hl : b.length ≤ a.length) {x : Key} (hx : x ∈ b) : x ∈ a := by
  refine Classical.byContradiction fun hn => ?_
  have := nodup_len (a := a) (b := b.erase x) h (fun y hy => (List.mem_erase_of_ne (fun e => hn (by rw [← e]; exact hy))).2 (hs y hy))
  rw [List.length_erase_of_mem hx] at this
  have := List.length_pos_of_mem hx
  omega

/-! ### The map -/
theorem klaw : Keyed Try.prog 9 := string_keyed Try.underlying9
noncomputable abbrev raw : Value → Option (DataW Value × List MemPlace) := fun v => some (.held v, [])
theorem kkey {s : Key} (h : s.length ≤ 140737488351232) : keyOf Try.prog 9 (.string (str s)) = some (.string s) := by
  have hs : (str s).size ≤ maxLen := by rw [str_size]; unfold maxLen; omega
  simp [keyOf, Try.underlying9, mapKey, hs]
  rfl
theorem klit (s : Key) : WideAt.IsKeyLit (.string s) := trivial
/-- The map has just what f says, its keys are ks. -/
structure Says (D : DataW Value) (ks : List Key) (f : Key → Option Value) : Prop where
  has : ∀ s, Maps.has D (.string s) = (f s).isSome
  val : ∀ s v, f s = some v → ∀ z, D.atKey (.string s) z = .held v
  nodup : ks.Nodup
  mem : ∀ s, s ∈ ks ↔ (f s).isSome = true
  size : Maps.size D = ks.length
  few : ∀ s, (f s).isSome = true → s.length ≤ 1000
def setF (f : Key → Option Value) (s : Key) (o : Option Value) : Key → Option Value := fun t => if t = s then o else f t
theorem setF_same (f : Key → Option Value) (s : Key) (o : Option Value) : setF f s o s = o := if_pos rfl
theorem setF_other (f : Key → Option Value) {s t : Key} (o : Option Value) (h : t ≠ s) : setF f s o t = f t := if_neg h
theorem Says.none : Says (.map []) [] (fun _ => Option.none) := ⟨fun s => rfl, fun s v h => (by cases h), .nil, fun s => by simp, rfl, fun s h => (by cases h)⟩
theorem few_set {f : Key → Option Value} (h : ∀ s, (f s).isSome = true → s.length ≤ 1000) (s : Key) (o : Option Value) (hl : s.length ≤ 1000) : ∀ t, (setF f s o t).isSome = true → t.length ≤ 1000 := fun t ht => by
  by_cases e : t = s
  · rw [e]; exact hl
  · rw [setF_other f _ e] at ht; exact h t ht
theorem few_del {f : Key → Option Value} (h : ∀ s, (f s).isSome = true → s.length ≤ 1000) (s : Key) : ∀ t, (setF f s Option.none t).isSome = true → t.length ≤ 1000 := fun t ht => by
  by_cases e : t = s
  · rw [e, setF_same] at ht; cases ht
  · rw [setF_other f _ e] at ht; exact h t ht
theorem Says.put {D : DataW Value} {ks : List Key} {f : Key → Option Value} (h : Says D ks f) (hT : Tidy D) (s : Key) (v : Value) (hl : s.length ≤ 1000) : ∃ ks', Says (D.put (.string s) (.held v)) ks' (setF f s (some v)) ∧ ks'.length ≤ ks.length + 1 := by
  by_cases hs : s ∈ ks
  · refine ⟨ks, ⟨fun t => ?_, fun t u ht z => ?_, h.nodup, fun t => ?_, ?_, few_set h.few s _ hl⟩, by omega⟩
    · by_cases e : t = s
      · subst e; rw [setF_same]; exact has_put_same hT.isMap (klit t) _
      · rw [setF_other f _ e, has_put_other (fun e2 => e (by cases e2; rfl)), h.has]
    · by_cases e : t = s
      · subst e; rw [setF_same] at ht; cases ht; exact atKey_put_same hT.isMap (klit t) _ z
      · rw [setF_other f _ e] at ht
        rw [atKey_put_other (fun e2 => e (by cases e2; rfl))]; exact h.val t u ht z
    · by_cases e : t = s
      · subst e; rw [setF_same]; exact ⟨fun _ => rfl, fun _ => hs⟩
      · rw [setF_other f _ e]; exact h.mem t
    · rw [size_put hT, h.has, (h.mem s).1 hs, if_pos rfl, h.size]
  · refine ⟨s :: ks, ⟨fun t => ?_, fun t u ht z => ?_, List.nodup_cons.2 ⟨hs, h.nodup⟩, fun t => ?_, ?_, few_set h.few s _ hl⟩, by simp⟩
    · by_cases e : t = s
      · subst e; rw [setF_same]; exact has_put_same hT.isMap (klit t) _
      · rw [setF_other f _ e, has_put_other (fun e2 => e (by cases e2; rfl)), h.has]
    · by_cases e : t = s
      · subst e; rw [setF_same] at ht; cases ht; exact atKey_put_same hT.isMap (klit t) _ z
      · rw [setF_other f _ e] at ht
        rw [atKey_put_other (fun e2 => e (by cases e2; rfl))]; exact h.val t u ht z
    · by_cases e : t = s
      · subst e; rw [setF_same]; exact ⟨fun _ => rfl, fun _ => List.mem_cons_self⟩
      · rw [setF_other f _ e, List.mem_cons, ← h.mem t]; exact ⟨fun h => h.resolve_left e, .inr⟩
    · have h0 : (f s).isSome = false := by
        cases hf : (f s).isSome with
        | false => rfl
        | true => exact absurd ((h.mem s).2 hf) hs
      rw [size_put hT, h.has, h0, h.size]; rfl
theorem Says.del {D : DataW Value} {ks : List Key} {f : Key → Option Value} (h : Says D ks f) (hT : Tidy D) (s : Key) : ∃ ks', Says (D.del (.string s)) ks' (setF f s Option.none) ∧ ks'.length ≤ ks.length := by
  have hz := size_del (k := .string s) hT
  rw [h.has, h.size] at hz
  refine ⟨ks.erase s, ⟨fun t => ?_, fun t u ht z => ?_, h.nodup.erase s, fun t => ?_, ?_, few_del h.few s⟩, List.length_erase_le⟩
  · by_cases e : t = s
    · subst e; rw [setF_same]; exact has_del_same
    · rw [setF_other f _ e, has_del_other (fun e2 => e (by cases e2; rfl)), h.has]
  · by_cases e : t = s
    · subst e; rw [setF_same] at ht; cases ht
    · rw [setF_other f _ e] at ht
      rw [atKey_del_other (fun e2 => e (by cases e2; rfl))]; exact h.val t u ht z
  · rw [h.nodup.mem_erase_iff]
    by_cases e : t = s
    · subst e; rw [setF_same]; simp
    · rw [setF_other f _ e, ← h.mem t]; exact ⟨fun h => h.2, fun h => ⟨e, h⟩⟩
  · by_cases hs : s ∈ ks
    · rw [(h.mem s).1 hs] at hz
      rw [List.length_erase_of_mem hs]
      simp at hz
      omega
    · have h0 : (f s).isSome = false := by
        cases hf : (f s).isSome with
        | false => rfl
        | true => exact absurd ((h.mem s).2 hf) hs
      rw [h0] at hz
      rw [List.erase_of_not_mem hs]
      simpa using hz
/-- Block b is a map that has just what f says, at most N keys. -/
def MapF (w : World) (b N : Nat) (f : Key → Option Value) : Prop := ∃ (D : DataW Value) (ks : List Key), w.ownsMap Try.prog 9 raw b ks.length D ∧ Says D ks f ∧ ks.length ≤ N
theorem tightR {P : Program} {k : TypeId} {R : Value → Option (DataW Value × List MemPlace)} {w : World} {b n : Nat} {D : DataW Value} (h : w.ownsMap P k R b n D) : w.ownsMap P k R b (Maps.size D) D := by
  obtain ⟨es, clock, hb, F, hs, rfl⟩ := h
  exact ⟨es, clock, hb, F, by simp [Maps.size, length_sorted], rfl⟩
theorem MapF.lt {w : World} {b N : Nat} {f : Key → Option Value} (h : MapF w b N f) : b < w.heap.size := by obtain ⟨D, ks, h, _⟩ := h; exact h.lt
theorem MapF.mono {w : World} {b N M : Nat} {f : Key → Option Value} (h : MapF w b N f) (hm : N ≤ M) : MapF w b M f := by obtain ⟨D, ks, h1, h2, h3⟩ := h; exact ⟨D, ks, h1, h2, Nat.le_trans h3 hm⟩
theorem MapF.block {w w' : World} {b N : Nat} {f : Key → Option Value} (h : MapF w b N f) (e : w'.heap[b]? = w.heap[b]?) : MapF w' b N f := by
  obtain ⟨D, ks, ⟨es, c, hb, r⟩, t⟩ := h
  exact ⟨D, ks, ⟨es, c, e.trans hb, r⟩, t⟩
theorem MapF.below {w w' : World} {b N M : Nat} {f : Key → Option Value} (h : MapF w b N f) (hb : Below M w w') (hm : b < M) : MapF w' b N f := h.block (hb.block b hm)
theorem MapF.drewn {w : World} {b N : Nat} {f : Key → Option Value} (h : MapF w b N f) (n : Nat) : MapF (w.drewN n) b N f := h.block rfl
theorem MapF.drew {w : World} {b N : Nat} {f : Key → Option Value} (h : MapF w b N f) : MapF w.drew b N f := h.block rfl
theorem MapF.alloc {w : World} {b N : Nat} {f : Key → Option Value} (h : MapF w b N f) (o : Obj) : MapF (w.alloc o) b N f := h.below (Cmd.below_one w o) h.lt
theorem MapF.made (w : World) : MapF (w.alloc (.map #[] 0)) w.heap.size 0 (fun _ => none) := ⟨.map [], [], World.ownsMap_made w _ _ _, .none, Nat.le_refl _⟩
theorem MapF.ext {w : World} {b N : Nat} {f g : Key → Option Value} (h : MapF w b N f) (e : ∀ s, f s = g s) : MapF w b N g := by rw [← (funext e : f = g)]; exact h
section
variable {t e : TypeId} {z : Value}
/-- What a key that is not there gives. -/
theorem MapF.look {w : World} {b N : Nat} {f : Key → Option Value} (h : MapF w b N f) (ht : Try.prog.underlying t = some (.map 9 e)) (hz : ∀ w, (zeroValue e).run Try.prog w = .ok z w) {s : Key} (hs : s.length ≤ 140737488351232) :
    (Instr.lookup t (.map (some b)) (.string (str s)) false).run Try.prog w = .ok ((f s).getD z) w := by
  obtain ⟨D, ks, hD, S, _⟩ := h
  obtain ⟨v, ps, hrun, hv⟩ := hD.lookup klaw ht (hz w) (zd := .held z) (zp := []) rfl (kkey hs)
  rw [hrun]
  cases hf : f s with
  | none =>
    have h0 := S.has s
    rw [hf] at h0
    rw [atKey_of_not_has h0] at hv
    cases hv; rfl
  | some u =>
    rw [S.val s u hf] at hv
    cases hv; rfl
theorem MapF.look_ok {w : World} {b N : Nat} {f : Key → Option Value} (h : MapF w b N f) (ht : Try.prog.underlying t = some (.map 9 e)) (hz : ∀ w, (zeroValue e).run Try.prog w = .ok z w) {s : Key} (hs : s.length ≤ 140737488351232) :
    (Instr.lookup t (.map (some b)) (.string (str s)) true).run Try.prog w = .ok (.tuple #[(f s).getD z, .bool (f s).isSome]) w := by
  obtain ⟨D, ks, hD, S, _⟩ := h
  obtain ⟨v, ps, hrun, hv⟩ := hD.look_ok klaw ht (hz w) (zd := .held z) (zp := []) rfl (kkey hs)
  rw [hrun, S.has s]
  cases hf : f s with
  | none =>
    have h0 := S.has s
    rw [hf] at h0
    rw [atKey_of_not_has h0] at hv
    cases hv; rfl
  | some u =>
    rw [S.val s u hf] at hv
    cases hv; rfl
theorem MapF.store {w : World} {b N : Nat} {f : Key → Option Value} (h : MapF w b N f) (ht : Try.prog.underlying t = some (.map 9 e)) (hN : N ≤ 1000000) {s : Key} (hs : s.length ≤ 1000) (v : Value) :
    ∃ w', (Instr.mapUpdate t (.map (some b)) (.string (str s)) v).run Try.prog w = .ok () w' ∧ MapF w' b (N + 1) (setF f s (some v)) ∧ w.mapTurned w' b := by
  obtain ⟨D, ks, hD, S, hk⟩ := h
  obtain ⟨w', hrun, h1, h2⟩ := hD.store klaw ht (by unfold maxLen; omega) (kkey (s := s) (by omega)) (val := v) (d := .held v) (ps := []) rfl
  obtain ⟨ks', S', hl⟩ := S.put (hD.tidy klaw) s v hs
  have h3 := tightR h1
  rw [S'.size] at h3
  exact ⟨w', hrun, ⟨_, ks', h3, S', by omega⟩, h2⟩
theorem MapF.drop {w : World} {b N : Nat} {f : Key → Option Value} (h : MapF w b N f) (ht : Try.prog.underlying t = some (.map 9 e)) {s : Key} (hs : s.length ≤ 140737488351232) (ty : TypeId) :
    ∃ w', (Builtin.delete_ #[t, 9] ty #[.map (some b), .string (str s)]).run Try.prog w = .ok (.tuple #[]) w' ∧ MapF w' b N (setF f s none) ∧ w.mapTurned w' b := by
  obtain ⟨D, ks, hD, S, hk⟩ := h
  obtain ⟨w', hrun, h1, h2⟩ := hD.drop klaw ht (kkey hs) ty
  obtain ⟨ks', S', hl⟩ := S.del (hD.tidy klaw) s
  have h3 := tightR h1
  rw [S'.size] at h3
  exact ⟨w', hrun, ⟨_, ks', h3, S', by omega⟩, h2⟩
end

/-! ### Gone over -/
abbrev GoingR (w : World) (m r n : Nat) (D : DataW Value) (left : Lit → Bool) (cnt : Nat) : Prop := w.ranges Try.prog 9 raw m r n D left cnt
/-- A round's step: nothing is left, or one of the keys has come. (Both goals are hidden, for the walk to stand.) -/
theorem wp_next_raw {w : World} {ops : Array Oper} {rest : List Oper} {o : Oper} {a : Act} {Q : Exit → Act → World → Prop} (hg : o.guard = none) (it : Operand) (hop : o.op = Op.next it false) (m r n : Nat) (D : DataW Value) (ks : List Key) (f : Key → Option Value) (S : Says D ks f) (left : Lit → Bool) (cnt : Nat)
    (hit : a.eval it = .pointer (some ⟨r, 0, none⟩)) (h : GoingR w m r n D left cnt)
    (hDone : Hid ((∀ kl, left kl = false) → wpList Try.prog ops Q rest (a.put o.dst (.tuple #[.bool false])) w))
    (hMore : Hid (∀ (s : Key) (v : Value) (w' : World) (cnt' : Nat), f s = some v → s.length ≤ 1000 → left (.string s) = true → GoingR w' m r n D (fun z => left z && !z.sameKey (.string s)) cnt' → cnt' < cnt → w.grownBy w' (some r) → w'.heap.size = w.heap.size →
      (Instr.entry (.pointer (some ⟨r, 0, none⟩))).run Try.prog w' = .ok (.tuple #[.string (str s), v]) w' → wpList Try.prog ops Q rest (a.put o.dst (.tuple #[.bool true, .string (str s), v])) w')) :
    wpList Try.prog ops Q (o :: rest) a w := by
  refine wpList_next_ranges w hg it hop 9 klaw raw (fun s : Key => .string (str s)) (fun v : Value => v) (fun key kl hk => by obtain ⟨x, hx, _⟩ := Maps.keyOf_str Try.underlying9 hk; exact ⟨x, hx⟩) (fun v y hv => ⟨v, rfl⟩) m r n D left cnt hit h (fun _ => hDone.out) ?_
  intro s c kl yv w' cnt' hkey hlk hv hat hrg hlt hgr hsz hen
  obtain ⟨x, e, rfl, hx⟩ := Maps.keyOf_str Try.underlying9 hkey
  obtain rfl : s = x := encStr_inj e
  have hh := has_true_of_atKey hat
  cases hv
  have hf : f s = some c := by
    have h0 := S.has s
    rw [hh] at h0
    cases hf : f s with
    | none => rw [hf] at h0; cases h0
    | some u =>
      have := (S.val s u hf (.held c)).symm.trans (hat _)
      cases this; rfl
  have hkl : s.length ≤ 1000 := S.few s (by rw [hf]; rfl)
  exact hMore.out s c w' cnt' hf hkl hlk hrg hlt hgr hsz hen
end Go.Proofs.Ytdnabghhjlhjoaa.Vau

/- A vault in memory; what New, held, Count, Get, the library's Clone of logs, and Log give (layer 13, vault). Conditions: the vault lies in memory as its cells and its maps say; texts of a length that Go reads. -/
namespace Go.Proofs.Ytdnabghhjlhjoaa.Vau
open Go.RowKit F64 Cmd Bat Cel Wid Go.Maps Go.WideElems Go.ChangeMaps Go.Sort
set_option linter.unusedVariables false
set_option linter.unusedSimpArgs false

/-! ### What has turned -/
/-- Nothing that was there has turned but F's blocks. -/
structure Only (F : Nat → Prop) (w w' : World) : Prop where
  below : Below 0 w w'
  block : ∀ b, b < w.heap.size → ¬ F b → w'.heap[b]? = w.heap[b]?
theorem Only.refl (F : Nat → Prop) (w : World) : Only F w w := ⟨Below.refl _ _, fun _ _ _ => rfl⟩
theorem Only.of {w w' : World} (F : Nat → Prop) (h : Below w.heap.size w w') : Only F w w' := ⟨h.mono (Nat.zero_le _), fun b hb _ => h.block b hb⟩
theorem Only.trans {F G : Nat → Prop} {a b c : World} (h : Only F a b) (g : Only G b c) (hG : ∀ k, G k → F k ∨ a.heap.size ≤ k) : Only F a c :=
  ⟨h.below.trans g.below, fun k hk hF => (g.block k (Nat.lt_of_lt_of_le hk h.below.size) (fun hg => (hG k hg).elim hF (fun h2 => by omega))).trans (h.block k hk hF)⟩
theorem Only.grown {F : Nat → Prop} {w w' : World} {k : Nat} (h : w.grownBy w' (some k)) (hk : F k) : Only F w w' :=
  ⟨⟨h.os, h.tape, h.output, h.size, fun i hi => absurd hi (Nat.not_lt_zero _)⟩, fun b hb hF => h.block b hb (fun e => hF (by cases e; exact hk))⟩
theorem Only.low {F : Nat → Prop} {w w' : World} {n : Nat} (h : Only F w w') (hn : n ≤ w.heap.size) (hF : ∀ k, F k → n ≤ k) : Below n w w' :=
  ⟨h.below.os, h.below.tape, h.below.output, h.below.size, fun k hk => h.block k (by omega) (fun hf => by have := hF k hf; omega)⟩
theorem Only.mono {F G : Nat → Prop} {w w' : World} (h : Only F w w') (hF : ∀ k, F k → G k) : Only G w w' := ⟨h.below, fun b hb hG => h.block b hb (fun hf => hG (hF b hf))⟩
/-- F's blocks, and those that are new. -/
def More (F : Nat → Prop) (n m : Nat) : Nat → Prop := fun k => F k ∨ (n ≤ k ∧ k < m)

/-! ### A vault -/
def CellIs (o : Option Value) (c : Cell2) : Prop := match o with
  | none => Fit false 0 c
  | some v => ∃ z, v = .agg #[.bool true, .float .f64 z] ∧ Fit true z c
abbrev OwnL (w : World) (base : Nat) (v : Value) (zs : List Wr) : Prop := wdW.Own 63 w base v zs
theorem ownL_block {w w' : World} {base : Nat} {v : Value} {zs : List Wr} (h : OwnL w base v zs) (hb : ∀ k, v.ownBlock = some k → w'.heap[k]? = w.heap[k]?) : OwnL w' base v zs :=
  ⟨h.1, h.2.imp id fun ⟨g, cap, cur, h1, h2, h3, h4⟩ => ⟨g, cap, cur, h1, h2, (hb g (by rw [h1]; rfl)).trans h3, h4⟩⟩
/-- The vault at block g: its maps lie at mc and ml; F: what it may write. -/
structure VM (w : World) (base : Nat) (F : Nat → Prop) (g mc ml : Nat) (f h : Key → Option Value) (C : Key → Cell2) (L : Key → List Wr) (N : Nat) (cnt : Int) : Prop where
  blk : w.heap[g]? = some (.cells #[.map (some mc), .map (some ml), .int .i64 cnt] 77 (0, 0))
  cm : MapF w mc N f
  lm : MapF w ml N h
  ci : ∀ s, CellIs (f s) (C s)
  no : ∀ s, h s = none → L s = []
  yes : ∀ s v, h s = some v → OwnL w base v (L s) ∧ L s ≠ []
  own : ∀ s v, h s = some v → ∃ k, v.ownBlock = some k ∧ F k ∧ k ≠ g ∧ k ≠ mc ∧ k ≠ ml
  apart : ∀ s t u v k, h s = some u → h t = some v → u.ownBlock = some k → v.ownBlock = some k → s = t
  ne : mc ≠ ml
  fg : F g
  fmc : F mc
  fml : F ml
  foot : ∀ b, F b → base ≤ b ∧ b < w.heap.size
def VP (w : World) (base : Nat) (F : Nat → Prop) (g : Nat) (C : Key → Cell2) (L : Key → List Wr) (N : Nat) (cnt : Int) : Prop := ∃ mc ml f h, VM w base F g mc ml f h C L N cnt
section
variable {w w' : World} {base : Nat} {F : Nat → Prop} {g mc ml : Nat} {f h : Key → Option Value} {C : Key → Cell2} {L : Key → List Wr} {N : Nat} {cnt : Int}
theorem VM.same (V : VM w base F g mc ml f h C L N cnt) (hs : w.heap.size ≤ w'.heap.size) (hb : ∀ k, F k → w'.heap[k]? = w.heap[k]?) : VM w' base F g mc ml f h C L N cnt :=
  ⟨(hb g V.fg).trans V.blk, V.cm.block (hb mc V.fmc), V.lm.block (hb ml V.fml), V.ci, V.no, fun s v hv => ⟨ownL_block (V.yes s v hv).1 (fun k hk => by obtain ⟨k', h1, h2, _⟩ := V.own s v hv; rw [h1] at hk; cases hk; exact hb k h2), (V.yes s v hv).2⟩, V.own, V.apart, V.ne, V.fg, V.fmc, V.fml, fun b hf => ⟨(V.foot b hf).1, Nat.lt_of_lt_of_le (V.foot b hf).2 hs⟩⟩
theorem VM.on (V : VM w base F g mc ml f h C L N cnt) (hb : Below w.heap.size w w') : VM w' base F g mc ml f h C L N cnt := V.same hb.size fun k hk => hb.block k (V.foot k hk).2
theorem VM.far {G : Nat → Prop} (V : VM w base F g mc ml f h C L N cnt) (ho : Only G w w') (hd : ∀ k, F k → ¬ G k) : VM w' base F g mc ml f h C L N cnt := V.same ho.below.size fun k hk => ho.block k (V.foot k hk).2 (hd k hk)
theorem VM.cells (V : VM w base F g mc ml f h C L N cnt) : w.cell? ⟨g, 0, none⟩ = some (.map (some mc)) ∧ w.cell? ⟨g, 1, none⟩ = some (.map (some ml)) ∧ w.cell? ⟨g, 2, none⟩ = some (.int .i64 cnt) ∧ g < w.heap.size := by
  have hb := V.blk
  refine ⟨?_, ?_, ?_, (V.foot g V.fg).2⟩ <;> simp [World.cell?, hb]
theorem VM.ng (V : VM w base F g mc ml f h C L N cnt) : g ≠ mc ∧ g ≠ ml := by
  obtain ⟨_, _, ⟨_, _, h1, _⟩, _⟩ := V.cm
  obtain ⟨_, _, ⟨_, _, h2, _⟩, _⟩ := V.lm
  have hb := V.blk
  constructor
  · rintro rfl; rw [hb] at h1; cases h1
  · rintro rfl; rw [hb] at h2; cases h2
theorem VP.on (V : VP w base F g C L N cnt) (hb : Below w.heap.size w w') : VP w' base F g C L N cnt := by obtain ⟨mc, ml, f, h, V⟩ := V; exact ⟨mc, ml, f, h, V.on hb⟩
theorem VP.far {G : Nat → Prop} (V : VP w base F g C L N cnt) (ho : Only G w w') (hd : ∀ k, F k → ¬ G k) : VP w' base F g C L N cnt := by obtain ⟨mc, ml, f, h, V⟩ := V; exact ⟨mc, ml, f, h, V.far ho hd⟩
theorem VP.foot (V : VP w base F g C L N cnt) : ∀ b, F b → base ≤ b ∧ b < w.heap.size := by obtain ⟨mc, ml, f, h, V⟩ := V; exact V.foot
theorem VP.mono {M : Nat} (V : VP w base F g C L N cnt) (hm : N ≤ M) : VP w base F g C L M cnt := by
  obtain ⟨mc, ml, f, h, V⟩ := V
  exact ⟨mc, ml, f, h, V.blk, V.cm.mono hm, V.lm.mono hm, V.ci, V.no, V.yes, V.own, V.apart, V.ne, V.fg, V.fmc, V.fml, V.foot⟩
theorem VP.more {G : Nat → Prop} (V : VP w base F g C L N cnt) (hG : ∀ k, F k → G k) (hf : ∀ b, G b → base ≤ b ∧ b < w.heap.size) : VP w base G g C L N cnt := by
  obtain ⟨mc, ml, f, h, V⟩ := V
  exact ⟨mc, ml, f, h, V.blk, V.cm, V.lm, V.ci, V.no, V.yes, fun s v hv => by obtain ⟨k, h1, h2, h3⟩ := V.own s v hv; exact ⟨k, h1, hG k h2, h3⟩, V.apart, V.ne, hG _ V.fg, hG _ V.fmc, hG _ V.fml, hf⟩
theorem VP.like {C' : Key → Cell2} {L' : Key → List Wr} (V : VP w base F g C L N cnt) (hC : ∀ s, C' s = C s) (hL : ∀ s, L' s = L s) : VP w base F g C' L' N cnt := by
  rw [(funext hC : C' = C), (funext hL : L' = L)]; exact V
end
/-- The vault that v reads as. -/
def vptr (g : Nat) : Value := .pointer (some ⟨g, 0, none⟩)
theorem und_mc : Try.prog.underlying 74 = some (.map 9 30) := Try.underlying74
theorem und_ml : Try.prog.underlying 75 = some (.map 9 34) := Try.underlying75
theorem zero_cell (w : World) : (zeroValue 30).run Try.prog w = .ok (.agg #[.bool false, .float .f64 0]) w := by kernel_rfl
theorem zero_log (w : World) : (zeroValue 34).run Try.prog w = .ok (.slice none 0 0) w := by kernel_rfl

/-! ### New -/
def noC : Key → Cell2 := fun _ => (false, 0)
def noL : Key → List Wr := fun _ => []
set_option maxHeartbeats 4000000 in
set_option maxRecDepth 100000 in
theorem vnew_run (w : World) : Calls Try.prog 30 #[] w fun E w' => E = .returned (vptr (w.heap.size + 1 + 1)) ∧ w' = ((w.alloc (.map #[] 0)).alloc (.map #[] 0)).alloc (.cells #[.map (some w.heap.size), .map (some (w.heap.size + 1)), .int .i64 0] 77) := by
  have hmm := @run_makeMap Try.prog
  unfold vptr
  go_enter Try.func30, Try.ntmps30
  go_wp2
  go_ret
  exact ⟨rfl, rfl⟩
def GivesV (base : Nat) (C : Key → Cell2) (L : Key → List Wr) (N : Nat) (cnt : Int) (w : World) (E : Ending) (w' : World) : Prop :=
  ∃ g, E = .returned (vptr g) ∧ VP w' base (More (fun _ => False) w.heap.size w'.heap.size) g C L N cnt ∧ Below w.heap.size w w'
theorem vnew_any (w : World) (base : Nat) (hb : base ≤ w.heap.size) : Calls Try.prog 30 #[] w (GivesV base noC noL 0 0 w) := by
  refine (vnew_run w).mono fun E w' ⟨hE, hw⟩ => ?_
  subst hw
  have b1 := Cmd.below_one w (.map #[] 0)
  have b2 := b1.alloc b1.size (.map #[] 0)
  have b3 := b2.alloc b2.size (.cells #[.map (some w.heap.size), .map (some (w.heap.size + 1)), .int .i64 0] 77)
  have m1 := ((MapF.made w).alloc (.map #[] 0)).alloc (.cells #[.map (some w.heap.size), .map (some (w.heap.size + 1)), .int .i64 0] 77)
  have m2 := (MapF.made (w.alloc (.map #[] 0))).alloc (.cells #[.map (some w.heap.size), .map (some (w.heap.size + 1)), .int .i64 0] 77)
  rw [show (w.alloc (.map #[] 0)).heap.size = w.heap.size + 1 by simp] at m2
  have hn := heap_alloc_new ((w.alloc (.map #[] 0)).alloc (.map #[] 0)) (.cells #[.map (some w.heap.size), .map (some (w.heap.size + 1)), .int .i64 0] 77)
  rw [show ((w.alloc (.map #[] 0)).alloc (.map #[] 0)).heap.size = w.heap.size + 1 + 1 by simp] at hn
  have hs : (((w.alloc (.map #[] 0)).alloc (.map #[] 0)).alloc (.cells #[.map (some w.heap.size), .map (some (w.heap.size + 1)), .int .i64 0] 77)).heap.size = w.heap.size + 3 := by simp
  refine ⟨_, hE, ⟨w.heap.size, w.heap.size + 1, fun _ => none, fun _ => none, ?_⟩, b3⟩
  exact ⟨hn, m1, m2, fun s => ⟨rfl, rfl, fun _ => rfl, by decide⟩, fun s _ => rfl, fun s v h => (by cases h), fun s v h => (by cases h), fun s t u v k h => (by cases h), by omega, .inr ⟨by omega, by omega⟩, .inr ⟨by omega, by omega⟩, .inr ⟨by omega, by omega⟩, fun b hb' => ⟨by rcases hb' with h | h; exact h.elim; omega, by rcases hb' with h | h; exact h.elim; exact h.2⟩⟩

/-! ### held, Count, Get -/
@[go_sem] theorem run_vf0 (a b : Option Nat) (c : Int) (w : World) : (Instr.field 77 (.agg #[.map a, .map b, .int .i64 c]) 0).run Try.prog w = .ok (.map a) w := by kernel_rfl
@[go_sem] theorem run_vf1 (a b : Option Nat) (c : Int) (w : World) : (Instr.field 77 (.agg #[.map a, .map b, .int .i64 c]) 1).run Try.prog w = .ok (.map b) w := by kernel_rfl
@[go_sem] theorem run_vf2 (a b : Option Nat) (c : Int) (w : World) : (Instr.field 77 (.agg #[.map a, .map b, .int .i64 c]) 2).run Try.prog w = .ok (.int .i64 c) w := by kernel_rfl
theorem vault_result {fn : Func} {p : Tmp} (h : fn.results = #[.cell p 77]) (tmps : Array Value) {W : World} {b : Nat} {m l : Option Nat} {c : Int} (hp : tmps.getD p undef = .pointer (some ⟨b, 0, none⟩)) (hb : W.heap[b]? = some (.cells #[.map m, .map l, .int .i64 c] 77 (0, 0))) :
    (results fn tmps).run Try.prog W = .ok (.agg #[.map m, .map l, .int .i64 c]) W := by
  have hp' : tmps[p]?.getD undef = .pointer (some ⟨b, 0, none⟩) := by rw [← Array.getD_eq_getD_getElem?]; exact hp
  have c0 : W.cell? ⟨b, 0, none⟩ = some (.map m) := by simp [World.cell?, hb]
  have c1 : W.cell? ⟨b, 1, none⟩ = some (.map l) := by simp [World.cell?, hb]
  have c2 : W.cell? ⟨b, 2, none⟩ = some (.int .i64 c) := by simp [World.cell?, hb]
  unfold results
  rw [h]
  simp [go_sem, hp', c0, c1, c2, Sem.run_bind, Result.andThen]
set_option maxHeartbeats 4000000 in
set_option maxRecDepth 100000 in
theorem held_nil (w : World) : Calls Try.prog 32 #[.pointer none] w (RetBelow (.agg #[.map none, .map none, .int .i64 0]) w) := by
  have hb := Cmd.below_one w (.cells #[.map none, .map none, .int .i64 0] 77)
  have HB := Lib.hid hb
  clear hb
  go_enter Try.func32, Try.ntmps32
  go_wp2
  exact bodyPost_ret (vault_result rfl _ rfl (heap_alloc_new _ _)) rfl ⟨rfl, HB.out⟩
set_option maxHeartbeats 4000000 in
set_option maxRecDepth 100000 in
theorem held_run (g mc ml : Nat) (cnt : Int) (w : World) (c0 : w.cell? ⟨g, 0, none⟩ = some (.map (some mc))) (c1 : w.cell? ⟨g, 1, none⟩ = some (.map (some ml))) (c2 : w.cell? ⟨g, 2, none⟩ = some (.int .i64 cnt)) (hg : g < w.heap.size) :
    Calls Try.prog 32 #[.pointer (some ⟨g, 0, none⟩)] w (RetBelow (.agg #[.map (some mc), .map (some ml), .int .i64 cnt]) w) := by
  have hb := Cmd.below_one w (.cells #[.map none, .map none, .int .i64 0] 77)
  have d0 := (hb.cell (p := ⟨g, 0, none⟩) hg).trans c0
  have d1 := (hb.cell (p := ⟨g, 1, none⟩) hg).trans c1
  have d2 := (hb.cell (p := ⟨g, 2, none⟩) hg).trans c2
  have HB := Lib.hid (Cmd.below_one w (.cells #[.map (some mc), .map (some ml), .int .i64 cnt] 77))
  have hne : g ≠ w.heap.size := by omega
  clear hb hg c0 c1 c2
  go_enter Try.func32, Try.ntmps32
  go_wp2
  exact bodyPost_ret (vault_result rfl _ rfl (heap_alloc_new _ _)) rfl ⟨rfl, HB.out⟩
theorem held_any {w : World} {base : Nat} {F : Nat → Prop} {g mc ml : Nat} {f h : Key → Option Value} {C : Key → Cell2} {L : Key → List Wr} {N : Nat} {cnt : Int} (V : VM w base F g mc ml f h C L N cnt) : Calls Try.prog 32 #[vptr g] w (RetBelow (.agg #[.map (some mc), .map (some ml), .int .i64 cnt]) w) :=
  held_run g mc ml cnt w V.cells.1 V.cells.2.1 V.cells.2.2.1 V.cells.2.2.2
def GivesCell (c : Cell2) (w : World) (E : Ending) (w' : World) : Prop := GivesFold c w E w'
set_option maxHeartbeats 4000000 in
set_option maxRecDepth 100000 in
theorem vget_run (g mc : Nat) (ml : Option Nat) (cnt : Int) (s : Key) (b : Bool) (z : Nat) (w : World) (CH : Hid (∀ W, Below w.heap.size w W → Calls Try.prog 32 #[.pointer (some ⟨g, 0, none⟩)] W (RetBelow (.agg #[.map (some mc), .map ml, .int .i64 cnt]) W)))
    (HL : Hid (∀ W, Below w.heap.size w W → (Instr.lookup 74 (.map (some mc)) (.string (str s)) false).run Try.prog W = .ok (.agg #[.bool b, .float .f64 z]) W)) : Calls Try.prog 23 #[.pointer (some ⟨g, 0, none⟩), .string (str s)] w (RetBelow (.agg #[.bool b, .float .f64 z]) w) := by
  have B0 := Lib.hid (Cmd.below_one w (.cells #[.bool false, .float .f64 0] 30))
  have X0 := Lib.hid (Bx.new w false 0)
  have CH1 := Lib.hid (CH.out _ B0.out)
  go_enter Try.func23, Try.ntmps23
  go_wp2_with (first
    | (go_at_call 32; (with_reducible refine CH1.out.mono ?_); rintro E w1 ⟨rfl, hb⟩; have B1 := Lib.hid (B0.out.trans (hb.mono B0.out.size)); have X1 := Lib.hid (X0.out.on hb); obtain ⟨b0, b1, b2, b3⟩ := X1.out.facts; have hl1 := HL.out w1 B1.out; clear hb))
  have X2 := X1.out.put b z
  obtain ⟨d0, d1, -, -⟩ := X2.facts
  exact bodyPost_ret (cell_result rfl _ rfl d0 d1) rfl ⟨rfl, (B1.out.setCell (p := ⟨w.heap.size, 0, none⟩) (Nat.le_refl _) _).setCell (p := ⟨w.heap.size, 1, none⟩) (Nat.le_refl _) _⟩
theorem vget_any {w : World} {base : Nat} {F : Nat → Prop} {g : Nat} {C : Key → Cell2} {L : Key → List Wr} {N : Nat} {cnt : Int} (V : VP w base F g C L N cnt) (s : Key) (hs : s.length ≤ 140737488351232) : Calls Try.prog 23 #[vptr g, .string (str s)] w (GivesFold (C s) w) := by
  obtain ⟨mc, ml, f, h, V⟩ := V
  have hc := V.ci s
  have hl := fun W (hb : Below w.heap.size w W) => ((V.on hb).cm).look und_mc zero_cell hs
  cases hf : f s with
  | none =>
    rw [hf] at hc hl
    exact (vget_run g mc (some ml) cnt s false 0 w (Lib.hid fun W hb => held_any (V.on hb)) (Lib.hid hl)).mono fun E w' ⟨h1, h2⟩ => ⟨false, 0, h1, hc, h2⟩
  | some v =>
    rw [hf] at hc hl
    obtain ⟨z, rfl, hz⟩ := hc
    exact (vget_run g mc (some ml) cnt s true z w (Lib.hid fun W hb => held_any (V.on hb)) (Lib.hid hl)).mono fun E w' ⟨h1, h2⟩ => ⟨true, z, h1, hz, h2⟩
end Go.Proofs.Ytdnabghhjlhjoaa.Vau

/- What the library's Clone of logs, and Log give; the library's Equal of logs (layer 13, vault). Conditions: the vault lies in memory as its cells and its maps say; texts of a length that Go reads; a log is not longer than 100000. -/
namespace Go.Proofs.Ytdnabghhjlhjoaa.Vau
open Go.RowKit F64 Cmd Bat Cel Wid Go.Maps Go.WideElems Go.ChangeMaps Go.Sort
set_option linter.unusedVariables false
set_option linter.unusedSimpArgs false

def GivesL (zs : List Wr) (w : World) (E : Ending) (w' : World) : Prop := ∃ v, E = .returned v ∧ OwnL w' w.heap.size v zs ∧ Below w.heap.size w w'
set_option maxHeartbeats 4000000 in
set_option maxRecDepth 100000 in
theorem wclone_any (v : Value) (zs : List Wr) (w : World) (h : layW.Row w v zs) (hl : zs.length ≤ 100000) : Calls Try.prog 33 #[v] w (GivesL zs w) := by
  have q22 : ∀ (w : World) (a : Option Addr) (n c n' c' : Nat), (binOp .eql 34 (.slice a n c) (.slice none n' c')).run Try.prog w = .ok (.bool a.isNone) w := fun w a n c n' c' => Lib.run_eql_slice_nil w _ _ a n c n' c' Try.underlying34
  have h' := h
  obtain ⟨p, cap, rfl, h1, h2, h3⟩ := h'
  cases p with
  | none =>
    have hz : zs = [] := Classical.byContradiction fun hz => by obtain ⟨_, _, e, _⟩ := h3 hz; cases e
    subst hz
    clear h h3
    go_enter Try.func33, Try.ntmps33
    go_wp2
    go_ret
    exact ⟨_, rfl, World.ownsRow_nil _ _ _ _, Below.refl _ _⟩
  | some ad =>
    have HB0 := Cmd.below_one w (.cells #[] 63)
    have HR := Lib.hid (h.on HB0)
    have HO : Hid (OwnL (w.alloc (.cells #[] 63)) w.heap.size (.slice (some ⟨w.heap.size, 0, none⟩) 0 0) []) := Lib.hid (Wd.Own.made (D := wdW) 63 w (Nat.le_refl _))
    have HL : Hid (([] : List Wr).length + zs.length ≤ 1000000) := Lib.hid (by rw [List.length_nil]; omega)
    have hs := HB0.size
    have HB := Lib.hid HB0
    obtain ⟨n, hn⟩ : ∃ n, n = zs.length := ⟨_, rfl⟩
    rw [← hn] at HR ⊢
    clear h h3 hn HB0
    go_enter Try.func33, Try.ntmps33
    go_wp2_with (first
      | (at_builtin; refine wp_wide wtW rfl _ _ rfl w.heap.size _ [] rfl HO.out hs _ zs rfl HR.out HL.out ?_; intro v1 w3 HO1 HB1 HG1))
    go_ret
    exact ⟨_, rfl, HO1.out, HB.out.trans HB1.out⟩

/-! ### Log -/
set_option maxHeartbeats 4000000 in
set_option maxRecDepth 100000 in
theorem vlog_run (g ml : Nat) (mc : Option Nat) (cnt : Int) (s : Key) (u : Value) (zs : List Wr) (w : World) (CH : Hid (∀ W, Below w.heap.size w W → Calls Try.prog 32 #[.pointer (some ⟨g, 0, none⟩)] W (RetBelow (.agg #[.map mc, .map (some ml), .int .i64 cnt]) W)))
    (HL : Hid (∀ W, Below w.heap.size w W → (Instr.lookup 75 (.map (some ml)) (.string (str s)) false).run Try.prog W = .ok u W))
    (CC : Hid (∀ W, Below w.heap.size w W → Calls Try.prog 33 #[u] W (GivesL zs W))) : Calls Try.prog 25 #[.pointer (some ⟨g, 0, none⟩), .string (str s)] w (GivesL zs w) := by
  have CH1 := Lib.hid (CH.out _ (Below.refl _ _))
  go_enter Try.func25, Try.ntmps25
  go_wp2_with (first
    | (go_at_call 32; (with_reducible refine CH1.out.mono ?_); rintro E w1 ⟨rfl, hb⟩; have B1 := Lib.hid hb; have hl1 := HL.out w1 B1.out; have CC1 := Lib.hid (CC.out w1 B1.out); clear hb)
    | (go_at_call 33; (with_reducible refine CC1.out.mono ?_); rintro E w2 ⟨v2, rfl, ho, hb⟩; have O2 := Lib.hid ho; have B2 := Lib.hid (B1.out.trans (hb.mono B1.out.size)); clear ho hb))
  go_ret
  exact ⟨_, rfl, Wd.Own.lower O2.out B1.out.size, B2.out⟩
theorem vlog_any {w : World} {base : Nat} {F : Nat → Prop} {g : Nat} {C : Key → Cell2} {L : Key → List Wr} {N : Nat} {cnt : Int} (V : VP w base F g C L N cnt) (s : Key) (hs : s.length ≤ 140737488351232) (hl : (L s).length ≤ 100000) : Calls Try.prog 25 #[vptr g, .string (str s)] w (GivesL (L s) w) := by
  obtain ⟨mc, ml, f, h, V⟩ := V
  have hlk := fun W (hb : Below w.heap.size w W) => ((V.on hb).lm).look und_ml zero_log hs
  have hrow : ∀ W, Below w.heap.size w W → layW.Row W ((h s).getD (.slice none 0 0)) (L s) := fun W hb => by
    cases hf : h s with
    | none => rw [V.no s hf]; exact Wd.Own.row (Wd.Own.void (D := wdW) 63 W 0)
    | some u => exact Wd.Own.row ((V.on hb).yes s u hf).1
  exact vlog_run g ml (some mc) cnt s _ (L s) w (Lib.hid fun W hb => held_any (V.on hb)) (Lib.hid hlk) (Lib.hid fun W hb => wclone_any _ _ W (hrow W hb) hl)

/-! ### slices.Equal at logs -/
end Go.Proofs.Ytdnabghhjlhjoaa.Vau

/- What one command does to a vault in memory: its cells' map, then its logs' map is written (layer 13, vault). Conditions: the vault lies in memory as its cells and its maps say; those in each statement. -/
namespace Go.Proofs.Ytdnabghhjlhjoaa.Vau
open Go.RowKit F64 Cmd Bat Cel Wid Go.Maps Go.WideElems Go.ChangeMaps Go.Sort
set_option linter.unusedVariables false
set_option linter.unusedSimpArgs false

theorem Only.cell {F : Nat → Prop} {w w' : World} (h : Only F w w') {b i : Nat} {v : Value} (hc : w.cell? ⟨b, i, none⟩ = some v) (hF : ¬ F b) : w'.cell? ⟨b, i, none⟩ = some v := by
  have hlt := World.block_lt_of_cell? _ _ hc
  exact (World.cell?_of_block (w := w) (a := ⟨b, i, none⟩) (h.block b hlt hF)).trans hc
theorem Only.drew (F : Nat → Prop) (w : World) : Only F w w.drew := .of F (Below.refl _ _).drew
theorem Only.turned {F : Nat → Prop} {w w' : World} {b : Nat} (h : w.mapTurned w' b) (hb : F b) : Only F w w' := .grown h.grown hb
section
variable {w w' : World} {base : Nat} {F : Nat → Prop} {g mc ml : Nat} {f h : Key → Option Value} {C : Key → Cell2} {L : Key → List Wr} {N : Nat} {cnt : Int}
theorem VM.mono {M : Nat} (V : VM w base F g mc ml f h C L N cnt) (hm : N ≤ M) : VM w base F g mc ml f h C L M cnt :=
  ⟨V.blk, V.cm.mono hm, V.lm.mono hm, V.ci, V.no, V.yes, V.own, V.apart, V.ne, V.fg, V.fmc, V.fml, V.foot⟩
theorem VM.drew (V : VM w base F g mc ml f h C L N cnt) : VM w.drew base F g mc ml f h C L N cnt := V.on (Below.refl _ _).drew
/-- The cells' map has been written. -/
theorem VM.cellput {f' : Key → Option Value} {C' : Key → Cell2} (V : VM w base F g mc ml f h C L N cnt) (ht : w.mapTurned w' mc) (hm : MapF w' mc (N + 1) f') (hc : ∀ t, CellIs (f' t) (C' t)) : VM w' base F g mc ml f' h C' L (N + 1) cnt := by
  have hg := ht.grown
  have hb : ∀ k, k < w.heap.size → k ≠ mc → w'.heap[k]? = w.heap[k]? := fun k hk hne => hg.block k hk (fun e => hne (Option.some.inj e))
  exact ⟨(hb g (V.foot g V.fg).2 V.ng.1).trans V.blk, hm, (V.lm.block (hb ml V.lm.lt V.ne.symm)).mono (Nat.le_succ _), hc, V.no, fun s v hv => ⟨ownL_block (V.yes s v hv).1 (fun k hk => by
    obtain ⟨k', h1, h2, _, h3, _⟩ := V.own s v hv
    rw [h1] at hk; cases hk
    exact hb k (V.foot k h2).2 h3), (V.yes s v hv).2⟩, V.own, V.apart, V.ne, V.fg, V.fmc, V.fml, fun b hf => ⟨(V.foot b hf).1, Nat.lt_of_lt_of_le (V.foot b hf).2 hg.size⟩⟩
/-- What the key's log is. -/
def logV (h : Key → Option Value) (s : Key) : Value := (h s).getD (.slice none 0 0)
theorem VM.log (V : VM w base F g mc ml f h C L N cnt) (s : Key) : OwnL w base (logV h s) (L s) := by
  unfold logV
  cases hf : h s with
  | none => rw [V.no s hf]; exact Wd.Own.void (D := wdW) 63 w base
  | some u => exact (V.yes s u hf).1
theorem VM.logown (V : VM w base F g mc ml f h C L N cnt) (s : Key) {k : Nat} (hk : (logV h s).ownBlock = some k) : F k ∧ k ≠ g ∧ k ≠ mc ∧ k ≠ ml ∧ h s = some (logV h s) := by
  unfold logV at *
  cases hf : h s with
  | none => rw [hf] at hk; cases hk
  | some u =>
    rw [hf] at hk
    obtain ⟨k', h1, h2, h3, h4, h5⟩ := V.own s u hf
    rw [show (some u).getD (.slice none 0 0) = u from rfl, h1] at hk
    cases hk
    exact ⟨h2, h3, h4, h5, rfl⟩
/-- The row of the log has been written, then the logs' map. -/
theorem VM.logput {w1 w2 w3 : World} {s : Key} {v' : Value} {x : Wr} (V : VM w base F g mc ml f h C L N cnt) (hb : Below w.heap.size w w1) (ho : OwnL w2 base v' (L s ++ [x])) (hg : w1.grownBy w2 (logV h s).ownBlock) (hnew : v'.ownBlock = (logV h s).ownBlock ∨ v'.ownBlock = some w1.heap.size)
    (ht : w2.mapTurned w3 ml) (hm : MapF w3 ml (N + 1) (setF h s (some v'))) (hbase : base ≤ w.heap.size) :
    VM w3 base (More F w.heap.size w3.heap.size) g mc ml f (setF h s (some v')) C (fun t => if t = s then L s ++ [x] else L t) (N + 1) cnt ∧ Only F w w3 := by
  have V1 := V.on hb
  have hg2 := ht.grown
  have hsz : w.heap.size ≤ w1.heap.size := hb.size
  have hgs := hg.size
  have hg2s := hg2.size
  have b12 : ∀ k, k < w1.heap.size → (logV h s).ownBlock ≠ some k → w2.heap[k]? = w1.heap[k]? := fun k hk hne => hg.block k hk (fun e => hne e.symm)
  have b23 : ∀ k, k < w2.heap.size → k ≠ ml → w3.heap[k]? = w2.heap[k]? := fun k hk hne => hg2.block k hk (fun e => hne (Option.some.inj e))
  have b13 : ∀ k, k < w1.heap.size → (logV h s).ownBlock ≠ some k → k ≠ ml → w3.heap[k]? = w1.heap[k]? := fun k hk h1 h2 => (b23 k (Nat.lt_of_lt_of_le hk hg.size) h2).trans (b12 k hk h1)
  have hne : L s ++ [x] ≠ [] := by simp
  obtain ⟨kv, hkv, hkvlt⟩ : ∃ kv, v'.ownBlock = some kv ∧ kv < w2.heap.size := by
    have hlt := World.ownsRow.lt ho
    rcases ho.2 with ⟨_, h0⟩ | ⟨q, cap, cur, rfl, hr⟩
    · exact absurd (List.eq_nil_of_length_eq_zero h0) hne
    · exact ⟨q, rfl, (hlt q rfl).2⟩
  have hcase : (F kv ∧ kv ≠ g ∧ kv ≠ mc ∧ kv ≠ ml ∧ (logV h s).ownBlock = some kv ∧ h s = some (logV h s)) ∨ kv = w1.heap.size := by
    rcases hnew with e | e
    · rw [hkv] at e
      obtain ⟨h1, h2, h3, h4, h5⟩ := V.logown s e.symm
      exact .inl ⟨h1, h2, h3, h4, e.symm, h5⟩
    · rw [hkv] at e; exact .inr (Option.some.inj e)
  have gl := (V1.foot g V1.fg).2
  have mcl := (V1.foot mc V1.fmc).2
  have mll := (V1.foot ml V1.fml).2
  have vown : ∀ t v k, h t = some v → v.ownBlock = some k → F k ∧ k ≠ g ∧ k ≠ mc ∧ k ≠ ml := fun t v k hv hk => by
    obtain ⟨k', h1, h2, h3⟩ := V.own t v hv
    rw [h1] at hk; cases hk; exact ⟨h2, h3⟩
  have notg : (logV h s).ownBlock ≠ some g := fun e => (V.logown s e).2.1 rfl
  have notmc : (logV h s).ownBlock ≠ some mc := fun e => (V.logown s e).2.2.1 rfl
  have hkml : kv ≠ ml := by rcases hcase with h1 | h1 <;> omega
  refine ⟨⟨(b13 g gl notg V.ng.2).trans V1.blk, (V1.cm.block (b13 mc mcl notmc V.ne)).mono (Nat.le_succ _), hm, V.ci, fun t ht' => ?_, fun t v hv => ?_, fun t v hv => ?_, fun t r u v k hu hv huk hvk => ?_, V.ne, .inl V.fg, .inl V.fmc, .inl V.fml, fun b hf => ?_⟩, ?_⟩
  · by_cases e : t = s
    · rw [e, setF_same] at ht'; cases ht'
    · rw [setF_other _ _ e] at ht'; simp only [if_neg e]; exact V.no t ht'
  · by_cases e : t = s
    · rw [e, setF_same] at hv; cases hv
      simp only [e, if_true]
      exact ⟨ownL_block ho (fun k hk => by rw [hkv] at hk; cases hk; exact b23 kv hkvlt hkml), hne⟩
    · rw [setF_other _ _ e] at hv; simp only [if_neg e]
      refine ⟨ownL_block (V1.yes t v hv).1 (fun k hk => ?_), (V.yes t v hv).2⟩
      obtain ⟨h1, h2, h3, h4⟩ := vown t v k hv hk
      refine b13 k (V1.foot k h1).2 (fun e2 => ?_) h4
      exact e (V.apart t s v _ k hv (V.logown s e2).2.2.2.2 hk e2)
  · by_cases e : t = s
    · rw [e, setF_same] at hv; cases hv
      refine ⟨kv, hkv, ?_⟩
      rcases hcase with ⟨h1, h2, h3, h4, -⟩ | h1
      · exact ⟨.inl h1, h2, h3, h4⟩
      · exact ⟨.inr ⟨by omega, by omega⟩, by omega, by omega, by omega⟩
    · rw [setF_other _ _ e] at hv
      obtain ⟨k, h1, h2, h3⟩ := V.own t v hv
      exact ⟨k, h1, .inl h2, h3⟩
  · by_cases e : t = s
    · by_cases e2 : r = s
      · rw [e, e2]
      · rw [e, setF_same] at hu; cases hu
        rw [setF_other _ _ e2] at hv
        obtain ⟨h1, -⟩ := vown r v k hv hvk
        have hlt := (V1.foot k h1).2
        rw [hkv] at huk; cases huk
        rcases hcase with ⟨-, -, -, -, h5, h6⟩ | h5
        · rw [e]; exact V.apart s r _ v kv h6 hv h5 hvk
        · omega
    · rw [setF_other _ _ e] at hu
      by_cases e2 : r = s
      · rw [e2, setF_same] at hv; cases hv
        obtain ⟨h1, -⟩ := vown t u k hu huk
        have hlt := (V1.foot k h1).2
        rw [hkv] at hvk; cases hvk
        rcases hcase with ⟨-, -, -, -, h5, h6⟩ | h5
        · rw [e2]; exact V.apart t s u _ kv hu h6 huk h5
        · omega
      · rw [setF_other _ _ e2] at hv
        exact V.apart t r u v k hu hv huk hvk
  · rcases hf with hf | ⟨h1, h2⟩
    · have := V1.foot b hf; exact ⟨this.1, by omega⟩
    · exact ⟨by omega, h2⟩
  · refine ⟨⟨?_, ?_, ?_, by omega, fun k hk => absurd hk (Nat.not_lt_zero _)⟩, fun k hk hF => ?_⟩
    · rw [hg2.os, hg.os, hb.os]
    · rw [hg2.tape, hg.tape, hb.tape]
    · rw [hg2.output, hg.output, hb.output]
    · exact (b13 k (by omega) (fun e => hF (V.logown s e).1) (fun e => hF (by rw [e]; exact V.fml))).trans (hb.block k hk)
end

/-- append of a row of writers, with where the new one lies. -/
theorem run_wide_at {α : Type} {D : Wd α} {t e : TypeId} {z : Value} {bytes : Nat} (T : Wt D t e z bytes) (w : World) (ty : TypeId) (base : Nat) (v : Value) (zs : List α) (hv : D.Own e w base v zs) (hb : base ≤ w.heap.size) (ad : Addr) (cap : Nat) (ys : List α) (hu : D.L.Row w (.slice (some ad) ys.length cap) ys) (hl : zs.length + ys.length ≤ 1000000) :
    ∃ v' w', (Builtin.append_ #[t, t] ty #[v, .slice (some ad) ys.length cap]).run Try.prog w = .ok v' w' ∧ D.Own e w' base v' (zs ++ ys) ∧ w.grownBy w' v.ownBlock ∧ (v'.ownBlock = v.ownBlock ∨ v'.ownBlock = some w.heap.size) := by
  obtain ⟨i0, hi, hz0, hz1, hz2⟩ := info_parts T.inf
  have hby : (zs.length + ys.length) * bytes ≤ 1000000 * 100 := Nat.mul_le_mul hl T.few
  obtain ⟨v', w', hr, r1, r2, -, r3⟩ := run_append_own_at (P := Try.prog) (w := w) base t ty e i0 _ D.c bytes T.und hi hz0 hz1 hz2 T.zc D.cpos v zs.length (D.flat zs) hv ad ys.length cap (D.flat ys) (D.flat_len ys) (Wd.olds hu ad rfl) (D.flat_one ys) (by unfold maxLen; omega) (by omega) hb
  refine ⟨v', w', hr, ?_, r2, r3⟩
  unfold Wd.Own; rw [List.length_append, D.flat_app]; exact r1
theorem step_one {ops : Array Oper} {o : Oper} {a : Act} {w : World} {K : Act → World → Prop} {Q : Exit → Act → World → Prop} {E : Prop}
    (hw : Region.wanted o (yielded ops a.tmps) = true) (s x : Operand) (ho : o.op = .call { callee := .builtin .append, args := #[s, x], argTypes := #[34, 34] })
    (base : Nat) (v : Value) (zs : List Wr) (hs : a.eval s = v) (hv : OwnL w base v zs) (hb : base ≤ w.heap.size) (ad : Addr) (y : Wr) (hx : a.eval x = .slice (some ad) 1 1) (hu : layW.Row w (.slice (some ad) 1 1) [y]) (hl : zs.length + 1 ≤ 1000000)
    (hK : ∀ v' w', Hid (OwnL w' base v' (zs ++ [y])) → Hid (w.grownBy w' v.ownBlock) → Hid (v'.ownBlock = v.ownBlock ∨ v'.ownBlock = some w.heap.size) → K (a.put o.dst v') w') : if Region.wanted o (yielded ops a.tmps) = true then Oper.wp Try.prog o a w K Q else E := by
  rw [if_pos hw]
  obtain ⟨v', w', hr, r1, r2, r3⟩ := run_wide_at wtW w o.type base v zs hv hb ad 1 [y] hu hl
  have hr' : (Builtin.append_ #[34, 34] o.type #[v, .slice (some ad) 1 1]).run Try.prog w = .ok v' w' := hr
  unfold Oper.wp
  simp [execOp, ho, resolve, invoke, builtin, hs, hx, hr', Result.andThen]
  exact hK v' w' (Lib.hid r1) (Lib.hid r2) (Lib.hid r3)
end Go.Proofs.Ytdnabghhjlhjoaa.Vau
