/- What the program's Keys gives: its keys are gathered in a map, gone over and sorted by the library (layer 7, batch). Conditions: the list lies in memory as its cells say, and is not longer than 100000; texts of a length that a machine holds. -/
import Derived.Test.YtdnabghhjlhjoaaBatG
import Derived.Test.YtdnabghhjlhjoaaShelf
import Derived.Sort.KeysCollected
import Derived.Sort.OwnSorted
import Derived.Maps.OwnSet
import Derived.Maps.RangeWalk
import Derived.Carry
namespace Go.Proofs.Ytdnabghhjlhjoaa.Bat
open Go.RowKit Cmd Go.Maps Go.WideElems Go.ChangeMaps Go.Sort
set_option linter.unusedVariables false

/-! ### The map -/
theorem law_str : Keyed Try.prog 9 := string_keyed Try.underlying9
noncomputable abbrev boolElem : Value → Option (DataW Unit × List MemPlace) := plainElem (H := Unit) Try.prog 4
theorem bool_mk : boolElem (.bool true) = some (.lit (.bool true), []) := plainElem_bool Try.underlying4 true
set_option maxRecDepth 100000 in
theorem bool_inv {v : Value} {z : DataW Unit × List MemPlace} (h : boolElem v = some z) : ∃ x, v = .bool x := by
  unfold boolElem plainElem at h
  rw [Try.underlying4] at h
  cases v <;> simp at h
  exact ⟨_, rfl⟩
theorem key_str {s : Text} (h : s.length ≤ 140737488351232) : keyOf Try.prog 9 (.string (str s)) = some (.string s) := by
  have hs : (str s).size ≤ maxLen := by rw [str_size]; unfold maxLen; omega
  simp [keyOf, Try.underlying9, mapKey, hs]
  rfl
/-- The map has just these keys. -/
structure Told (D : DataW Unit) (ks : List Text) : Prop where
  has : ∀ k, Maps.has D k = true ↔ ∃ x ∈ ks, Lit.string x = k
  size : Maps.size D ≤ ks.length
theorem lit_key (s : Text) : WideAt.IsKeyLit (.string s) := trivial
theorem Told.nil : Told (.map []) [] := ⟨fun k => ⟨fun h => (by cases h), fun ⟨x, h, _⟩ => (by cases h)⟩, Nat.le_refl _⟩
theorem Told.put {D : DataW Unit} {ks : List Text} (h : Told D ks) (hT : Tidy D) (s : Text) : Told (D.put (.string s) (.lit (.bool true))) (ks ++ [s]) := by
  refine ⟨fun k => ?_, ?_⟩
  · by_cases e : k = .string s
    · subst e
      exact ⟨fun _ => ⟨s, by simp, rfl⟩, fun _ => has_put_same hT.isMap (lit_key s) _⟩
    · rw [has_put_other e, h.has]
      constructor
      · rintro ⟨y, hy, e2⟩; exact ⟨y, List.mem_append.2 (.inl hy), e2⟩
      · rintro ⟨y, hy, e2⟩
        rcases List.mem_append.1 hy with hy | hy
        · exact ⟨y, hy, e2⟩
        · rw [List.mem_singleton] at hy; subst hy; exact absurd e2.symm e
  · have := h.size
    rw [size_put hT, List.length_append]
    simp only [List.length_cons, List.length_nil]
    split <;> omega
def kuntil (zs : List Cmdn) (k : Nat) : List Text := keys (zs.take k)
theorem kuntil_succ {zs : List Cmdn} {k : Nat} (h : k < zs.length) {c : Int} {s : Text} {f : Nat} (hx : layC.at zs k = (c, s, f)) : kuntil zs (k + 1) = kuntil zs k ++ [s] := by
  unfold kuntil keys; rw [layC.take h, hx, List.map_append]; rfl
theorem kuntil_all (zs : List Cmdn) : kuntil zs zs.length = keys zs := by unfold kuntil; rw [List.take_length]
/-- Block b is a map that has just the keys of the first k commands. -/
def MapAt (w : World) (b : Nat) (ks : List Text) (n : Nat) : Prop := ∃ D : DataW Unit, w.ownsMap Try.prog 9 boolElem b n D ∧ Told D ks
theorem MapAt.lt {w : World} {b n : Nat} {ks : List Text} (h : MapAt w b ks n) : b < w.heap.size := by obtain ⟨D, h, _⟩ := h; exact h.lt

/-- Sorted they are the keys, each once. -/
theorem sorted_kset {ss ks : List Text} (hnd : ss.Nodup) (hm : ∀ x, x ∈ ss ↔ x ∈ ks) : ss.mergeSort leB = kset ks := by
  have tr : ∀ a b c : Text, leB a b = true → leB b c = true → leB a c = true := fun a b c h1 h2 => by simp only [leB, decide_eq_true_eq] at *; exact List.le_trans h1 h2
  have to : ∀ a b : Text, (leB a b || leB b a) = true := fun a b => by simp only [leB, Bool.or_eq_true, decide_eq_true_eq]; exact List.le_total a b
  refine rise_eq ?_ (kset_rise ks) fun x => ?_
  · have h1 := List.pairwise_mergeSort tr to ss
    have h2 : (ss.mergeSort leB).Nodup := (List.mergeSort_perm ss leB).symm.nodup hnd
    refine (h1.and h2).imp fun {a b} h => ?_
    have h3 : a ≤ b := of_decide_eq_true h.1
    rcases Decidable.em (a < b) with k | k
    · exact k
    · exact absurd (List.le_antisymm h3 k) h.2
  · rw [List.mem_mergeSort, kset_mem, hm]

/-! ### Gone over -/
abbrev Going (w : World) (m r n : Nat) (D : DataW Unit) (left : Lit → Bool) (cnt : Nat) : Prop := w.ranges Try.prog 9 boolElem m r n D left cnt
/-- What has been gathered while the map is gone over. -/
structure Coll (ks : List Text) (D : DataW Unit) (left : Lit → Bool) (cnt : Nat) (ss : List Text) : Prop where
  coll : Collected D left ss
  told : Told D ks
  len : ss.length + cnt ≤ ks.length
theorem Coll.start {ks : List Text} {D : DataW Unit} (t : Told D ks) : Coll ks D (Maps.has D) (Maps.size D) [] := ⟨Collected.start D, t, by have := t.size; simpa using this⟩
theorem Coll.done {ks : List Text} {D : DataW Unit} {left : Lit → Bool} {cnt : Nat} {ss : List Text} (h : Coll ks D left cnt ss) (hl : ∀ kl, left kl = false) : ss.mergeSort leB = kset ks := by
  refine sorted_kset h.coll.1 fun x => ?_
  rw [h.coll.2 x, hl, h.told.has]
  exact ⟨fun ⟨⟨y, hy, e⟩, _⟩ => by cases e; exact hy, fun hx => ⟨⟨x, hx, rfl⟩, rfl⟩⟩
/-- A round's step: nothing is left, or one of the keys has come. (Both goals are hidden, for the walk to stand.) -/
theorem wp_next_keys {w : World} {ops : Array Oper} {rest : List Oper} {o : Oper} {a : Act} {Q : Exit → Act → World → Prop} (hg : o.guard = none) (it : Operand) (hop : o.op = Op.next it false) (m r n : Nat) (D : DataW Unit) (ks ss : List Text) (left : Lit → Bool) (cnt : Nat)
    (hit : a.eval it = .pointer (some ⟨r, 0, none⟩)) (h : Going w m r n D left cnt) (hC : Coll ks D left cnt ss)
    (hDone : Hid ((∀ kl, left kl = false) → wpList Try.prog ops Q rest (a.put o.dst (.tuple #[.bool false])) w))
    (hMore : Hid (∀ (s : Text) (y : Value) (w' : World) (left' : Lit → Bool) (cnt' : Nat), s ∈ ks → Going w' m r n D left' cnt' → Coll ks D left' cnt' (ss ++ [s]) → cnt' < cnt → w.grownBy w' (some r) → w'.heap.size = w.heap.size →
      (Instr.entry (.pointer (some ⟨r, 0, none⟩))).run Try.prog w' = .ok (.tuple #[.string (str s), y]) w' → wpList Try.prog ops Q rest (a.put o.dst (.tuple #[.bool true, .string (str s), y])) w')) :
    wpList Try.prog ops Q (o :: rest) a w := by
  refine wpList_next_ranges w hg it hop 9 law_str boolElem (fun s : Text => .string (str s)) Value.bool (fun key kl hk => by obtain ⟨x, hx, _⟩ := Maps.keyOf_str Try.underlying9 hk; exact ⟨x, hx⟩) (fun v y hv => bool_inv hv) m r n D left cnt hit h (fun _ => hDone.out) ?_
  intro s c kl yv w' cnt' hkey hlk hv hat hrg hlt hgr hsz hen
  obtain ⟨x, e, rfl, _⟩ := Maps.keyOf_str Try.underlying9 hkey
  obtain rfl : s = x := encStr_inj e
  have hh := has_true_of_atKey hat
  obtain ⟨z, hz, e3⟩ := (hC.told.has _).1 hh
  cases e3
  exact hMore.out s (.bool c) w' _ cnt' hz hrg ⟨hC.coll.step hlk hat, hC.told, by have := hC.len; rw [List.length_append]; simp only [List.length_cons, List.length_nil]; omega⟩ hlt hgr hsz hen

/-! ### Sorted by the library -/
def SortsIt (base : Nat) (v : Value) (ss : List Text) (w : World) (e : Ending) (w' : World) : Prop := e = .returned (.tuple #[]) ∧ OwnS w' base v (ss.mergeSort leB) ∧ w.grownBy w' v.ownBlock
theorem clone_any (s : Text) (w : World) (h : s.length ≤ 140737488351232) : Calls Try.prog 49 #[.string (str s)] w (RetBelow (.string (str s)) w) := by
  have HC := Lib.hid (Try.stringslite_Clone (str s) w (by rw [str_size]; omega))
  clear h
  go_enter Try.func49, Try.ntmps49
  go_wp2_with (go_at_call 53; (with_reducible refine HC.out.mono ?_); rintro e w1 ⟨rfl, hb⟩; have HB := Lib.hid hb; clear hb)
  go_ret
  exact ⟨rfl, HB.out⟩

theorem own_low {w : World} {base : Nat} {e : TypeId} {size : Nat} {v : Value} {n : Nat} {xs : List Value} (h : w.ownsRow base e size v n xs) {r : Nat} (hr : r < base) : some r ≠ v.ownBlock := fun e1 => by
  have := (World.ownsRow.lt h r e1.symm).1
  omega

end Go.Proofs.Ytdnabghhjlhjoaa.Bat
