/- Keys in order, each once: plain facts; and what the document's Keys gives (layer 7, batch). Conditions: the list lies in memory as its cells say, and is not longer than 100000. -/
import Derived.Test.YtomidcbpnaajeaaGreatBatF
import Derived.Sort.Walk0
namespace Go.Proofs.YtomidcbpnaajeaaGreat.Bat
open Go.RowKit Cmd
set_option linter.unusedVariables false

/-! ### Texts in order -/
abbrev Text := List UInt8
def lts (x y : Text) : Bool := decide (x < y)
abbrev Rise (l : List Text) : Prop := l.Pairwise fun x y => x < y
theorem tlt_irr (x : Text) : ¬ x < x := List.lt_irrefl x
theorem tlt_tr {x y z : Text} (h : x < y) (k : y < z) : x < z := List.lt_trans h k
theorem tlt_tot {x y : Text} (h : ¬ x < y) (hn : x ≠ y) : y < x := by
  rcases Decidable.em (y < x) with k | k
  · exact k
  · exact absurd (List.le_antisymm k h) hn
def insS (x : Text) : List Text → List Text
  | [] => [x]
  | y :: t => if lts x y = true then x :: y :: t else y :: insS x t
def putS (l : List Text) (x : Text) : List Text := if x ∈ l then l else insS x l
def kset (ks : List Text) : List Text := ks.foldl putS []
theorem insS_mem (x : Text) : ∀ (l : List Text) (z : Text), z ∈ insS x l ↔ z = x ∨ z ∈ l
  | [], z => by simp [insS]
  | y :: t, z => by
    unfold insS
    split
    · simp
    · rw [List.mem_cons, insS_mem x t z, List.mem_cons]
      exact ⟨fun h => by rcases h with h | h | h <;> simp [h], fun h => by rcases h with h | h | h <;> simp [h]⟩
theorem insS_len (x : Text) : ∀ l : List Text, (insS x l).length = l.length + 1
  | [] => rfl
  | y :: t => by
    unfold insS
    split
    · rfl
    · rw [List.length_cons, insS_len x t, List.length_cons]
theorem insS_rise (x : Text) : ∀ {l : List Text}, Rise l → x ∉ l → Rise (insS x l)
  | [], _, _ => by simp [insS, Rise]
  | y :: t, h, hx => by
    obtain ⟨h1, h2⟩ := List.pairwise_cons.1 h
    rw [List.mem_cons, not_or] at hx
    unfold insS
    split
    · rename_i hlt
      have hlt : x < y := of_decide_eq_true hlt
      refine List.Pairwise.cons (fun z hz => ?_) h
      rcases List.mem_cons.1 hz with rfl | hz
      · exact hlt
      · exact tlt_tr hlt (h1 z hz)
    · rename_i hlt
      have hlt : ¬ x < y := fun e => hlt (decide_eq_true e)
      refine List.Pairwise.cons (fun z hz => ?_) (insS_rise x h2 hx.2)
      rcases (insS_mem x t z).1 hz with rfl | hz
      · exact tlt_tot hlt hx.1
      · exact h1 z hz
theorem putS_mem (l : List Text) (x z : Text) : z ∈ putS l x ↔ z = x ∨ z ∈ l := by
  unfold putS
  split
  · rename_i hm
    exact ⟨.inr, fun h => by rcases h with rfl | h; exact hm; exact h⟩
  · exact insS_mem x l z
theorem putS_rise {l : List Text} (h : Rise l) (x : Text) : Rise (putS l x) := by
  unfold putS
  split
  · exact h
  · rename_i hm; exact insS_rise x h hm
theorem putS_len (l : List Text) (x : Text) : (putS l x).length ≤ l.length + 1 := by
  unfold putS
  split
  · omega
  · rw [insS_len]; omega
theorem kset_snoc (ks : List Text) (x : Text) : kset (ks ++ [x]) = putS (kset ks) x := by unfold kset; rw [List.foldl_append]; rfl
theorem fold_mem : ∀ (ks l : List Text) (z : Text), z ∈ ks.foldl putS l ↔ z ∈ l ∨ z ∈ ks
  | [], l, z => by simp
  | k :: t, l, z => by
    rw [List.foldl_cons, fold_mem t (putS l k) z, putS_mem, List.mem_cons]
    exact ⟨fun h => by rcases h with (h | h) | h <;> simp [h], fun h => by rcases h with h | h | h <;> simp [h]⟩
theorem fold_rise : ∀ (ks : List Text) {l : List Text}, Rise l → Rise (ks.foldl putS l)
  | [], _, h => h
  | k :: t, _, h => fold_rise t (putS_rise h k)
theorem fold_len : ∀ (ks l : List Text), (ks.foldl putS l).length ≤ l.length + ks.length
  | [], l => Nat.le_refl _
  | k :: t, l => by
    have h1 := fold_len t (putS l k)
    have h2 := putS_len l k
    rw [List.foldl_cons, List.length_cons]; omega
theorem kset_mem (ks : List Text) (z : Text) : z ∈ kset ks ↔ z ∈ ks := by unfold kset; rw [fold_mem]; simp
theorem kset_rise (ks : List Text) : Rise (kset ks) := fold_rise ks .nil
theorem kset_len (ks : List Text) : (kset ks).length ≤ ks.length := by have := fold_len ks []; unfold kset; simpa using this
/-- Two lists that rise and have the same are one. -/
theorem rise_eq : ∀ {a b : List Text}, Rise a → Rise b → (∀ x, x ∈ a ↔ x ∈ b) → a = b
  | [], [], _, _, _ => rfl
  | [], y :: b, _, _, h => by have := (h y).2 (by simp); cases this
  | x :: a, [], _, _, h => by have := (h x).1 (by simp); cases this
  | x :: a, y :: b, ha, hb, h => by
    obtain ⟨a1, a2⟩ := List.pairwise_cons.1 ha
    obtain ⟨b1, b2⟩ := List.pairwise_cons.1 hb
    have e : x = y := by
      rcases List.mem_cons.1 ((h x).1 (by simp)) with e | hx
      · exact e
      · rcases List.mem_cons.1 ((h y).2 (by simp)) with e | hy
        · exact e.symm
        · exact absurd (tlt_tr (a1 y hy) (b1 x hx)) (tlt_irr x)
    subst e
    refine congrArg _ (rise_eq a2 b2 fun z => ⟨fun hz => ?_, fun hz => ?_⟩)
    · rcases List.mem_cons.1 ((h z).1 (List.mem_cons_of_mem _ hz)) with e | hz2
      · subst e; exact absurd (a1 z hz) (tlt_irr z)
      · exact hz2
    · rcases List.mem_cons.1 ((h z).2 (List.mem_cons_of_mem _ hz)) with e | hz2
      · subst e; exact absurd (b1 z hz) (tlt_irr z)
      · exact hz2
theorem less_run (s x : Text) : Op.bytesLess (str s).toList (str x).toList = lts s x := by rw [bytesLess_eq, str, str, ByteArray.toList_mk, ByteArray.toList_mk]; rfl

/-- The invariant of the inner loop of the document's Keys. -/
def PutAt (x : Text) (zs out : List Text) (k : Nat) (d : Bool) : Prop := insS x zs = out ++ (if d then zs.drop k else insS x (zs.drop k)) ∧ out.length = k + d.toNat
theorem PutAt.start (x : Text) (zs : List Text) : PutAt x zs [] 0 false := ⟨rfl, rfl⟩
theorem PutAt.past {x : Text} {zs out : List Text} {k : Nat} (h : PutAt x zs out k true) (hk : k < zs.length) : PutAt x zs (out ++ [layS.at zs k]) (k + 1) true := by
  refine ⟨?_, by rw [List.length_append, h.2]; show k + 1 + 1 = k + 1 + 1; rfl⟩
  rw [h.1, if_pos rfl, if_pos rfl, layS.drop hk]; simp
theorem PutAt.go {x : Text} {zs out : List Text} {k : Nat} (h : PutAt x zs out k false) (hk : k < zs.length) (hx : lts x (layS.at zs k) = false) : PutAt x zs (out ++ [layS.at zs k]) (k + 1) false := by
  refine ⟨?_, by rw [List.length_append, h.2]; simp⟩
  rw [h.1, layS.drop hk]
  simp [insS, hx]
theorem PutAt.hit {x : Text} {zs out : List Text} {k : Nat} (h : PutAt x zs out k false) (hk : k < zs.length) (hx : lts x (layS.at zs k) = true) : PutAt x zs (out ++ [x] ++ [layS.at zs k]) (k + 1) true := by
  refine ⟨?_, by rw [List.length_append, List.length_append, h.2]; simp⟩
  rw [h.1, layS.drop hk]
  simp [insS, hx]
theorem PutAt.endT {x : Text} {zs out : List Text} (h : PutAt x zs out zs.length true) : insS x zs = out := by
  have := h.1
  simpa using this
theorem PutAt.endF {x : Text} {zs out : List Text} (h : PutAt x zs out zs.length false) : insS x zs = out ++ [x] := by
  have := h.1
  simpa [insS] using this

/-! ### The document's Keys -/
def ktake (zs : List Cmdn) (k : Nat) : List Text := kset (keys (zs.take k))
theorem ktake_zero (zs : List Cmdn) : ktake zs 0 = [] := rfl
theorem ktake_succ {zs : List Cmdn} {k : Nat} (h : k < zs.length) {c : Int} {s : Text} {f : Nat} (hx : layC.at zs k = (c, s, f)) : ktake zs (k + 1) = putS (ktake zs k) s := by
  unfold ktake keys
  rw [layC.take h, hx, List.map_append]
  exact kset_snoc _ _
theorem ktake_len (zs : List Cmdn) (k : Nat) : (ktake zs k).length ≤ k := by
  have h1 := kset_len (keys (zs.take k))
  unfold keys at h1
  rw [List.length_map, List.length_take] at h1
  unfold ktake keys
  omega
theorem ktake_all (zs : List Cmdn) : ktake zs zs.length = kset (keys zs) := by unfold ktake; rw [List.take_length]

theorem grow_own {wq wr w1 : World} {o : Value} {out : List Text} (h : Below wq.heap.size wq wr) (ho : OwnS wr wq.heap.size o out) (b : Obj) (hg : (wr.alloc b).grownBy w1 o.ownBlock) : Below wq.heap.size wq w1 :=
  below_grown (h.alloc h.size _) (Nat.le_refl _) (World.ownsRow.alloc ho _) (by have := h.size; simp; omega) hg

end Go.Proofs.YtomidcbpnaajeaaGreat.Bat
