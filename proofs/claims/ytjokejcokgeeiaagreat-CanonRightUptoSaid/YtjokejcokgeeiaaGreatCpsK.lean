/- Plain: a going over a graph along its edges, then over the same back along them, in the turned order in which ids were gone the first time: its trees are the components; put in order, they are all that Of has to give (layer 17, comps). No condition but those in each statement. -/
import Derived.Test.YtjokejcokgeeiaaGreatCpsW
import Derived.Test.YtjokejcokgeeiaaGreatReaI
namespace Go.Proofs.YtjokejcokgeeiaaGreat.Cps
open Go.RowKit Cmd Bat Ids Rec Wid Gra Rea
set_option linter.unusedVariables false
set_option linter.unusedSimpArgs false

theorem rchK {s : Idn → List Idn} {x y z : Idn} (h : RchS s x y) (k : RchS s y z) : RchS s x z := by
  induction k with
  | here => exact h
  | more _ hd ih => exact .more ih hd
theorem rchK_iff {rs : List Rcd} {a z : Idn} : RchS (dpG rs) a z ↔ Rch rs a z := by
  constructor
  · intro h
    induction h with
    | here => exact .here _
    | more _ hd ih => exact .more ih hd
  · intro h
    induction h with
    | here => exact .here _
    | more _ hd ih => exact .more ih hd
/-! ### One tree -/
/-- What stands between two steps of a tree's going: what is left, the way, what is gone. -/
inductive Came (nx : Idn → List Idn) (L0 : List Idn) (r : Idn) : List Idn → List (Idn × List Idn) → List Idn → Prop
  | start : r ∈ L0 → Came nx L0 r (del L0 r) [(r, nx r)] []
  | pop {L : List Idn} {ws : List (Idn × List Idn)} {x : Idn} {gone : List Idn} : Came nx L0 r L (ws ++ [(x, [])]) gone → Came nx L0 r L ws (gone ++ [x])
  | skip {L : List Idn} {ws : List (Idn × List Idn)} {x y : Idn} {os gone : List Idn} : Came nx L0 r L (ws ++ [(x, y :: os)]) gone → y ∉ L → Came nx L0 r L (ws ++ [(x, os)]) gone
  | push {L : List Idn} {ws : List (Idn × List Idn)} {x y : Idn} {os gone : List Idn} : Came nx L0 r L (ws ++ [(x, y :: os)]) gone → y ∈ L → Came nx L0 r (del L y) ((ws ++ [(x, os)]) ++ [(y, nx y)]) gone
abbrev tops (ws : List (Idn × List Idn)) : List Idn := ws.map Prod.fst
/-- What holds of all that has been gone over, pre behind it, V in all. -/
structure Gng (nx : Idn → List Idn) (V pre L : List Idn) (ws : List (Idn × List Idn)) (gone : List Idn) : Prop where
  part : ∀ z, z ∈ V ↔ z ∈ L ∨ z ∈ tops ws ∨ z ∈ pre ++ gone
  free : ∀ z ∈ L, z ∉ tops ws ∧ z ∉ pre ++ gone
  off : ∀ z ∈ tops ws, z ∉ pre ++ gone
  chain : (tops ws).Pairwise fun a b => a ≠ b ∧ RchS nx a b
  nd : (pre ++ gone).Nodup
  sub : ∀ w ∈ ws, ∀ y ∈ w.2, y ∈ nx w.1
  seen : ∀ w ∈ ws, ∀ y ∈ nx w.1, y ∈ w.2 ∨ y ∉ L
  dead : ∀ x ∈ pre ++ gone, ∀ y ∈ nx x, y ∉ L
  q1 : ∀ A x B y C, pre ++ gone = A ++ x :: (B ++ y :: C) → y ∈ nx x → ∀ z ∈ x :: B, RchS nx y z
  q2 : ∀ A x B, pre ++ gone = A ++ x :: B → ∀ y ∈ tops ws, y ∈ nx x → ∀ z ∈ x :: B, RchS nx y z
theorem snoc_split {α : Type} {l A C : List α} {x y : α} (h : l ++ [x] = A ++ y :: C) : (C = [] ∧ l = A ∧ x = y) ∨ ∃ C', C = C' ++ [x] ∧ l = A ++ y :: C' := by
  rcases List.eq_nil_or_concat C with rfl | ⟨C', c, rfl⟩
  · obtain ⟨h1, h2⟩ := List.append_inj' h rfl
    injection h2 with h2
    exact .inl ⟨rfl, h1, h2⟩
  · have h' : l ++ [x] = (A ++ y :: C') ++ [c] := by rw [h]; simp
    obtain ⟨h1, h2⟩ := List.append_inj' h' rfl
    injection h2 with h2
    exact .inr ⟨C', by simp [h2], h1⟩
theorem tops_snoc (ws : List (Idn × List Idn)) (w : Idn × List Idn) : tops (ws ++ [w]) = tops ws ++ [w.1] := by simp [tops]
section
variable {nx : Idn → List Idn} {V pre L : List Idn} {ws : List (Idn × List Idn)} {gone : List Idn} {x y : Idn} {os : List Idn}
theorem Gng.pop (h : Gng nx V pre L (ws ++ [(x, [])]) gone) : Gng nx V pre L ws (gone ++ [x]) := by
  have e : pre ++ (gone ++ [x]) = (pre ++ gone) ++ [x] := by simp
  have ht : tops (ws ++ [(x, [])]) = tops ws ++ [x] := tops_snoc _ _
  have hx : x ∈ tops (ws ++ [(x, [])]) := by rw [ht]; simp
  have hin : ∀ {z}, z ∈ tops ws → z ∈ tops (ws ++ [(x, [])]) := fun hz => by rw [ht]; exact List.mem_append_left _ hz
  have hch := h.chain
  rw [ht, List.pairwise_append] at hch
  have hr : ∀ z ∈ tops ws, z ≠ x ∧ RchS nx z x := fun z hz => hch.2.2 z hz x (List.mem_singleton.2 rfl)
  refine ⟨fun z => ?_, fun z hz => ?_, fun z hz => ?_, hch.1, ?_, fun w hw => h.sub w (List.mem_append_left _ hw), fun w hw => h.seen w (List.mem_append_left _ hw), fun u hu => ?_, ?_, ?_⟩
  · rw [h.part z, ht, e, List.mem_append (s := tops ws), List.mem_append (s := pre ++ gone), List.mem_singleton]
    constructor
    · rintro (h | (h | h) | h)
      · exact .inl h
      · exact .inr (.inl h)
      · exact .inr (.inr (.inr h))
      · exact .inr (.inr (.inl h))
    · rintro (h | h | h | h)
      · exact .inl h
      · exact .inr (.inl (.inl h))
      · exact .inr (.inr h)
      · exact .inr (.inl (.inr h))
  · obtain ⟨h1, h2⟩ := h.free z hz
    refine ⟨fun hm => h1 (hin hm), fun hm => ?_⟩
    rw [e, List.mem_append, List.mem_singleton] at hm
    rcases hm with hm | rfl
    · exact h2 hm
    · exact h1 hx
  · rw [e, List.mem_append, List.mem_singleton]
    rintro (hm | rfl)
    · exact h.off z (hin hz) hm
    · exact (hr z hz).1 rfl
  · rw [e, List.nodup_append]
    exact ⟨h.nd, by simp, fun a ha b hb he => by rw [List.mem_singleton] at hb; subst hb; subst he; exact h.off a hx ha⟩
  · rw [e, List.mem_append, List.mem_singleton] at hu
    rcases hu with hu | rfl
    · exact h.dead u hu
    · intro y hy
      exact (h.seen (u, []) (by simp) y hy).resolve_left (by simp)
  · intro A u B y C he hy z hz
    rw [e, show A ++ u :: (B ++ y :: C) = (A ++ u :: B) ++ y :: C by simp] at he
    rcases snoc_split he with ⟨rfl, h1, rfl⟩ | ⟨C', rfl, h1⟩
    · exact h.q2 A u B h1 x hx hy z hz
    · exact h.q1 A u B y C' (by rw [h1]; simp) hy z hz
  · intro A u B he y hy hyu z hz
    rw [e] at he
    rcases snoc_split he with ⟨rfl, h1, rfl⟩ | ⟨B', rfl, h1⟩
    · rw [List.mem_singleton] at hz; subst hz; exact (hr y hy).2
    · rcases List.mem_cons.1 hz with rfl | hz
      · exact h.q2 A z B' h1 y (hin hy) hyu z List.mem_cons_self
      · rcases List.mem_append.1 hz with hz | hz
        · exact h.q2 A u B' h1 y (hin hy) hyu z (List.mem_cons_of_mem _ hz)
        · rw [List.mem_singleton] at hz; subst hz; exact (hr y hy).2
theorem Gng.skip (h : Gng nx V pre L (ws ++ [(x, y :: os)]) gone) (hy : y ∉ L) : Gng nx V pre L (ws ++ [(x, os)]) gone := by
  have ht : tops (ws ++ [(x, os)]) = tops (ws ++ [(x, y :: os)]) := by rw [tops_snoc, tops_snoc]
  refine ⟨fun z => by rw [ht]; exact h.part z, fun z hz => by rw [ht]; exact h.free z hz, fun z hz => h.off z (by rw [← ht]; exact hz), by rw [ht]; exact h.chain, h.nd, fun w hw => ?_, fun w hw => ?_, h.dead, h.q1, fun A u B he v hv => h.q2 A u B he v (by rw [← ht]; exact hv)⟩
  · rcases List.mem_append.1 hw with hw | hw
    · exact h.sub w (List.mem_append_left _ hw)
    · rw [List.mem_singleton] at hw; subst hw
      exact fun v hv => h.sub (x, y :: os) (by simp) v (List.mem_cons_of_mem _ hv)
  · rcases List.mem_append.1 hw with hw | hw
    · exact h.seen w (List.mem_append_left _ hw)
    · rw [List.mem_singleton] at hw; subst hw
      intro v hv
      rcases h.seen (x, y :: os) (by simp) v hv with h1 | h1
      · rcases List.mem_cons.1 h1 with rfl | h1
        · exact .inr hy
        · exact .inl h1
      · exact .inr h1
theorem Gng.push (h : Gng nx V pre L (ws ++ [(x, y :: os)]) gone) (hy : y ∈ L) : Gng nx V pre (del L y) ((ws ++ [(x, os)]) ++ [(y, nx y)]) gone := by
  have ht : tops (ws ++ [(x, os)] ++ [(y, nx y)]) = tops (ws ++ [(x, y :: os)]) ++ [y] := by rw [tops_snoc, tops_snoc, tops_snoc]
  have hyx : y ∈ nx x := h.sub (x, y :: os) (by simp) y List.mem_cons_self
  have hch := h.chain
  refine ⟨fun z => ?_, fun z hz => ?_, fun z hz => ?_, ?_, h.nd, fun w hw => ?_, fun w hw => ?_, fun u hu v hv hm => h.dead u hu v hv ((del_mem _ _ _).1 hm).1, h.q1, fun A u B he v hv => ?_⟩
  · rw [h.part z, ht, del_mem, List.mem_append (t := [y]), List.mem_singleton]
    constructor
    · rintro (h1 | h1 | h1)
      · by_cases e : z = y
        · exact .inr (.inl (.inr e))
        · exact .inl ⟨h1, e⟩
      · exact .inr (.inl (.inl h1))
      · exact .inr (.inr h1)
    · rintro (h1 | (h1 | h1) | h1)
      · exact .inl h1.1
      · exact .inr (.inl h1)
      · exact .inl (h1 ▸ hy)
      · exact .inr (.inr h1)
  · obtain ⟨h1, h2⟩ := (del_mem _ _ _).1 hz
    obtain ⟨h3, h4⟩ := h.free z h1
    refine ⟨fun hm => ?_, h4⟩
    rw [ht, List.mem_append, List.mem_singleton] at hm
    exact hm.elim h3 h2
  · rw [ht, List.mem_append, List.mem_singleton] at hz
    rcases hz with hz | rfl
    · exact h.off z hz
    · exact (h.free z hy).2
  · rw [ht, List.pairwise_append]
    refine ⟨hch, List.pairwise_singleton _ _, fun a ha b hb => ?_⟩
    rw [List.mem_singleton] at hb; subst hb
    refine ⟨fun e => (h.free b hy).1 (e ▸ ha), ?_⟩
    rw [tops_snoc, List.mem_append, List.mem_singleton] at ha
    rw [tops_snoc, List.pairwise_append] at hch
    rcases ha with ha | rfl
    · exact .more (hch.2.2 a ha x (List.mem_singleton.2 rfl)).2 hyx
    · exact .more (.here _) hyx
  · rcases List.mem_append.1 hw with hw | hw
    · rcases List.mem_append.1 hw with hw | hw
      · exact h.sub w (List.mem_append_left _ hw)
      · rw [List.mem_singleton] at hw; subst hw
        exact fun v hv => h.sub (x, y :: os) (by simp) v (List.mem_cons_of_mem _ hv)
    · rw [List.mem_singleton] at hw; subst hw
      exact fun v hv => hv
  · rcases List.mem_append.1 hw with hw | hw
    · rcases List.mem_append.1 hw with hw | hw
      · exact fun v hv => (h.seen w (List.mem_append_left _ hw) v hv).imp id fun hn hm => hn ((del_mem _ _ _).1 hm).1
      · rw [List.mem_singleton] at hw; subst hw
        intro v hv
        rcases h.seen (x, y :: os) (by simp) v hv with h1 | h1
        · rcases List.mem_cons.1 h1 with rfl | h1
          · exact .inr fun hm => ((del_mem _ _ _).1 hm).2 rfl
          · exact .inl h1
        · exact .inr fun hm => h1 ((del_mem _ _ _).1 hm).1
    · rw [List.mem_singleton] at hw; subst hw
      exact fun v hv => .inl hv
  · rw [ht, List.mem_append, List.mem_singleton] at hv
    rcases hv with hv | rfl
    · exact h.q2 A u B he v hv
    · intro hvu
      exact absurd hy (h.dead u (by rw [he]; simp) v hvu)
theorem Gng.begin {L0 : List Idn} {r : Idn} (h : Gng nx V pre L0 [] []) (hr : r ∈ L0) : Gng nx V pre (del L0 r) [(r, nx r)] [] := by
  refine ⟨fun z => ?_, fun z hz => ?_, fun z hz => ?_, by simp [tops], h.nd, fun w hw => ?_, fun w hw => ?_, fun u hu v hv hm => h.dead u hu v hv ((del_mem _ _ _).1 hm).1, h.q1, fun A u B he v hv hvu => ?_⟩
  · rw [h.part z, del_mem]
    show z ∈ L0 ∨ z ∈ [] ∨ _ ↔ _ ∨ z ∈ [r] ∨ _
    rw [List.mem_singleton]
    constructor
    · rintro (h1 | h1 | h1)
      · by_cases e : z = r
        · exact .inr (.inl e)
        · exact .inl ⟨h1, e⟩
      · cases h1
      · exact .inr (.inr h1)
    · rintro (h1 | h1 | h1)
      · exact .inl h1.1
      · exact .inl (h1 ▸ hr)
      · exact .inr (.inr h1)
  · obtain ⟨h1, h2⟩ := (del_mem _ _ _).1 hz
    exact ⟨fun hm => h2 (List.mem_singleton.1 hm), (h.free z h1).2⟩
  · rw [List.mem_singleton.1 (show z ∈ [r] from hz)]; exact (h.free r hr).2
  · rw [List.mem_singleton] at hw; subst hw; exact fun v hv => hv
  · rw [List.mem_singleton] at hw; subst hw; exact fun v hv => .inl hv
  · rw [List.mem_singleton.1 (show v ∈ [r] from hv)] at hvu
    exact absurd hr (h.dead u (by rw [he]; simp) r hvu)
theorem Came.going {L0 : List Idn} {r : Idn} (hc : Came nx L0 r L ws gone) (h : Gng nx V pre L0 [] []) : Gng nx V pre L ws gone := by
  induction hc with
  | start hr => exact h.begin hr
  | pop _ ih => exact ih.pop
  | skip _ hy ih => exact ih.skip hy
  | push _ hy ih => exact ih.push hy
theorem Gng.end_ (h : Gng nx V pre L [] gone) : Gng nx V (pre ++ gone) L [] [] := by
  have e : pre ++ gone ++ [] = pre ++ gone := List.append_nil _
  exact ⟨fun z => by rw [e]; exact h.part z, fun z hz => by rw [e]; exact h.free z hz, fun z hz => (by cases hz), List.Pairwise.nil, by rw [e]; exact h.nd, fun w hw => (by cases hw), fun w hw => (by cases hw), by rw [e]; exact h.dead, by rw [e]; exact h.q1, fun _ _ _ _ _ hv => (by cases hv)⟩
theorem Gng.zero {V : List Idn} : Gng nx V [] V [] [] :=
  ⟨fun z => by simp, fun z hz => ⟨by simp, by simp⟩, fun z hz => (by cases hz), List.Pairwise.nil, List.nodup_nil, fun w hw => (by cases hw), fun w hw => (by cases hw), fun u hu => (by cases hu), fun A u B y C he => (by simp at he), fun _ _ _ _ _ hv => (by cases hv)⟩
/-- What holds of the first one, and goes along the edges to what is left, holds of all that is gone. -/
structure Alls (nx : Idn → List Idn) (P : Idn → Prop) (L0 : List Idn) (r : Idn) (L : List Idn) (ws : List (Idn × List Idn)) (gone : List Idn) : Prop where
  sub : ∀ w ∈ ws, ∀ y ∈ w.2, y ∈ nx w.1
  low : ∀ z ∈ L, z ∈ L0
  tops : ∀ z ∈ tops ws, P z
  gone : ∀ z ∈ gone, P z
theorem Came.alls {L0 : List Idn} {r : Idn} (hc : Came nx L0 r L ws gone) {P : Idn → Prop} (hr : P r) (hs : ∀ x y, P x → y ∈ nx x → y ∈ L0 → P y) : Alls nx P L0 r L ws gone := by
  induction hc with
  | start h => exact ⟨fun w hw => by rw [List.mem_singleton] at hw; subst hw; exact fun v hv => hv, fun z hz => ((del_mem _ _ _).1 hz).1, fun z hz => by rw [List.mem_singleton.1 (show z ∈ [r] from hz)]; exact hr, fun z hz => (by cases hz)⟩
  | pop _ ih =>
    refine ⟨fun w hw => ih.sub w (List.mem_append_left _ hw), ih.low, fun z hz => ih.tops z (by rw [tops_snoc]; exact List.mem_append_left _ hz), fun z hz => ?_⟩
    rcases List.mem_append.1 hz with hz | hz
    · exact ih.gone z hz
    · rw [List.mem_singleton] at hz; subst hz; exact ih.tops z (by rw [tops_snoc]; simp)
  | @skip L ws x y os gone _ hy ih =>
    refine ⟨fun w hw => ?_, ih.low, fun z hz => ih.tops z (by rw [tops_snoc] at hz ⊢; exact hz), ih.gone⟩
    rcases List.mem_append.1 hw with hw | hw
    · exact ih.sub w (List.mem_append_left _ hw)
    · rw [List.mem_singleton] at hw; subst hw
      exact fun v hv => ih.sub (x, y :: os) (by simp) v (List.mem_cons_of_mem _ hv)
  | @push L ws x y os gone _ hy ih =>
    refine ⟨fun w hw => ?_, fun z hz => ih.low z ((del_mem _ _ _).1 hz).1, fun z hz => ?_, ih.gone⟩
    · rcases List.mem_append.1 hw with hw | hw
      · rcases List.mem_append.1 hw with hw | hw
        · exact ih.sub w (List.mem_append_left _ hw)
        · rw [List.mem_singleton] at hw; subst hw
          exact fun v hv => ih.sub (x, y :: os) (by simp) v (List.mem_cons_of_mem _ hv)
      · rw [List.mem_singleton] at hw; subst hw; exact fun v hv => hv
    · rw [tops_snoc, tops_snoc, List.mem_append, List.mem_singleton] at hz
      rcases hz with hz | rfl
      · exact ih.tops z (by rw [tops_snoc]; exact hz)
      · exact hs x z (ih.tops x (by rw [tops_snoc]; simp)) (ih.sub (x, z :: os) (by simp) z List.mem_cons_self) (ih.low z hy)
theorem Came.root {L0 : List Idn} {r : Idn} (hc : Came nx L0 r L ws gone) : r ∈ L0 ∧ (r ∈ tops ws ∨ r ∈ gone) := by
  induction hc with
  | start h => exact ⟨h, .inl (by simp [tops])⟩
  | pop _ ih =>
    refine ⟨ih.1, ?_⟩
    rw [tops_snoc, List.mem_append, List.mem_singleton] at ih
    rcases ih.2 with (h | h) | h
    · exact .inl h
    · exact .inr (by rw [h]; simp)
    · exact .inr (List.mem_append_left _ h)
  | skip _ _ ih => rw [tops_snoc] at ih ⊢; exact ih
  | push _ _ ih =>
    rw [tops_snoc] at ih
    rw [tops_snoc, tops_snoc]
    exact ⟨ih.1, ih.2.imp (List.mem_append_left _) id⟩
end
/-! ### All trees -/
/-- The trees of the first ones of a list. -/
inductive Trees (nx : Idn → List Idn) (V : List Idn) : List Idn → List Idn → List (List Idn) → Prop
  | start : Trees nx V [] V []
  | none {l L : List Idn} {all : List (List Idn)} {x : Idn} : Trees nx V l L all → x ∉ L → Trees nx V (l ++ [x]) L all
  | tree {l L L' : List Idn} {all : List (List Idn)} {x : Idn} {gone : List Idn} : Trees nx V l L all → Came nx L x L' [] gone → Trees nx V (l ++ [x]) L' (all ++ [gone])
section
variable {nx : Idn → List Idn} {V l L : List Idn} {all : List (List Idn)}
theorem Trees.going (h : Trees nx V l L all) : Gng nx V all.flatten L [] [] := by
  induction h with
  | start => exact Gng.zero
  | none _ _ ih => exact ih
  | tree _ hc ih =>
    rw [List.flatten_append, List.flatten_singleton]
    exact (hc.going ih).end_
theorem Trees.out (h : Trees nx V l L all) : ∀ z ∈ l, z ∉ L := by
  induction h with
  | start => exact fun z hz => (by cases hz)
  | none _ hx ih =>
    intro z hz
    rcases List.mem_append.1 hz with hz | hz
    · exact ih z hz
    · rw [List.mem_singleton.1 hz]; exact hx
  | @tree l L L' all x gone ht hc ih =>
    intro z hz hm
    have hg := hc.going ht.going
    rcases List.mem_append.1 hz with hz | hz
    · have hl := (hc.alls (P := fun _ => True) trivial (fun _ _ _ _ _ => trivial)).low z hm
      exact ih z hz hl
    · rw [List.mem_singleton.1 hz] at hm
      obtain ⟨-, h1⟩ := hc.root
      rcases h1 with h1 | h1
      · cases h1
      · exact (hg.free x hm).2 (List.mem_append_right _ h1)
/-- The order in which ids were gone. -/
structure Order (nx : Idn → List Idn) (V O : List Idn) : Prop where
  nd : O.Nodup
  mem : ∀ z, z ∈ O ↔ z ∈ V
  q : ∀ A x B y C, O = A ++ x :: (B ++ y :: C) → y ∈ nx x → ∀ z ∈ x :: B, RchS nx y z
theorem Trees.order (h : Trees nx V V L all) : Order nx V all.flatten := by
  have hg := h.going
  have hL : ∀ z, z ∉ L := fun z hz => h.out z ((hg.part z).2 (.inl hz)) hz
  have e : all.flatten ++ [] = all.flatten := List.append_nil _
  refine ⟨by have := hg.nd; rw [e] at this; exact this, fun z => ?_, by have := hg.q1; rw [e] at this; exact this⟩
  rw [hg.part z, e]
  exact ⟨fun h => .inr (.inr h), fun h => h.resolve_left (hL z) |>.resolve_left (by simp)⟩
end
/-- What leads from the first ones to a later one, leads to what stands between. -/
theorem Order.cross {nx : Idn → List Idn} {V O : List Idn} (h : Order nx V O) (hV : ∀ x ∈ V, ∀ y ∈ nx x, y ∈ V) {A B : List Idn} {m : Idn} (e : O = A ++ m :: B) {x z : Idn} (hx : x ∈ A) (hr : RchS nx x z) : z ∈ V ∧ (z ∈ m :: B → RchS nx x m) := by
  induction hr with
  | here =>
    refine ⟨(h.mem x).1 (by rw [e]; exact List.mem_append_left _ hx), fun hz => ?_⟩
    have hn := h.nd
    rw [e, List.nodup_append] at hn
    exact absurd rfl (hn.2.2 x hx x hz)
  | @more y z hxy hz ih =>
    refine ⟨hV y ih.1 z hz, fun hzb => ?_⟩
    by_cases hy : y ∈ m :: B
    · exact ih.2 hy
    · have hyO := (h.mem y).2 ih.1
      rw [e] at hyO
      have hyA := (List.mem_append.1 hyO).resolve_right hy
      obtain ⟨A1, A2, rfl⟩ := List.append_of_mem hyA
      rcases List.mem_cons.1 hzb with rfl | hzB
      · exact .more hxy hz
      · obtain ⟨B1, B2, rfl⟩ := List.append_of_mem hzB
        exact rchK (.more hxy hz) (h.q A1 y (A2 ++ m :: B1) z B2 (by rw [e]; simp) hz m (by simp))
/-- What leads to what leads to the last one, which leads to it too, is led to by the last one. -/
theorem Order.back {nx : Idn → List Idn} {V O : List Idn} (h : Order nx V O) (hV : ∀ x ∈ V, ∀ y ∈ nx x, y ∈ V) {A B : List Idn} {r : Idn} (e : O = A ++ r :: B) {x y : Idn} (hy : y ∈ A) (hxy : x ∈ nx y) (h1 : RchS nx r x) (h2 : RchS nx x r) : RchS nx r y := by
  obtain ⟨A1, A2, rfl⟩ := List.append_of_mem hy
  have e1 : O = A1 ++ y :: (A2 ++ r :: B) := by rw [e]; simp
  have hyV : y ∈ V := (h.mem y).1 (by rw [e1]; simp)
  have hxO := (h.mem x).2 (hV y hyV x hxy)
  rw [e1] at hxO
  rcases List.mem_append.1 hxO with hx | hx
  · exact rchK h1 ((h.cross hV e1 hx h2).2 (by simp))
  · rcases List.mem_cons.1 hx with rfl | hx
    · exact h1
    · obtain ⟨B1, C1, hb⟩ := List.append_of_mem hx
      exact rchK h1 (h.q A1 y B1 x C1 (by rw [e1, hb]) hxy y List.mem_cons_self)
abbrev Mut (nx : Idn → List Idn) (a b : Idn) : Prop := RchS nx a b ∧ RchS nx b a
theorem Mut.symm {nx : Idn → List Idn} {a b : Idn} (h : Mut nx a b) : Mut nx b a := ⟨h.2, h.1⟩
theorem Mut.trans {nx : Idn → List Idn} {a b c : Idn} (h : Mut nx a b) (k : Mut nx b c) : Mut nx a c := ⟨rchK h.1 k.1, rchK k.2 h.2⟩
/-- What the second going has found. -/
structure Found (nx : Idn → List Idn) (V L : List Idn) (all : List (List Idn)) : Prop where
  cov : ∀ z, z ∈ V ↔ z ∈ L ∨ ∃ c ∈ all, z ∈ c
  free : ∀ z ∈ L, ∀ c ∈ all, z ∉ c
  cls : ∀ c ∈ all, ∃ r ∈ c, ∀ z, z ∈ c ↔ z ∈ V ∧ Mut nx r z
  nd : all.flatten.Nodup
theorem Trees.found {nx ux : Idn → List Idn} {V O : List Idn} (h : Order nx V O) (hV : ∀ x ∈ V, ∀ y ∈ nx x, y ∈ V) (hu : ∀ x ∈ V, ∀ y ∈ V, y ∈ ux x ↔ x ∈ nx y) {l L : List Idn} {all : List (List Idn)} (ht : Trees ux V l L all) : (∃ l', O.reverse = l ++ l') → Found nx V L all := by
  induction ht with
  | start => exact fun _ => ⟨fun z => by simp, fun z _ c hc => (by cases hc), fun c hc => (by cases hc), List.nodup_nil⟩
  | none _ _ ih =>
    rintro ⟨l', e⟩
    exact ih ⟨_, by rw [e]; simp only [List.append_assoc]; rfl⟩
  | @tree l L L' all r gone ht hc ih =>
    rintro ⟨l', e⟩
    have F := ih ⟨r :: l', by rw [e]; simp⟩
    have hg := ht.going
    have hg' := hc.going hg
    have hout := ht.out
    obtain ⟨hrL, hrg⟩ := hc.root
    have hrg : r ∈ gone := hrg.resolve_left (by simp)
    have hrV : r ∈ V := (F.cov r).2 (.inl hrL)
    have eO : O = l'.reverse ++ r :: l.reverse := by
      have := congrArg List.reverse e
      rw [List.reverse_reverse] at this
      rw [this]; simp
    have hLV : ∀ z ∈ L, z ∈ V := fun z hz => (F.cov z).2 (.inl hz)
    have early : ∀ z ∈ L, z = r ∨ z ∈ l'.reverse := fun z hz => by
      have := (h.mem z).2 (hLV z hz)
      rw [eO] at this
      rcases List.mem_append.1 this with h1 | h1
      · exact .inr h1
      · rcases List.mem_cons.1 h1 with h1 | h1
        · exact .inl h1
        · exact absurd hz (hout z (List.mem_reverse.1 h1))
    have A := hc.alls (P := fun z => z ∈ V ∧ Mut nx r z) ⟨hrV, .here _, .here _⟩ (fun x y hx hy hyL => by
      have hyV := hLV y hyL
      have hxy := (hu x hx.1 y hyV).1 hy
      refine ⟨hyV, ?_, rchK (.more (.here _) hxy) hx.2.2⟩
      rcases early y hyL with rfl | hyl
      · exact .here _
      · exact h.back hV eO hyl hxy hx.2.1 hx.2.2)
    have hgL : ∀ z, z ∈ L ↔ z ∈ L' ∨ z ∈ gone := fun z => by
      constructor
      · intro hz
        have h1 := (hg'.part z).1 (hLV z hz)
        rcases h1 with h1 | h1 | h1
        · exact .inl h1
        · cases h1
        · rcases List.mem_append.1 h1 with h1 | h1
          · exact absurd (by rw [List.append_nil]; exact h1) (hg.free z hz).2
          · exact .inr h1
      · rintro (h1 | h1)
        · exact A.low z h1
        · have hzV := (A.gone z h1).1
          rcases (hg.part z).1 hzV with h2 | h2 | h2
          · exact h2
          · cases h2
          · exfalso
            rw [List.append_nil] at h2
            have := hg'.nd
            rw [List.nodup_append] at this
            exact this.2.2 z h2 z h1 rfl
    have whole : ∀ z, Mut nx r z → z ∈ L ∧ z ∈ gone := fun z hm => by
      have inL : ∀ z, z ∈ V → Mut nx r z → z ∈ L := fun z hzV hm => by
        rcases (F.cov z).1 hzV with h1 | ⟨c, hc1, hz⟩
        · exact h1
        · obtain ⟨q, -, hcl⟩ := F.cls c hc1
          exact absurd ((hcl r).2 ⟨hrV, ((hcl z).1 hz).2.trans hm.symm⟩) (F.free r hrL c hc1)
      have key : ∀ y z, RchS nx y z → y ∈ V → Mut nx r y → z ∈ gone → y ∈ gone := by
        intro y z hyz
        induction hyz with
        | here => exact fun _ _ h => h
        | @more w z hyw hzw ih =>
          intro hyV hm hz
          have hzm := A.gone z hz
          have hwV : w ∈ V := by
            clear ih hzw
            induction hyw with
            | here => exact hyV
            | more _ h2 ih2 => exact hV _ ih2 _ h2
          have hwm : Mut nx r w := ⟨rchK hm.1 hyw, rchK (.more (.here _) hzw) hzm.2.2⟩
          have hwz : w ∈ ux z := (hu z hzm.1 w hwV).2 hzw
          have h3 := hg'.dead z (List.mem_append_right _ hz) w hwz
          exact ih hyV hm (((hgL w).1 (inL w hwV hwm)).resolve_left h3)
      have hzV : z ∈ V := by
        have h1 := hm.1
        clear hm inL key
        induction h1 with
        | here => exact hrV
        | more _ h2 ih2 => exact hV _ ih2 _ h2
      exact ⟨inL z hzV hm, key z r hm.2 hzV hm hrg⟩
    refine ⟨fun z => ?_, fun z hz c hc1 => ?_, fun c hc1 => ?_, ?_⟩
    · rw [F.cov z, hgL z]
      constructor
      · rintro ((h1 | h1) | ⟨c, h1, h2⟩)
        · exact .inl h1
        · exact .inr ⟨gone, by simp, h1⟩
        · exact .inr ⟨c, List.mem_append_left _ h1, h2⟩
      · rintro (h1 | ⟨c, h1, h2⟩)
        · exact .inl (.inl h1)
        · rcases List.mem_append.1 h1 with h1 | h1
          · exact .inr ⟨c, h1, h2⟩
          · rw [List.mem_singleton] at h1; subst h1; exact .inl (.inr h2)
    · rcases List.mem_append.1 hc1 with hc1 | hc1
      · exact F.free z (A.low z hz) c hc1
      · rw [List.mem_singleton] at hc1; subst hc1
        exact fun hm => (hg'.free z hz).2 (List.mem_append_right _ hm)
    · rcases List.mem_append.1 hc1 with hc1 | hc1
      · exact F.cls c hc1
      · rw [List.mem_singleton] at hc1; subst hc1
        exact ⟨r, hrg, fun z => ⟨fun hz => A.gone z hz, fun hz => (whole z hz.2).2⟩⟩
    · have := hg'.nd
      rw [List.flatten_append, List.flatten_singleton]; exact this

/-! ### What is found, in order, is what Of has to give -/
theorem pw_eq {α : Type} {lt : α → α → Prop} (irr : ∀ x, ¬ lt x x) (tr : ∀ x y z, lt x y → lt y z → lt x z) : ∀ {a b : List α}, a.Pairwise lt → b.Pairwise lt → (∀ x, x ∈ a ↔ x ∈ b) → a = b
  | [], [], _, _, _ => rfl
  | [], y :: b, _, _, h => by have := (h y).2 (by simp); cases this
  | x :: a, [], _, _, h => by have := (h x).1 (by simp); cases this
  | x :: a, y :: b, ha, hb, h => by
    obtain ⟨a1, a2⟩ := List.pairwise_cons.1 ha
    obtain ⟨b1, b2⟩ := List.pairwise_cons.1 hb
    have e : x = y := by
      rcases List.mem_cons.1 ((h x).1 (by simp)) with e | hx
      · exact e
      · rcases List.mem_cons.1 ((h y).2 (by simp)) with e | hy
        · exact e.symm
        · exact absurd (tr _ _ _ (b1 x hx) (a1 y hy)) (irr _)
    subst e
    have hxa : x ∉ a := fun hx => irr x (a1 x hx)
    have hxb : x ∉ b := fun hx => irr x (b1 x hx)
    rw [pw_eq irr tr a2 b2 fun z => by
      constructor
      · intro hz
        rcases List.mem_cons.1 ((h z).1 (List.mem_cons_of_mem _ hz)) with e | hz'
        · subst e; exact absurd hz hxa
        · exact hz'
      · intro hz
        rcases List.mem_cons.1 ((h z).2 (List.mem_cons_of_mem _ hz)) with e | hz'
        · subst e; exact absurd hz hxb
        · exact hz']
/-- What holds of the components of the first k. -/
structure OfR (rs : List Rcd) (all : List Idn) (L : List (List Idn)) (k : Nat) : Prop where
  rise : ∀ c ∈ L, RiseR rs c
  first : ∀ c ∈ L, ∃ j, j < k ∧ nth c 0 = nth all j
  asc : L.Pairwise fun c d => ltR rs (nth c 0) (nth d 0) = true
theorem drop_nth {l : List Idn} {k : Nat} (h : k < l.length) : l.drop k = nth l k :: l.drop (k + 1) := by
  rw [List.drop_eq_getElem_cons h]
  unfold nth
  rw [List.getD_eq_getElem?_getD, List.getElem?_eq_getElem h]; rfl
theorem ofR_any {rs : List Rcd} {all : List Idn} (hid : ∀ z ∈ all, z ∈ idsG rs) (hr : RiseR rs all) : ∀ k, k ≤ all.length → OfR rs all (ofL rs all k) k
  | 0, _ => ⟨fun c hc => absurd hc List.not_mem_nil, fun c hc => absurd hc List.not_mem_nil, List.Pairwise.nil⟩
  | k + 1, hk => by
    have ih := ofR_any hid hr k (by omega)
    by_cases h : 0 ≤ atL (ofL rs all k) (nth all k)
    · rw [ofP_yes h]
      exact ⟨ih.rise, fun c hc => by obtain ⟨j, hj, e⟩ := ih.first c hc; exact ⟨j, by omega, e⟩, ih.asc⟩
    · rw [ofP_no h]
      have hkl : k < all.length := by omega
      have e0 : nth ((all.drop k).filter fun y => mutG rs (nth all k) y) 0 = nth all k := by
        rw [drop_nth hkl, List.filter_cons_of_pos (mut_self (hid _ (nth_in hkl)))]; rfl
      refine ⟨fun c hc => ?_, fun c hc => ?_, List.pairwise_append.2 ⟨ih.asc, List.pairwise_singleton _ _, fun c hc d hd => ?_⟩⟩
      · rcases List.mem_append.1 hc with hc | hc
        · exact ih.rise c hc
        · rw [List.mem_singleton] at hc; subst hc
          exact (hr.sublist (List.drop_sublist _ _)).sublist List.filter_sublist
      · rcases List.mem_append.1 hc with hc | hc
        · obtain ⟨j, hj, e⟩ := ih.first c hc; exact ⟨j, by omega, e⟩
        · rw [List.mem_singleton] at hc; subst hc
          exact ⟨k, by omega, e0⟩
      · rw [List.mem_singleton] at hd; subst hd
        obtain ⟨j, hj, e⟩ := ih.first c hc
        rw [e, e0]
        have := List.pairwise_iff_getElem.1 hr j k (by omega) hkl hj
        unfold nth
        rw [List.getD_eq_getElem?_getD, List.getD_eq_getElem?_getD, List.getElem?_eq_getElem (show j < all.length by omega), List.getElem?_eq_getElem hkl]
        exact this
theorem closed_reach {rs : List Rcd} : ∀ x ∈ closedG rs, ∀ y ∈ dpG rs x, y ∈ closedG rs := fun x hx y hy => closed_mem.2 fun z hz => closed_mem.1 hx z (Rch.trans (.more (.here _) hy) hz)
theorem mutK_iff {rs : List Rcd} {r z : Idn} (hr : r ∈ closedG rs) (hz : z ∈ closedG rs) : mutG rs r z = true ↔ Mut (dpG rs) r z := by
  rw [mut_iff]
  exact ⟨fun h => ⟨rchK_iff.2 h.2.2.1, rchK_iff.2 h.2.2.2⟩, fun h => ⟨closed_in hr, closed_in hz, rchK_iff.1 h.1, rchK_iff.1 h.2⟩⟩
theorem of_is {rs : List Rcd} {L : List (List Idn)} (hcls : ∀ c ∈ L, ∃ r ∈ c, ∀ z, z ∈ c ↔ z ∈ closedG rs ∧ Mut (dpG rs) r z) (hcov : ∀ z ∈ closedG rs, ∃ c ∈ L, z ∈ c) (hrise : ∀ c ∈ L, RiseR rs c) (hasc : L.Pairwise fun c d => ltR rs (nth c 0) (nth d 0) = true) : L = ofG rs := by
  have P := of_parts rs
  have R : OfR rs (allR rs) (ofG rs) (allR rs).length := ofR_any (fun z hz => allR_in hz) (sortR_rise rs _) _ (Nat.le_refl _)
  have pcls : ∀ d ∈ ofG rs, ∃ r, r ∈ closedG rs ∧ ∀ z, z ∈ d ↔ z ∈ closedG rs ∧ Mut (dpG rs) r z := fun d hd => by
    obtain ⟨r, hr, h⟩ := P.cls d hd
    have hr' := all_mem.1 hr
    refine ⟨r, hr', fun z => ?_⟩
    rw [h z, all_mem]
    exact ⟨fun ⟨h1, h2⟩ => ⟨h1, (mutK_iff hr' h1).1 h2⟩, fun ⟨h1, h2⟩ => ⟨h1, (mutK_iff hr' h1).2 h2⟩⟩
  have one : ∀ c ∈ L, ∀ d ∈ ofG rs, ∀ z, z ∈ c → z ∈ d → c = d := fun c hc d hd z hzc hzd => by
    obtain ⟨r, -, h1⟩ := hcls c hc
    obtain ⟨q, -, h2⟩ := pcls d hd
    refine riseR_eq (hrise c hc) (R.rise d hd) fun x => ?_
    rw [h1 x, h2 x]
    have m1 := ((h1 z).1 hzc).2
    have m2 := ((h2 z).1 hzd).2
    exact ⟨fun ⟨a, b⟩ => ⟨a, (m2.trans m1.symm).trans b⟩, fun ⟨a, b⟩ => ⟨a, (m1.trans m2.symm).trans b⟩⟩
  refine pw_eq (lt := fun c d => ltR rs (nth c 0) (nth d 0) = true) (fun x h => by rw [ltR_irr] at h; cases h) (fun x y z h k => ltR_tr h k) hasc R.asc fun c => ⟨fun hc => ?_, fun hd => ?_⟩
  · obtain ⟨r, hr, h1⟩ := hcls c hc
    obtain ⟨i, hi, e⟩ := in_nth (all_mem.2 ((h1 r).1 hr).1)
    obtain ⟨d, hd, hz⟩ := P.cov i hi
    rw [e] at hz
    rw [one c hc d hd r hr hz]; exact hd
  · obtain ⟨r, hr, h1⟩ := pcls c hd
    have hz : r ∈ c := (h1 r).2 ⟨hr, .here _, .here _⟩
    obtain ⟨b, hb, hzb⟩ := hcov r hr
    rw [← one b hb c hd r hzb hz]; exact hb
end Go.Proofs.YtjokejcokgeeiaaGreat.Cps
