/- The seeking of the canonical order (layer 18, canon), plain: what is tried, what waits for which, what is taken; behind it all are taken in the canonical order. No condition but those in each statement. -/
import Derived.Test.YtjokejcokgeeiaaGreatCnp
namespace Go.Proofs.YtjokejcokgeeiaaGreat.Can
open Go.RowKit Cmd Bat Ids Rec Wid Gra Rea Cps
set_option linter.unusedVariables false
set_option linter.unusedSimpArgs false

/-- Where a component stands: taken, among those to try, waiting for another one. -/
inductive Loc where
  | gone
  | trial
  | wait (t : Nat)
def isW (l : Loc) (i : Nat) : Bool := match l with
  | .wait t => decide (t = i)
  | _ => false
theorem isW_iff {l : Loc} {i : Nat} : isW l i = true ↔ l = .wait i := by
  cases l with
  | gone => exact ⟨fun h => (by cases h), fun h => (by cases h)⟩
  | trial => exact ⟨fun h => (by cases h), fun h => (by cases h)⟩
  | wait t => exact ⟨fun h => by rw [of_decide_eq_true h], fun h => by injection h with h; exact decide_eq_true h⟩
def updL (f : Nat → Loc) (i : Nat) (x : Loc) : Nat → Loc := fun j => if j = i then x else f j
theorem updL_same (f : Nat → Loc) (i : Nat) (x : Loc) : updL f i x i = x := if_pos rfl
theorem updL_ne (f : Nat → Loc) {i j : Nat} (x : Loc) (h : j ≠ i) : updL f i x j = f j := if_neg h
/-- What has been waiting for one that is taken now is tried again. -/
def freeL (f : Nat → Loc) (i : Nat) : Nat → Loc := fun j => if j = i then .gone else if isW (f j) i = true then .trial else f j
/-- Those of the first n that are not taken, in their order. -/
def leftI (n : Nat) (tk : List Nat) : List Nat := (List.range n).filter fun i => decide (i ∉ tk)
theorem left_mem {n : Nat} {tk : List Nat} {i : Nat} : i ∈ leftI n tk ↔ i < n ∧ i ∉ tk := by unfold leftI; rw [List.mem_filter, List.mem_range, decide_eq_true_eq]
theorem left_sorted (n : Nat) (tk : List Nat) : (leftI n tk).Pairwise (· < ·) := List.pairwise_lt_range.sublist List.filter_sublist
theorem left_nd (n : Nat) (tk : List Nat) : (leftI n tk).Nodup := (left_sorted n tk).imp fun h => Nat.ne_of_lt h
theorem left_snoc (n : Nat) (tk : List Nat) (k : Nat) : leftI n (tk ++ [k]) = (leftI n tk).filter fun i => decide (i ≠ k) := by
  unfold leftI
  rw [List.filter_filter]
  refine List.filter_congr fun i _ => ?_
  rw [Bool.eq_iff_iff, Bool.and_eq_true, decide_eq_true_eq, decide_eq_true_eq, decide_eq_true_eq, List.mem_append, List.mem_singleton]
  exact ⟨fun h => ⟨fun e => h (.inr e), fun e => h (.inl e)⟩, fun ⟨h1, h2⟩ h => h.elim h2 h1⟩
theorem find_range {p : Nat → Bool} : ∀ {n i : Nat}, i < n → p i = true → (∀ j, j < i → p j = false) → (List.range n).find? p = some i
  | n + 1, i, hi, h1, h2 => by
    rw [List.range_succ, List.find?_append]
    by_cases e : i < n
    · rw [find_range e h1 h2]; rfl
    · obtain rfl : i = n := by omega
      have : (List.range i).find? p = none := List.find?_eq_none.2 fun j hj => by rw [h2 j (List.mem_range.1 hj)]; decide
      rw [this]
      simp [h1]
theorem nthL_map {all : List (List Idn)} (I : List Nat) {q : Nat} (hq : q < I.length) : nthL (I.map (nthL all)) q = nthL all I[q] := by
  unfold nthL
  rw [List.getD_eq_getElem?_getD, List.getElem?_map, List.getElem?_eq_getElem hq]; rfl
/-- The first one that leads to no other one that is left. -/
theorem at_is {rs : List Rcd} {n : Nat} {tk : List Nat} {p : Nat} (hp : p < (leftI n tk).length)
    (hf : ∀ i ∈ leftI n tk, i ≠ (leftI n tk)[p] → leadsG rs (nthL (ofG rs) (leftI n tk)[p]) (nthL (ofG rs) i) = false)
    (hb : ∀ i ∈ leftI n tk, i < (leftI n tk)[p] → ∃ t ∈ leftI n tk, t ≠ i ∧ leadsG rs (nthL (ofG rs) i) (nthL (ofG rs) t) = true) : atG rs ((leftI n tk).map (nthL (ofG rs))) = p := by
  have hnd := left_nd n tk
  have hso := left_sorted n tk
  generalize leftI n tk = I at hp hf hb hnd hso ⊢
  unfold atG
  rw [List.length_map, find_range hp]
  · rfl
  · refine free_iff.2 fun k hk hne => ?_
    rw [List.length_map] at hk
    rw [nthL_map I hp, nthL_map I hk]
    exact hf _ (List.getElem_mem hk) fun e => hne ((List.getElem_inj hnd).1 e)
  · intro q hq
    cases hfr : freeG rs (I.map (nthL (ofG rs))) q with
    | false => rfl
    | true =>
      have hql : q < I.length := by omega
      have hlt : I[q] < I[p] := List.pairwise_iff_getElem.1 hso q p hql hp hq
      obtain ⟨t, ht, hne, hl⟩ := hb _ (List.getElem_mem hql) hlt
      obtain ⟨k, hk, e⟩ := List.getElem_of_mem ht
      have := free_iff.1 hfr k (by rw [List.length_map]; exact hk) (fun e2 => hne (by subst e2; exact e.symm))
      rw [nthL_map I hql, nthL_map I hk, e, hl] at this; cases this
theorem erase_at {α : Type} [DecidableEq α] {I : List α} (h : I.Nodup) {p : Nat} (hp : p < I.length) : I.eraseIdx p = I.filter fun i => decide (i ≠ I[p]) := by
  induction I generalizing p with
  | nil => simp at hp
  | cons x I ih =>
    obtain ⟨h1, h2⟩ := List.nodup_cons.1 h
    cases p with
    | zero =>
      have e : I.filter (fun i => decide (i ≠ x)) = I := List.filter_eq_self.2 fun y hy => decide_eq_true fun e => h1 (e ▸ hy)
      show I = (x :: I).filter fun i => decide (i ≠ x)
      rw [List.filter_cons_of_neg (by simp), e]
    | succ p =>
      have hp' : p < I.length := by simpa using hp
      have hne : x ≠ I[p] := fun e => h1 (e ▸ List.getElem_mem hp')
      show x :: I.eraseIdx p = (x :: I).filter fun i => decide (i ≠ I[p])
      rw [List.filter_cons_of_pos (by simpa using hne), ih h2 hp']
theorem erase_map {α β : Type} (f : α → β) : ∀ (I : List α) (p : Nat), (I.map f).eraseIdx p = (I.eraseIdx p).map f
  | [], _ => rfl
  | x :: I, 0 => rfl
  | x :: I, p + 1 => by show f x :: (I.map f).eraseIdx p = f x :: (I.eraseIdx p).map f; rw [erase_map f I p]
theorem nodup_low {n : Nat} {l : List Nat} (h : l.Nodup) (hl : ∀ i ∈ l, i < n) : l.length ≤ n := by
  have := Mpg.nodup_len h (b := List.range n) fun i hi => List.mem_range.2 (hl i hi)
  rwa [List.length_range] at this
/-- What holds between two steps. -/
structure Sk (rs : List Rcd) (n : Nat) (loc : Nat → Loc) (tk hs : List Nat) (wt : List (List Nat)) (op : List (List Idn)) : Prop where
  nn : n = (ofG rs).length
  wl : wt.length = n
  ol : op.length = n
  ltk : ∀ i, i ∈ tk ↔ i < n ∧ loc i = .gone
  lhs : ∀ i, i ∈ hs ↔ i < n ∧ loc i = .trial
  lwt : ∀ t, t < n → loc t ≠ .gone → ∀ i, i ∈ wt.getD t [] ↔ i < n ∧ loc i = .wait t
  ntk : tk.Nodup
  nhs : hs.Nodup
  nwt : ∀ t, t < n → loc t ≠ .gone → (wt.getD t []).Nodup
  aim : ∀ i, i < n → ∀ t, loc i = .wait t → t < n ∧ loc t ≠ .gone ∧ t ≠ i ∧ leadsG rs (nthL (ofG rs) i) (nthL (ofG rs) t) = true
  sub : ∀ i, i < n → ∀ d ∈ nthL op i, d ∈ depsL rs (nthL (ofG rs) i)
  done : ∀ i, i < n → loc i ≠ .gone → ∀ d ∈ depsL rs (nthL (ofG rs) i), d ∈ nthL op i ∨ ∃ p, p < n ∧ d ∈ nthL (ofG rs) p ∧ (p = i ∨ loc p = .gone ∨ loc i = .wait p)
  pre : orderG rs = tk.map (nthL (ofG rs)) ++ orderN rs (leftI n tk).length ((leftI n tk).map (nthL (ofG rs)))
section
variable {rs : List Rcd} {n : Nat} {loc : Nat → Loc} {tk hs : List Nat} {wt : List (List Nat)} {op : List (List Idn)}
theorem left_nil (n : Nat) : leftI n [] = List.range n := by unfold leftI; exact List.filter_eq_self.2 fun i _ => by simp
theorem map_range (all : List (List Idn)) : (List.range all.length).map (nthL all) = all := by
  refine List.ext_getElem? fun j => ?_
  rw [List.getElem?_map]
  by_cases hj : j < all.length
  · rw [List.getElem?_range hj, List.getElem?_eq_getElem hj]
    show some (nthL all j) = _
    unfold nthL; rw [List.getD_eq_getElem?_getD, List.getElem?_eq_getElem hj]; rfl
  · rw [List.getElem?_eq_none (by rw [List.length_range]; omega), List.getElem?_eq_none (by omega)]; rfl
theorem Sk.start (rs : List Rcd) : Sk rs (ofG rs).length (fun _ => .trial) [] (List.range (ofG rs).length) (List.replicate (ofG rs).length []) ((ofG rs).map (depsL rs)) := by
  have hop : ∀ i, i < (ofG rs).length → nthL ((ofG rs).map (depsL rs)) i = depsL rs (nthL (ofG rs) i) := fun i hi => by
    unfold nthL
    rw [List.getD_eq_getElem?_getD, List.getElem?_map, List.getD_eq_getElem?_getD, List.getElem?_eq_getElem hi]; rfl
  have hw : ∀ t, t < (ofG rs).length → (List.replicate (ofG rs).length ([] : List Nat)).getD t [] = [] := fun t ht => by rw [List.getD_eq_getElem?_getD, List.getElem?_replicate, if_pos ht]; rfl
  refine ⟨rfl, List.length_replicate, List.length_map .., fun i => by simp, fun i => by simp, fun t ht _ i => by rw [hw t ht]; simp, .nil, List.nodup_range, fun t ht _ => by rw [hw t ht]; exact .nil, fun i _ t h => (by cases h), fun i hi d hd => (by rw [hop i hi] at hd; exact hd), fun i hi _ d hd => .inl (by rw [hop i hi]; exact hd), ?_⟩
  rw [left_nil, map_range, List.length_range]; rfl
theorem Sk.perm {hs' : List Nat} (h : Sk rs n loc tk hs wt op) (p : hs'.Perm hs) : Sk rs n loc tk hs' wt op :=
  { h with lhs := fun i => (p.mem_iff).trans (h.lhs i), nhs := p.nodup_iff.2 h.nhs }
theorem nthL_set {op : List (List Idn)} {k : Nat} (hk : k < op.length) (c : List Idn) (i : Nat) : nthL (op.set k c) i = if i = k then c else nthL op i := by
  unfold nthL
  rw [List.getD_eq_getElem?_getD, List.getElem?_set]
  by_cases e : k = i
  · subst e; rw [if_pos rfl, if_pos hk, if_pos rfl]; rfl
  · rw [if_neg e, if_neg (fun h => e h.symm), List.getD_eq_getElem?_getD]
theorem getD_set {wt : List (List Nat)} {k : Nat} (hk : k < wt.length) (c : List Nat) (i : Nat) : (wt.set k c).getD i [] = if i = k then c else wt.getD i [] := by
  rw [List.getD_eq_getElem?_getD, List.getElem?_set]
  by_cases e : k = i
  · subst e; rw [if_pos rfl, if_pos hk, if_pos rfl]; rfl
  · rw [if_neg e, if_neg (fun h => e h.symm), List.getD_eq_getElem?_getD]
/-- An edge within, or to one that is taken. -/
theorem Sk.drop {k : Nat} {h' : List Nat} {d : Idn} {ds : List Idn} (S : Sk rs n loc tk (k :: h') wt op) (hop : nthL op k = d :: ds) {p : Nat} (hp : p < n) (hd : d ∈ nthL (ofG rs) p) (hc : p = k ∨ p ∈ tk) : Sk rs n loc tk (k :: h') wt (op.set k ds) := by
  have hk := (S.lhs k).1 List.mem_cons_self
  have hkl : k < op.length := by rw [S.ol]; exact hk.1
  refine { S with ol := by rw [List.length_set]; exact S.ol, sub := fun i hi x hx => ?_, done := fun i hi hl x hx => ?_ }
  · rw [nthL_set hkl] at hx
    by_cases e : i = k
    · subst e; rw [if_pos rfl] at hx; exact S.sub i hi x (by rw [hop]; exact List.mem_cons_of_mem _ hx)
    · rw [if_neg e] at hx; exact S.sub i hi x hx
  · rw [nthL_set hkl]
    by_cases e : i = k
    · subst e
      rw [if_pos rfl]
      rcases S.done i hi hl x hx with h | h
      · rw [hop] at h
        rcases List.mem_cons.1 h with rfl | h
        · exact .inr ⟨p, hp, hd, hc.imp id fun h => .inl ((S.ltk p).1 h).2⟩
        · exact .inl h
      · exact .inr h
    · rw [if_neg e]; exact S.done i hi hl x hx
/-- An edge to another one that is left: it waits. -/
theorem Sk.wait {k : Nat} {h' : List Nat} {d : Idn} {ds : List Idn} (S : Sk rs n loc tk (k :: h') wt op) (hop : nthL op k = d :: ds) {p : Nat} (hp : p < n) (hd : d ∈ nthL (ofG rs) p) (hpk : p ≠ k) (hpt : p ∉ tk) :
    Sk rs n (updL loc k (.wait p)) tk h' (wt.set p (wt.getD p [] ++ [k])) (op.set k ds) := by
  have hk := (S.lhs k).1 List.mem_cons_self
  have hkl : k < op.length := by rw [S.ol]; exact hk.1
  have hpl : p < wt.length := by rw [S.wl]; exact hp
  have hpg : loc p ≠ .gone := fun e => hpt ((S.ltk p).2 ⟨hp, e⟩)
  obtain ⟨hkn, hnd⟩ := List.nodup_cons.1 S.nhs
  have gone_iff : ∀ t, updL loc k (.wait p) t = .gone ↔ loc t = .gone := fun t => by
    by_cases e : t = k
    · subst e; rw [updL_same, hk.2]; exact ⟨fun h => (by cases h), fun h => (by cases h)⟩
    · rw [updL_ne _ _ e]
  refine ⟨S.nn, by rw [List.length_set]; exact S.wl, by rw [List.length_set]; exact S.ol, fun i => by rw [gone_iff]; exact S.ltk i, fun i => ?_, fun t ht hg i => ?_, S.ntk, hnd, fun t ht hg => ?_, fun i hi t hw => ?_, fun i hi x hx => ?_, fun i hi hl x hx => ?_, S.pre⟩
  · by_cases e : i = k
    · subst e; rw [updL_same]; exact ⟨fun h => absurd h hkn, fun h => (by cases h.2)⟩
    · rw [updL_ne _ _ e, ← S.lhs i, List.mem_cons]; exact ⟨.inr, fun h => h.resolve_left e⟩
  · rw [Ne, gone_iff] at hg
    rw [getD_set hpl]
    by_cases et : t = p
    · subst et
      rw [if_pos rfl, List.mem_append, List.mem_singleton, S.lwt t ht hg]
      by_cases e : i = k
      · subst e; rw [updL_same]; exact ⟨fun _ => ⟨hk.1, rfl⟩, fun _ => .inr rfl⟩
      · rw [updL_ne _ _ e]; exact ⟨fun h => h.resolve_right e, .inl⟩
    · rw [if_neg et, S.lwt t ht hg]
      by_cases e : i = k
      · subst e; rw [updL_same, hk.2]; exact ⟨fun h => (by cases h.2), fun h => (by have h2 := h.2; injection h2 with h2; exact absurd h2.symm et)⟩
      · rw [updL_ne _ _ e]
  · rw [Ne, gone_iff] at hg
    rw [getD_set hpl]
    by_cases et : t = p
    · subst et
      rw [if_pos rfl]
      refine List.nodup_append.2 ⟨S.nwt t ht hg, List.nodup_cons.2 ⟨List.not_mem_nil, .nil⟩, fun a ha b hb => ?_⟩
      rw [List.mem_singleton] at hb
      subst hb
      rintro rfl
      have := ((S.lwt t ht hg a).1 ha).2
      rw [hk.2] at this; cases this
    · rw [if_neg et]; exact S.nwt t ht hg
  · by_cases e : i = k
    · subst e
      rw [updL_same] at hw
      injection hw with hw
      subst hw
      refine ⟨hp, by rw [Ne, gone_iff]; exact hpg, hpk, ?_⟩
      obtain ⟨x, hx, hdx⟩ := depsL_mem.1 (S.sub i hi d (by rw [hop]; exact List.mem_cons_self))
      refine leads_iff.2 ⟨x, hx, d, hdx, hd, fun hm => hpk ?_⟩
      rw [S.nn] at hp hi
      exact dj_nth (of_parts rs).dj hp hi hd hm
    · rw [updL_ne _ _ e] at hw
      obtain ⟨h1, h2, h3⟩ := S.aim i hi t hw
      exact ⟨h1, by rw [Ne, gone_iff]; exact h2, h3⟩
  · rw [nthL_set hkl] at hx
    by_cases e : i = k
    · subst e; rw [if_pos rfl] at hx; exact S.sub i hi x (by rw [hop]; exact List.mem_cons_of_mem _ hx)
    · rw [if_neg e] at hx; exact S.sub i hi x hx
  · rw [Ne, gone_iff] at hl
    rw [nthL_set hkl]
    by_cases e : i = k
    · subst e
      rw [if_pos rfl, updL_same]
      rcases S.done i hi hl x hx with h | ⟨q, hq, hxq, h⟩
      · rw [hop] at h
        rcases List.mem_cons.1 h with rfl | h
        · exact .inr ⟨p, hp, hd, .inr (.inr rfl)⟩
        · exact .inl h
      · refine .inr ⟨q, hq, hxq, ?_⟩
        rcases h with h | h | h
        · exact .inl h
        · exact .inr (.inl ((gone_iff q).2 h))
        · rw [hk.2] at h; cases h
    · rw [if_neg e, updL_ne _ _ e]
      rcases S.done i hi hl x hx with h | ⟨q, hq, hxq, h⟩
      · exact .inl h
      · exact .inr ⟨q, hq, hxq, h.imp id fun h => h.imp (fun h => (gone_iff q).2 h) id⟩
/-- One that waits for none is taken: those that have waited for it are tried again. -/
theorem Sk.take {k : Nat} {h' hs' : List Nat} (S : Sk rs n loc tk (k :: h') wt op) (hop : nthL op k = []) (hmin : ∀ j ∈ h', k ≤ j) (hp : hs'.Perm (h' ++ wt.getD k [])) : Sk rs n (freeL loc k) (tk ++ [k]) hs' wt op := by
  have hk := (S.lhs k).1 List.mem_cons_self
  have hkg : loc k ≠ .gone := by rw [hk.2]; intro e; cases e
  have hkt : k ∉ tk := fun h => hkg ((S.ltk k).1 h).2
  obtain ⟨hkn, hnd⟩ := List.nodup_cons.1 S.nhs
  have fk : freeL loc k k = .gone := if_pos rfl
  have fo : ∀ {i}, i ≠ k → loc i ≠ .wait k → freeL loc k i = loc i := fun h1 h2 => by unfold freeL; rw [if_neg h1, if_neg (fun h => h2 (isW_iff.1 h))]
  have fw : ∀ {i}, i ≠ k → loc i = .wait k → freeL loc k i = .trial := fun h1 h2 => by unfold freeL; rw [if_neg h1, if_pos (isW_iff.2 h2)]
  have gone_iff : ∀ {t}, t ≠ k → (freeL loc k t = .gone ↔ loc t = .gone) := fun {t} ht => by
    by_cases e : loc t = .wait k
    · rw [fw ht e, e]; exact ⟨fun h => (by cases h), fun h => (by cases h)⟩
    · rw [fo ht e]
  have gone_ne : ∀ {t}, freeL loc k t ≠ .gone → t ≠ k ∧ loc t ≠ .gone := fun {t} h => by
    have ht : t ≠ k := fun e => h (by rw [e]; exact fk)
    exact ⟨ht, fun e => h ((gone_iff ht).2 e)⟩
  refine ⟨S.nn, S.wl, S.ol, fun i => ?_, fun i => ?_, fun t ht hg i => ?_, ?_, ?_, fun t ht hg => S.nwt t ht (gone_ne hg).2, fun i hi t hw => ?_, S.sub, fun i hi hl x hx => ?_, ?_⟩
  · rw [List.mem_append, List.mem_singleton, S.ltk]
    by_cases e : i = k
    · subst e; exact ⟨fun _ => ⟨hk.1, fk⟩, fun _ => .inr rfl⟩
    · rw [gone_iff e]; exact ⟨fun h => h.resolve_right e, .inl⟩
  · rw [hp.mem_iff, List.mem_append, S.lwt k hk.1 hkg]
    by_cases e : i = k
    · subst e; rw [fk]; exact ⟨fun h => h.elim (fun h => absurd h hkn) (fun h => (by have := h.2; rw [hk.2] at this; cases this)), fun h => (by cases h.2)⟩
    · by_cases e2 : loc i = .wait k
      · rw [fw e e2]
        exact ⟨fun h => h.elim (fun h => ⟨((S.lhs i).1 (List.mem_cons_of_mem _ h)).1, rfl⟩) (fun h => ⟨h.1, rfl⟩), fun h => .inr ⟨h.1, e2⟩⟩
      · rw [fo e e2, ← S.lhs i, List.mem_cons]
        exact ⟨fun h => h.elim .inr (fun h => absurd h.2 e2), fun h => .inl (h.resolve_left e)⟩
  · obtain ⟨g1, g2⟩ := gone_ne hg
    rw [S.lwt t ht g2]
    by_cases e : i = k
    · subst e; rw [fk, hk.2]; exact ⟨fun h => (by cases h.2), fun h => (by cases h.2)⟩
    · by_cases e2 : loc i = .wait k
      · rw [fw e e2, e2]; exact ⟨fun h => (by have h2 := h.2; injection h2 with h2; exact absurd h2.symm g1), fun h => (by cases h.2)⟩
      · rw [fo e e2]
  · exact List.nodup_append.2 ⟨S.ntk, List.nodup_cons.2 ⟨List.not_mem_nil, .nil⟩, fun a ha b hb => by rw [List.mem_singleton] at hb; subst hb; exact fun e => hkt (e ▸ ha)⟩
  · refine hp.nodup_iff.2 (List.nodup_append.2 ⟨hnd, S.nwt k hk.1 hkg, fun a ha b hb e => ?_⟩)
    subst e
    have h1 := ((S.lhs a).1 (List.mem_cons_of_mem _ ha)).2
    have h2 := ((S.lwt k hk.1 hkg a).1 hb).2
    rw [h1] at h2; cases h2
  · have hik : i ≠ k := fun e => by rw [e, fk] at hw; cases hw
    have e2 : loc i ≠ .wait k := fun e2 => by rw [fw hik e2] at hw; cases hw
    rw [fo hik e2] at hw
    obtain ⟨h1, h2, h3⟩ := S.aim i hi t hw
    have htk : t ≠ k := fun e => e2 (by rw [hw, e])
    exact ⟨h1, fun e => h2 ((gone_iff htk).1 e), h3⟩
  · obtain ⟨g1, g2⟩ := gone_ne hl
    rcases S.done i hi g2 x hx with h | ⟨q, hq, hxq, h⟩
    · exact .inl h
    · refine .inr ⟨q, hq, hxq, ?_⟩
      rcases h with h | h | h
      · exact .inl h
      · exact .inr (.inl ((gone_iff (fun e => by rw [e, hk.2] at h; cases h)).2 h))
      · by_cases e : q = k
        · rw [e]; exact .inr (.inl fk)
        · refine .inr (.inr ?_)
          rw [fo g1 (fun e2 => by rw [h] at e2; injection e2 with e2; exact e e2)]; exact h
  · have hI : k ∈ leftI n tk := left_mem.2 ⟨hk.1, hkt⟩
    obtain ⟨p, hpl, hpe⟩ := List.getElem_of_mem hI
    have hat : atG rs ((leftI n tk).map (nthL (ofG rs))) = p := by
      refine at_is hpl (fun i hi hne => ?_) (fun i hi hlt => ?_)
      · rw [hpe] at hne ⊢
        cases hl : leadsG rs (nthL (ofG rs) k) (nthL (ofG rs) i) with
        | false => rfl
        | true =>
          obtain ⟨y, hy, d, hd, hdi, -⟩ := leads_iff.1 hl
          obtain ⟨hin, hit⟩ := left_mem.1 hi
          rcases S.done k hk.1 hkg d (depsL_mem.2 ⟨y, hy, hd⟩) with h | ⟨q, hq, hdq, h⟩
          · rw [hop] at h; cases h
          · have e : q = i := dj_nth (of_parts rs).dj (S.nn ▸ hq) (S.nn ▸ hin) hdq hdi
            subst e
            rcases h with h | h | h
            · exact absurd h hne
            · exact absurd ((S.ltk q).2 ⟨hin, h⟩) hit
            · rw [hk.2] at h; cases h
      · rw [hpe] at hlt
        obtain ⟨hin, hit⟩ := left_mem.1 hi
        have hig : loc i ≠ .gone := fun e => hit ((S.ltk i).2 ⟨hin, e⟩)
        cases hli : loc i with
        | gone => exact absurd hli hig
        | trial =>
          have := (S.lhs i).2 ⟨hin, hli⟩
          rcases List.mem_cons.1 this with h | h
          · omega
          · have := hmin i h; omega
        | wait t =>
          obtain ⟨h1, h2, h3, h4⟩ := S.aim i hin t hli
          exact ⟨t, left_mem.2 ⟨h1, fun h => h2 ((S.ltk t).1 h).2⟩, h3, h4⟩
    have hlen : 0 < ((leftI n tk).map (nthL (ofG rs))).length := by rw [List.length_map]; omega
    have hst := orderN_step (rs := rs) hlen
    rw [hat] at hst
    have he : ((leftI n tk).map (nthL (ofG rs))).eraseIdx p = (leftI n (tk ++ [k])).map (nthL (ofG rs)) := by rw [erase_map, erase_at (left_nd n tk) hpl, hpe, left_snoc]
    rw [he, nthL_map _ hpl, hpe, List.length_map, List.length_map] at hst
    rw [S.pre, hst, List.map_append, List.append_assoc]; rfl
/-- Nothing is left to try: all are taken, in the canonical order. -/
theorem Sk.fin (S : Sk rs n loc tk [] wt op) : orderG rs = tk.map (nthL (ofG rs)) := by
  have hz : leftI n tk = [] := by
    refine Classical.byContradiction fun hne => ?_
    have h0 : 0 < ((leftI n tk).map (nthL (ofG rs))).length := by rw [List.length_map]; exact List.length_pos_iff.2 hne
    have hf := free_iff.1 (some_free (rs := rs) (left := (leftI n tk).map (nthL (ofG rs))) (fun c hc => by
      obtain ⟨i, hi, rfl⟩ := List.mem_map.1 hc
      exact nthL_in (S.nn ▸ (left_mem.1 hi).1)) h0)
    have hat := atG_lt (rs := rs) h0
    generalize atG rs ((leftI n tk).map (nthL (ofG rs))) = p at hf hat
    rw [List.length_map] at hat
    have hi := List.getElem_mem hat
    obtain ⟨hin, hit⟩ := left_mem.1 hi
    cases hli : loc (leftI n tk)[p] with
    | gone => exact hit ((S.ltk _).2 ⟨hin, hli⟩)
    | trial => have := (S.lhs _).2 ⟨hin, hli⟩; cases this
    | wait t =>
      obtain ⟨h1, h2, h3, h4⟩ := S.aim _ hin t hli
      obtain ⟨k, hk, e⟩ := List.getElem_of_mem (left_mem.2 ⟨h1, fun h => h2 ((S.ltk t).1 h).2⟩ : t ∈ leftI n tk)
      have := hf k (by rw [List.length_map]; exact hk) (fun e2 => by subst e2; exact h3 e.symm)
      rw [nthL_map _ hat, nthL_map _ hk, e, h4] at this; cases this
  have := S.pre
  rw [hz] at this
  rw [this]; exact List.append_nil _
/-- How much is to be done: those that are left, the edges that have not been told. -/
def todoS (n : Nat) (tk : List Nat) (op : List (List Idn)) : Nat := (n - tk.length) + op.flatten.length
theorem Sk.tkl (S : Sk rs n loc tk hs wt op) : tk.length ≤ n := by
  have := nodup_low S.ntk fun i hi => ((S.ltk i).1 hi).1
  exact this
theorem flat_set {op : List (List Idn)} {k : Nat} {d : Idn} {ds : List Idn} (h : nthL op k = d :: ds) : (op.set k ds).flatten.length + 1 = op.flatten.length := by
  induction op generalizing k with
  | nil => unfold nthL at h; simp at h
  | cons c op ih =>
    cases k with
    | zero =>
      have h : c = d :: ds := h
      subst h
      show (ds :: op).flatten.length + 1 = _
      simp only [List.flatten_cons, List.length_append, List.length_cons]; omega
    | succ k =>
      have := ih (k := k) h
      show (c :: op.set k ds).flatten.length + 1 = _
      simp only [List.flatten_cons, List.length_append]; omega
end
end Go.Proofs.YtjokejcokgeeiaaGreat.Can

/- What canon's eachEdge gives, and the function that it answers (layer 18): each component's edges, told one by one. Conditions: those in each statement. -/
namespace Go.Proofs.YtjokejcokgeeiaaGreat.Can
open Go.RowKit Cmd Bat Ids Rec Wid Gra Rea Cps Mpg
set_option linter.unusedVariables false
set_option linter.unusedSimpArgs false

/-! ### What stays where some blocks turn -/
structure Kp (F : Nat → Prop) (w w' : World) : Prop where
  below : Below 0 w w'
  block : ∀ b, b < w.heap.size → ¬ F b → w'.heap[b]? = w.heap[b]?
section
variable {F : Nat → Prop} {w w' : World}
theorem Kp.of (F : Nat → Prop) (h : Below w.heap.size w w') : Kp F w w' := ⟨h.mono (Nat.zero_le _), fun b hb _ => h.block b hb⟩
theorem Kp.grown {r : Option Nat} (h : w.grownBy w' r) (hF : ∀ b, r = some b → F b) : Kp F w w' := ⟨⟨h.os, h.tape, h.output, h.size, fun k hk => absurd hk (Nat.not_lt_zero _)⟩, fun b hb hn => h.block b hb (fun e => hn (hF b e.symm))⟩
theorem Kp.heap {g : Nat} {v : Value} (h : HTurn g v w w') (h1 : F g) (h2 : ∀ b, v.ownBlock = some b → F b) : Kp F w w' := ⟨h.1, fun b hb hn => h.2 b hb (fun e => hn (e ▸ h1)) (fun e => hn (h2 b e))⟩
theorem Kp.low (h : Kp F w w') {n : Nat} (hn : n ≤ w.heap.size) (hF : ∀ b, b < n → ¬ F b) : Below n w w' := ⟨h.below.os, h.below.tape, h.below.output, h.below.size, fun k hk => h.block k (by omega) (hF k hk)⟩
theorem Kp.cell (h : Kp F w w') {b i : Nat} {v : Value} (hc : w.cell? ⟨b, i, none⟩ = some v) (hF : ¬ F b) : w'.cell? ⟨b, i, none⟩ = some v := (World.cell?_of_block (w := w) (a := ⟨b, i, none⟩) (h.block b (World.block_lt_of_cell? _ _ hc) hF)).trans hc
theorem Kp.heapAt (h : Kp F w w') {b : Nat} {o : Obj} (hb : w.heap[b]? = some o) (hF : ¬ F b) : w'.heap[b]? = some o := (h.block b (Array.getElem?_eq_some_iff.1 hb).1 hF).trans hb
theorem Kp.map (h : Kp F w w') {b N : Nat} {f : Idn → Option Value} (hm : MapG kyI w b N f) (hF : ¬ F b) : MapG kyI w' b N f := hm.block (h.block b hm.lt hF)
theorem Kp.own (h : Kp F w w') {base s n : Nat} {e : TypeId} {v : Value} {xs : List Value} (ho : w.ownsRow base e s v n xs) (hF : ∀ b, v.ownBlock = some b → ¬ F b) : w'.ownsRow base e s v n xs := by
  refine ⟨ho.1, ho.2.imp id fun ⟨g, cap, cur, e1, hb, hg, hr⟩ => ⟨g, cap, cur, e1, hb, ?_, hr⟩⟩
  exact h.heapAt hg (hF g (by rw [e1]; rfl))
theorem Kp.row (h : Kp F w w') {v : Value} {zs : List Idn} (hr : RowAt w v zs) (hF : ∀ b, v.ownBlock = some b → ¬ F b) : RowAt w' v zs := by
  obtain ⟨p, cap, rfl, h1, h2, h0, h3⟩ := hr
  refine ⟨p, cap, rfl, h1, h2, h0, fun hz => ?_⟩
  obtain ⟨B, off, rfl, hlt, hc⟩ := h3 hz
  have e := h.block B hlt (hF B rfl)
  exact ⟨B, off, rfl, Nat.lt_of_lt_of_le hlt h.below.size, fun j hj => ⟨(World.cell?_of_block (w := w) (a := ⟨B, off + j * 2, none⟩) e).trans (hc j hj).1, (World.cell?_of_block (w := w) (a := ⟨B, off + j * 2 + 1, none⟩) e).trans (hc j hj).2⟩⟩
end
theorem own_ty {w : World} {base s n b : Nat} {e : TypeId} {v : Value} {xs : List Value} (ho : w.ownsRow base e s v n xs) (hv : v.ownBlock = some b) : ∃ cs, w.heap[b]? = some (.cells cs e (0, 0)) := by
  rcases ho.2 with ⟨e1, -⟩ | ⟨g, cap, cur, e1, -, hg, -⟩
  · rw [e1] at hv; cases hv
  · rw [e1] at hv
    injection hv with hv
    subst hv
    exact ⟨cur, hg⟩
theorem ty_ne {w : World} {b b' : Nat} {cs cs' : Array Value} {e e' : TypeId} (h : w.heap[b]? = some (.cells cs e (0, 0))) (h' : w.heap[b']? = some (.cells cs' e' (0, 0))) (he : e ≠ e') : b ≠ b' := fun e2 => by
  subst e2
  rw [h] at h'
  injection h' with h1
  injection h1 with h1 h2
  exact he h2

/-! ### Edges that are still to be told -/
/-- Where the places lie, and each component's edges that have not been told; all of it below B. -/
structure Ee (rs : List Rcd) (W5 : World) (B m bo bp br : Nat) (rows : List Rw) (w : World) : Prop where
  low : Below W5.heap.size W5 w
  hi : W5.heap.size ≤ bo ∧ W5.heap.size ≤ bp ∧ W5.heap.size ≤ br ∧ bo < B ∧ bp < B ∧ br < B ∧ m < B ∧ B ≤ w.heap.size
  map : MapG kyI w m 1000000 (plF (ofG rs) (ofG rs).length 0)
  pc : w.heap[bp]? = some (.cells #[.map (some m)] 66 (0, 0))
  oc : w.heap[bo]? = some (.cells #[.slice (some ⟨br, 0, none⟩) rows.length rows.length] 30 (0, 0))
  len : rows.length = (ofG rs).length
  own : wdRw.Own 38 w W5.heap.size (.slice (some ⟨br, 0, none⟩) rows.length rows.length) rows
  row : ∀ r ∈ rows, RowAt w (sliceOf r.1) r.2 ∧ ∀ b, (sliceOf r.1).ownBlock = some b → b < B ∧ ∃ cs, w.heap[b]? = some (.cells cs 43 (0, 0))
section
variable {rs : List Rcd} {W5 w w' : World} {B m bo bp br : Nat} {rows : List Rw}
theorem Ee.kept (h : Ee rs W5 B m bo bp br rows w) {F : Nat → Prop} (k : Kp F w w') (hF : ∀ b, b < B → ¬ F b) (hl : W5.heap.size ≤ B) : Ee rs W5 B m bo bp br rows w' := by
  obtain ⟨h1, h2, h3, h4, h5, h6, h7, h8⟩ := h.hi
  refine ⟨h.low.trans (k.low h.low.size (fun b hb => hF b (by omega))), ⟨h1, h2, h3, h4, h5, h6, h7, Nat.le_trans h8 k.below.size⟩, k.map h.map (hF m h7), k.heapAt h.pc (hF bp h5), k.heapAt h.oc (hF bo h4), h.len, k.own h.own (fun b e => by injection e with e; subst e; exact hF br h6), fun r hr => ?_⟩
  obtain ⟨r1, r2⟩ := h.row r hr
  exact ⟨k.row r1 (fun b e => hF b (r2 b e).1), fun b e => ⟨(r2 b e).1, by obtain ⟨cs, hc⟩ := (r2 b e).2; exact ⟨cs, k.heapAt hc (hF b (r2 b e).1)⟩⟩⟩
theorem Ee.on (h : Ee rs W5 B m bo bp br rows w) (hb : Below w.heap.size w w') : Ee rs W5 B m bo bp br rows w' := h.kept (Kp.of (fun _ => False) hb) (fun _ _ h => h) (by have := h.hi; omega)
theorem nthR {rows : List Rw} {i : Nat} (hi : i < rows.length) : nthL (rows.map Prod.snd) i = rows[i].2 := by
  unfold nthL
  rw [List.getD_eq_getElem?_getD, List.getElem?_map, List.getElem?_eq_getElem hi]; rfl
theorem flatRw : ∀ rows : List Rw, wdRw.flat rows = rows.map fun r => sliceOf r.1
  | [] => rfl
  | x :: l => by show [_] ++ wdRw.flat l = _; rw [flatRw l]; rfl
theorem Ee.cell (h : Ee rs W5 B m bo bp br rows w) {i : Nat} (hi : i < rows.length) : w.cell? ⟨br, i, none⟩ = some (sliceOf rows[i].1) ∧ w.frozen? ⟨br, i, none⟩ = false := by
  have h' : w.ownsRow W5.heap.size 38 1 (.slice (some ⟨br, 0, none⟩) rows.length rows.length) rows.length (rows.map fun r => sliceOf r.1) := by have := h.own; unfold Wd.Own at this; rw [flatRw] at this; exact this
  refine ⟨?_, h'.frozenAt i⟩
  rw [h'.cellAt i (by omega), List.getElem?_map, List.getElem?_eq_getElem hi]; rfl
/-- Another slice is stored at i. -/
theorem Ee.store (h : Ee rs W5 B m bo bp br rows w) {i : Nat} (hi : i < rows.length) {q : Slc} {ds : List Idn} (hr : RowAt w (sliceOf q) ds) (hq : ∀ b, (sliceOf q).ownBlock = some b → b < B ∧ ∃ cs, w.heap[b]? = some (.cells cs 43 (0, 0))) :
    Ee rs W5 B m bo bp br (rows.set i (q, ds)) (w.setCell ⟨br, i, none⟩ (sliceOf q)) ∧ w.grownBy (w.setCell ⟨br, i, none⟩ (sliceOf q)) (some br) := by
  have h' : w.ownsRow W5.heap.size 38 1 (.slice (some ⟨br, 0, none⟩) rows.length rows.length) rows.length (rows.map fun r => sliceOf r.1) := by have := h.own; unfold Wd.Own at this; rw [flatRw] at this; exact this
  obtain ⟨r1, r2⟩ := h'.stored i (sliceOf q)
  obtain ⟨cs0, hbr⟩ := own_ty h' (b := br) rfl
  obtain ⟨h1, h2, h3, h4, h5, h6, h7, h8⟩ := h.hi
  have K : Kp (fun b => b = br) w (w.setCell ⟨br, i, none⟩ (sliceOf q)) := Kp.grown r2 (fun b e => by injection e with e; exact e.symm)
  have hl : (rows.set i (q, ds)).length = rows.length := List.length_set ..
  refine ⟨⟨h.low.trans (K.low h.low.size (fun b hb e => by omega)), ⟨h1, h2, h3, h4, h5, h6, h7, Nat.le_trans h8 K.below.size⟩, K.map h.map (fun e => ?_), K.heapAt h.pc (ty_ne h.pc hbr (by decide)), by rw [hl]; exact K.heapAt h.oc (ty_ne h.oc hbr (by decide)), by rw [hl]; exact h.len, ?_, fun r hm => ?_⟩, r2⟩
  · obtain ⟨es, c, hm⟩ := map_isMap h.map
    rw [e, hbr] at hm; cases hm
  · unfold Wd.Own
    rw [flatRw, hl, List.map_set]; exact r1
  · rcases List.mem_or_eq_of_mem_set hm with hm | rfl
    · obtain ⟨q1, q2⟩ := h.row r hm
      exact ⟨K.row q1 (fun b e => by obtain ⟨cs, hc⟩ := (q2 b e).2; exact ty_ne hc hbr (by decide)), fun b e => ⟨(q2 b e).1, by obtain ⟨cs, hc⟩ := (q2 b e).2; exact ⟨cs, K.heapAt hc (ty_ne hc hbr (by decide))⟩⟩⟩
    · exact ⟨K.row hr (fun b e => by obtain ⟨cs, hc⟩ := (hq b e).2; exact ty_ne hc hbr (by decide)), fun b e => ⟨(hq b e).1, by obtain ⟨cs, hc⟩ := (hq b e).2; exact ⟨cs, K.heapAt hc (ty_ne hc hbr (by decide))⟩⟩⟩
end

theorem Ee.mono {rs : List Rcd} {W5 w : World} {B B' m bo bp br : Nat} {rows : List Rw} (h : Ee rs W5 B m bo bp br rows w) (h1 : B ≤ B') (h2 : B' ≤ w.heap.size) : Ee rs W5 B' m bo bp br rows w := by
  obtain ⟨k1, k2, k3, k4, k5, k6, k7, k8⟩ := h.hi
  exact { h with hi := ⟨k1, k2, k3, by omega, by omega, by omega, by omega, h2⟩, row := fun r hr => ⟨(h.row r hr).1, fun b e => ⟨by have := ((h.row r hr).2 b e).1; omega, ((h.row r hr).2 b e).2⟩⟩ }
theorem Ee.base {rs : List Rcd} {W W5 w : World} {B m bo bp br : Nat} {rows : List Rw} (h : Ee rs W5 B m bo bp br rows w) (hb : Below W.heap.size W W5) (hz : W5.heap.size = W.heap.size) : Ee rs W B m bo bp br rows w :=
  { h with low := hb.trans (h.low.mono (Nat.le_of_eq hz.symm)), hi := by rw [← hz]; exact h.hi, own := by rw [← hz]; exact h.own }
/-- Behind 'place, open := places(all), make(..)'. -/
theorem Pv.ee {rs : List Rcd} {W5 w : World} {u17 u20 u6 u7 : Value} (h : Pv (ofG rs) (ofG rs).length W5 38 30 (List.replicate (ofG rs).length (.slice none 0 0)) true true true true true true u17 u20 u6 u7 w) :
    ∃ m bp bo br, u17 = .map (some m) ∧ u20 = .slice (some ⟨br, 0, none⟩) (ofG rs).length (ofG rs).length ∧ u6 = .pointer (some ⟨bp, 0, none⟩) ∧ u7 = .pointer (some ⟨bo, 0, none⟩) ∧ Ee rs W5 w.heap.size m bo bp br (List.replicate (ofG rs).length ((none, 0, 0), [])) w := by
  obtain ⟨m, rfl, -, hM⟩ := h.map rfl
  obtain ⟨br, rfl, hO⟩ := h.made rfl
  obtain ⟨bp, v, rfl, hbp, hc, hv⟩ := h.pbx rfl
  obtain ⟨bo, v', rfl, hbo, hc', hv'⟩ := h.tbx rfl
  obtain rfl := hv rfl
  obtain rfl := hv' rfl
  have hl : (List.replicate (ofG rs).length (((none, 0, 0), []) : Rw)).length = (ofG rs).length := List.length_replicate
  have hb := World.ownsRow.lt hO br rfl
  refine ⟨m, bp, bo, br, rfl, rfl, rfl, rfl, h.low, ⟨hbo, hbp, hb.1, (Array.getElem?_eq_some_iff.1 hc').1, (Array.getElem?_eq_some_iff.1 hc).1, hb.2, hM.lt, Nat.le_refl _⟩, hM, hc, by rw [hl]; exact hc', hl, ?_, fun r hr => ?_⟩
  · unfold Wd.Own
    rw [flatRw, hl, List.map_replicate]; exact hO
  · obtain rfl := List.eq_of_mem_replicate hr
    exact ⟨rowI_nil w, fun b e => by cases e⟩
abbrev nextV (bo bp : Nat) : Value := .func (.func 54) #[] #[.pointer (some ⟨bo, 0, none⟩), .pointer (some ⟨bp, 0, none⟩)]
def GivesEach (rs : List Rcd) (W : World) (E : Ending) (w' : World) : Prop := ∃ m bo bp br rows, E = .returned (nextV bo bp) ∧ rows.map Prod.snd = (ofG rs).map (depsL rs) ∧ Ee rs W w'.heap.size m bo bp br rows w'
theorem rows_full {rs : List Rcd} {rows : List Rw} (hl : rows.length = (ofG rs).length) (h : ∀ j (hj : j < rows.length), j < (ofG rs).length → rows[j].2 = depsL rs (nthL (ofG rs) j)) : rows.map Prod.snd = (ofG rs).map (depsL rs) := by
  refine List.ext_getElem (by rw [List.length_map, List.length_map, hl]) fun j h1 h2 => ?_
  rw [List.length_map] at h1 h2
  rw [List.getElem_map, List.getElem_map, h j h1 h2]
  congr 1
  unfold nthL
  rw [List.getD_eq_getElem?_getD, List.getElem?_eq_getElem h2]; rfl
set_option maxRecDepth 100000 in
set_option maxHeartbeats 16000000 in
theorem each_run (gp : Option Addr) (v : Value) (rs : List Rcd) (W : World) (HR : RecIs gp rs W) (L : Lot rs) (h : layLL.Row W v (ofG rs)) :
    Calls Tryz.prog 24 #[.pointer gp, v] W (GivesEach rs W) := by
  obtain ⟨p1, k1, rfl, hnn, hd0⟩ := h.parts
  obtain ⟨nn, hnn'⟩ : ∃ nn, nn = (ofG rs).length := ⟨_, rfl⟩
  have HRc := Lib.hid HR
  have HLt := Lib.hid L
  have HNN := Lib.hid hnn'
  have hnn1 : nn ≤ 1000 := by rw [hnn']; exact of_few L
  rw [← hnn'] at hnn hd0 h ⊢
  have hd : nn = 0 ∨ ∃ B off, p1 = some ⟨B, off, none⟩ ∧ Hid (layLL.In W B off (ofG rs)) := hd0
  have HA := Lib.hid h
  have hmk1 := make_row (t := 30) (e := 38) (z := .slice none 0 0) (bytes := 24) Tryz.underlying30 (by kernel_rfl) rfl (by decide) nn (by omega)
  clear hnn' hd0 HR L h
  go_enter Tryz.func24, Tryz.ntmps24
  go_wp2
  refine wp_region_held_drew (S := (fun _ => True)) (by kernel_rfl) (trivial) (fun hHeld => ?_)
  obtain ⟨W5, hW5⟩ : ∃ W5, W5 = W.drew := ⟨_, rfl⟩
  have D5 : Hid (Below W.heap.size W W5) := Lib.hid (by rw [hW5]; exact (Below.refl _ _).drew)
  have HZ5 : Hid (W5.heap.size = W.heap.size) := Lib.hid (by rw [hW5]; rfl)
  rw [← hW5]
  clear hW5 hHeld
  have hHeld : (fun _ => True) W5 := trivial
  have HPl : Hid (∀ X, Below W5.heap.size W5 X → Calls Tryz.prog 29 #[.slice p1 nn k1] X (GivesPl (ofG rs) X)) := Lib.hid fun X hX => places_any _ (ofG rs) X (HA.out.on (D5.out.trans (hX.mono D5.out.size))) (of_flat HLt.out) (fun c hc x hx => of_wf HLt.out hc hx)
  refine ty (v := ?_) 0 (fun w hSw => ?_) ?_
  rotate_left
  · (try dsimp only at hSw); go_simp; (try with_reducible rfl)
  try simp only [List.getElem_toArray, List.getElem_cons_succ, List.getElem_cons_zero, Act.put, List.setIfInBounds_toArray, List.set_cons_zero, List.set_cons_succ]
  refine ty (v := ?_) 2 (fun w hSw => ?_) ?_
  rotate_left
  · (try dsimp only at hSw); go_simp; (try with_reducible rfl)
  try simp only [List.getElem_toArray, List.getElem_cons_succ, List.getElem_cons_zero, Act.put, List.setIfInBounds_toArray, List.set_cons_zero, List.set_cons_succ]
  refine ty (v := ?_) 3 (fun w hSw => ?_) ?_
  rotate_left
  · (try dsimp only at hSw); go_simp; (try with_reducible rfl)
  try simp only [List.getElem_toArray, List.getElem_cons_succ, List.getElem_cons_zero, Act.put, List.setIfInBounds_toArray, List.set_cons_zero, List.set_cons_succ]
  refine held_inv (fun f L a w => ∃ (b1 b4 b5 b6 b7 b8 : Bool) (u17 u20 u6 u7 : Value), L = #[true, b1, true, true, b4, b5, b6, b7, b8] ∧ f = cntP b1 b4 b5 b6 b7 b8 ∧ a = { tmps := #[.pointer gp, .slice p1 nn k1, undef, undef, .nilFunc, u6, u7, undef, undef, .slice p1 nn k1, u17, .slice p1 nn k1, .int .i64 nn, u20, undef, undef, undef, undef, undef, undef, undef, undef, undef, undef, undef, undef, undef, undef, undef], defers := [] } ∧ Hid (Pv (ofG rs) nn W5 38 30 (List.replicate nn (.slice none 0 0)) b1 b4 b5 b6 b7 b8 u17 u20 u6 u7 w)) ?_ ?_ _ _ _ _ ⟨false, false, false, false, false, false, undef, undef, undef, undef, by kernel_rfl, by kernel_rfl, rfl, Lib.hid ⟨Below.refl _ _, fun h => (by cases h), fun h => (by cases h), fun h => (by cases h), fun h => (by cases h), fun h => (by cases h), fun h => (by cases h)⟩⟩
  · rintro L a w ⟨b1, b4, b5, b6, b7, b8, u17, u20, u6, u7, rfl, hf, rfl, hP⟩
    obtain ⟨rfl, rfl, rfl, rfl, rfl, rfl⟩ := cnt_zero hf
    refine ⟨by kernel_rfl, ?_⟩
    have HRt0 := hP.out
    rw [HNN.out] at HRt0
    obtain ⟨m, bp, bo, br, rfl, hu20, rfl, rfl, hE⟩ := Pv.ee HRt0
    rw [← HNN.out] at hu20
    subst hu20
    have HE0 := Lib.hid hE
    clear hP hf HRt0 hE HPl hmk1 hHeld
    go_wp2_with fail
    go_loopw [16] (fun i wr => ∃ (k : Nat) (rows : List Rw), i = .int .i64 k ∧ k ≤ nn ∧ Hid (Ee rs W5 wr.heap.size m bo bp br rows wr) ∧ Hid (∀ j (hj : j < rows.length), j < k → rows[j].2 = depsL rs (nthL (ofG rs) j))) (fun i _ => nn - (intOf i).toNat)
    case atStart => exact ⟨0, _, rfl, Nat.zero_le _, HE0, Lib.hid (fun j hj h => absurd h (Nat.not_lt_zero _))⟩
    case round =>
      clear HE0
      obtain ⟨k, rows, rfl, hk, hE, hF⟩ := hrel
      have k0 : (0 : Int) ≤ k := by omega
      by_cases hkn : k < nn
      · have kn : (k : Int) < nn := by omega
        obtain ⟨B, off, rfl, HC⟩ := hd.resolve_left (by omega)
        have hkl : k < (ofG rs).length := by rw [← HNN.out]; exact hkn
        have hkr : k < rows.length := by rw [hE.out.len]; exact hkl
        obtain ⟨q, cq, c1', hrowW⟩ := llAt HC.out hkl
        have HBW : Hid (Below W.heap.size W wr) := Lib.hid (D5.out.trans (hE.out.low.mono D5.out.size))
        have c1 := (HBW.out.cell (p := ⟨B, off + k, none⟩) (World.block_lt_of_cell? _ _ c1')).trans c1'
        have HD := Lib.hid (fun X (hX : Below wr.heap.size wr X) => cdeps_any gp _ rs (nthL (ofG rs) k) X (HRc.out.on (HBW.out.trans (hX.mono HBW.out.size))) HLt.out (hrowW.on (HBW.out.trans (hX.mono HBW.out.size))) (by
          have h1 := len_flat (nthL_in hkl)
          have h2 := of_flat HLt.out
          omega) (fun x hx => of_wf HLt.out (nthL_in hkl) hx))
        generalize ((ofG rs).getD k []).length = s at c1 HD
        have HKR := Lib.hid hkr
        have HKL := Lib.hid hkl
        obtain ⟨rl, hrl⟩ : ∃ rl, rl = rows.length := ⟨_, rfl⟩
        have hrn : rl = nn := by rw [hrl, hE.out.len, HNN.out]
        have c2 : wr.cell? ⟨bo, 0, none⟩ = some (.slice (some ⟨br, 0, none⟩) nn nn) := by rw [← hrn, hrl]; exact cell_row (i := 0) hE.out.oc rfl
        have DY0 : Hid (Below wr.heap.size wr wr.drew) := Lib.hid (Below.refl _ _).drew
        have EY0 : Hid (Ee rs W5 wr.drew.heap.size m bo bp br rows wr.drew) := Lib.hid (hE.out.on (Below.refl _ _).drew)
        clear c1' hrowW hkl hkr hrn hrl hE
        go_wp2
        refine wp_region_held_drew (S := (fun w' => w'.cell? ⟨bo, 0, none⟩ = some (.slice (some ⟨br, 0, none⟩) nn nn))) (by kernel_rfl) (c2) (fun hHeld => ?_)
        generalize wr.drew = Y0 at DY0 EY0 hHeld ⊢
        refine ty (v := ?_) 0 (fun w hSw => ?_) ?_
        rotate_left
        · (try dsimp only at hSw); go_simp; (try with_reducible rfl)
        try simp only [List.getElem_toArray, List.getElem_cons_succ, List.getElem_cons_zero, Act.put, List.setIfInBounds_toArray, List.set_cons_zero, List.set_cons_succ]
        refine ty (v := ?_) 1 (fun w hSw => ?_) ?_
        rotate_left
        · (try dsimp only at hSw); go_simp; (try with_reducible rfl)
        try simp only [List.getElem_toArray, List.getElem_cons_succ, List.getElem_cons_zero, Act.put, List.setIfInBounds_toArray, List.set_cons_zero, List.set_cons_succ]
        refine ty (v := ?_) 2 (fun w hSw => ?_) ?_
        rotate_left
        · (try dsimp only at hSw); go_simp; (try with_reducible rfl)
        try simp only [List.getElem_toArray, List.getElem_cons_succ, List.getElem_cons_zero, Act.put, List.setIfInBounds_toArray, List.set_cons_zero, List.set_cons_succ]
        refine ty (v := ?_) 3 (fun w hSw => ?_) ?_
        rotate_left
        · (try dsimp only at hSw); go_simp; (try with_reducible rfl)
        try simp only [List.getElem_toArray, List.getElem_cons_succ, List.getElem_cons_zero, Act.put, List.setIfInBounds_toArray, List.set_cons_zero, List.set_cons_succ]
        refine tr 4 (fun K hK => ?_)
        go_simp
        (go_at_call 32; (with_reducible refine (HD.out _ DY0.out).mono ?_); rintro E Y1 ⟨v1, rfl, ho, hb⟩; obtain ⟨q1, n1, k1', rfl⟩ := own_is ho; have HO1 := Lib.hid ho; have EY1 := Lib.hid ((EY0.out.on hb).mono hb.size (Nat.le_refl _)); have c3 := (hb.cell (p := ⟨bo, 0, none⟩) (World.block_lt_of_cell? _ _ hHeld)).trans hHeld; clear hb)
        have c4 : Y1.cell? ⟨br, k, none⟩ = some (.slice rows[k].1.1 rows[k].1.2.1 rows[k].1.2.2) := (EY1.out.cell HKR.out).1
        have c5 := (EY1.out.cell HKR.out).2
        have HS := Lib.hid (EY1.out.store HKR.out (q := (q1, n1, k1')) HO1.out.row (fun b e => ⟨(World.ownsRow.lt HO1.out b e).2, own_ty HO1.out e⟩))
        refine hK.out _ _ ?_ (fun hHeld => ?_)
        · exact c3
        clear hK K
        try simp only [List.getElem_toArray, List.getElem_cons_succ, List.getElem_cons_zero, Act.put, List.setIfInBounds_toArray, List.set_cons_zero, List.set_cons_succ]
        refine ty (v := ?_) 5 (fun w hSw => ?_) ?_
        rotate_left
        · (try dsimp only at hSw); go_simp; (try with_reducible rfl)
        try simp only [List.getElem_toArray, List.getElem_cons_succ, List.getElem_cons_zero, Act.put, List.setIfInBounds_toArray, List.set_cons_zero, List.set_cons_succ]
        refine tr 6 (fun K hK => ?_)
        go_simp
        have hne : bo ≠ br := by obtain ⟨cs0, hbr⟩ := own_ty EY1.out.own (b := br) rfl; exact ty_ne EY1.out.oc hbr (by decide)
        refine hK.out _ _ ?_ (fun hHeld => ?_)
        · exact (World.cell?_setCell_far _ _ _ _ (fun e => hne e.symm)).trans c3
        clear hK K
        try simp only [List.getElem_toArray, List.getElem_cons_succ, List.getElem_cons_zero, Act.put, List.setIfInBounds_toArray, List.set_cons_zero, List.set_cons_succ]
        refine wpAnyH_done (by kernel_rfl) ?_ _
        go_wp2
        go_roundw
        case rel => exact ⟨k + 1, rows.set k ((q1, n1, k1'), depsL rs (nthL (ofG rs) k)), by go_num, by omega, Lib.hid (HS.out.1.mono HS.out.2.size (Nat.le_refl _)), Lib.hid (fun j hj hjk => by
          rw [List.length_set] at hj
          rw [List.getElem_set]
          by_cases e : k = j
          · subst e; rw [if_pos rfl]
          · rw [if_neg e]; exact hF.out j hj (by omega))⟩
        case measure => simp [intOf]; omega
      · have kn : ¬ (k : Int) < nn := by omega
        have hke : k = nn := by omega
        have HFull : Hid (rows.map Prod.snd = (ofG rs).map (depsL rs)) := Lib.hid (rows_full hE.out.len fun j hj h => hF.out j hj (by rw [hke, HNN.out]; exact h))
        go_wp2
        go_ret
        exact ⟨m, bo, bp, br, rows, rfl, HFull.out, hE.out.base D5.out HZ5.out⟩
  ·
    rintro f L a w ⟨b1, b4, b5, b6, b7, b8, u17, u20, u6, u7, rfl, hf, rfl, hP⟩
    refine ⟨fun hr => ?_, fun i hi => ?_⟩
    · exfalso
      revert hr hf
      clear hP
      cases b1 <;> cases b4 <;> cases b5 <;> cases b6 <;> cases b7 <;> cases b8 <;> intro hf hr <;> first
        | exact absurd hf (Nat.succ_ne_zero f)
        | exact rdy_ne hr (by kernel_rfl)
    · have hc := chk_out (rdy_of (c := chkP b1 b4 b5 b6 b7 b8) hi (by clear hP hi hf; cases b1 <;> cases b4 <;> cases b5 <;> cases b6 <;> cases b7 <;> cases b8 <;> kernel_rfl))
      clear hi
      rcases hc with ⟨rfl, h0⟩ | ⟨rfl, h0⟩ | ⟨rfl, h0⟩ | ⟨rfl, h0⟩ | ⟨rfl, h0, g1, g5, g6⟩ | ⟨rfl, h0, g7, g4, g6⟩
      · subst h0
        refine op_step rfl (fun K hK => ?_)
        go_simp
        (go_at_call 29; (with_reducible refine (HPl.out _ hP.out.low).mono ?_); rintro E w' ⟨m, rfl, hm, hM, hb⟩; have HP := Lib.hid (hP.out.one rfl hb hm hM); clear hm hM hb)
        exact hK.out _ _ ⟨trivial, true, b4, b5, b6, b7, b8, _, u20, u6, u7, rfl, cnt1 hf, rfl, HP⟩
      · subst h0
        refine op_step rfl (fun K hK => ?_)
        go_simp
        exact hK.out _ _ ⟨trivial, b1, true, b5, b6, b7, b8, u17, _, u6, u7, rfl, cnt4 hf, rfl, Lib.hid (hP.out.four rfl (Cmd.below_one w _) (own_row_made nn (by omega) (Nat.le_refl _)))⟩
      · subst h0
        refine op_step rfl (fun K hK => ?_)
        go_simp
        exact hK.out _ _ ⟨trivial, b1, b4, true, b6, b7, b8, u17, u20, _, u7, rfl, cnt5 hf, rfl, Lib.hid (hP.out.five rfl _)⟩
      · subst h0
        refine op_step rfl (fun K hK => ?_)
        go_simp
        exact hK.out _ _ ⟨trivial, b1, b4, b5, true, b7, b8, u17, u20, u6, _, rfl, cnt6 hf, rfl, Lib.hid (hP.out.six rfl _)⟩
      · subst h0 g1 g5 g6
        obtain ⟨m, rfl, -⟩ := hP.out.map rfl
        obtain ⟨ba, v, rfl, -, hc, -⟩ := hP.out.pbx rfl
        have c0 := cell_row (i := 0) hc rfl
        have f0 : w.frozen? ⟨ba, 0, none⟩ = false := free_row hc
        refine op_step rfl (fun K hK => ?_)
        go_simp
        exact hK.out _ _ ⟨trivial, true, b4, true, true, true, b8, _, u20, _, u7, rfl, cnt7 hf, rfl, Lib.hid (hP.out.seven (by decide) (by decide) rfl rfl rfl rfl rfl)⟩
      · subst h0 g7 g4 g6
        obtain ⟨ub, rfl, -⟩ := hP.out.made rfl
        obtain ⟨ba, v, rfl, -, hc, -⟩ := hP.out.tbx rfl
        have c0 := cell_row (i := 0) hc rfl
        have f0 : w.frozen? ⟨ba, 0, none⟩ = false := free_row hc
        refine op_step rfl (fun K hK => ?_)
        go_simp
        exact hK.out _ _ ⟨trivial, b1, true, b5, true, true, true, u17, _, u6, _, rfl, cnt8 hf, rfl, Lib.hid (hP.out.eight (by decide) (by decide) rfl rfl rfl rfl)⟩
end Go.Proofs.YtjokejcokgeeiaaGreat.Can

/- What the function that canon's eachEdge answers gives (layer 18): the next edge. Conditions: those in each statement. -/
namespace Go.Proofs.YtjokejcokgeeiaaGreat.Can
open Go.RowKit Cmd Bat Ids Rec Wid Gra Rea Cps Mpg
set_option linter.unusedVariables false
set_option linter.unusedSimpArgs false

def GivesNext (rs : List Rcd) (W5 : World) (B m bo bp br : Nat) (rows : List Rw) (k : Nat) (W : World) (E : Ending) (w' : World) : Prop :=
  Kp (fun b => b = br) W w' ∧ ((nthL (rows.map Prod.snd) k = [] ∧ E = .returned (.tuple #[.int .i64 0, .bool false]) ∧ Ee rs W5 B m bo bp br rows w') ∨
    ∃ d ds p q, nthL (rows.map Prod.snd) k = d :: ds ∧ p < (ofG rs).length ∧ d ∈ nthL (ofG rs) p ∧ E = .returned (.tuple #[.int .i64 (p : Nat), .bool true]) ∧ Ee rs W5 B m bo bp br (rows.set k (q, ds)) w')
set_option maxRecDepth 100000 in
set_option maxHeartbeats 8000000 in
theorem next_run (rs : List Rcd) (W5 : World) (B m bo bp br : Nat) (rows : List Rw) (k : Nat) (W : World) (h : Ee rs W5 B m bo bp br rows W) (hk : k < rows.length) (hd : ∀ d ∈ nthL (rows.map Prod.snd) k, wfId d ∧ ∃ p, p < (ofG rs).length ∧ d ∈ nthL (ofG rs) p) (hn : (ofG rs).length ≤ 1000) :
    Calls Tryz.prog 54 #[.int .i64 k, .pointer (some ⟨bo, 0, none⟩), .pointer (some ⟨bp, 0, none⟩)] W (GivesNext rs W5 B m bo bp br rows k W) := by
  obtain ⟨n, hn'⟩ : ∃ n, n = rows.length := ⟨_, rfl⟩
  have hN : Hid (n = (ofG rs).length) := Lib.hid (by rw [hn', h.len])
  have c0 : W.cell? ⟨bo, 0, none⟩ = some (.slice (some ⟨br, 0, none⟩) n n) := by rw [hn']; exact cell_row (i := 0) h.oc rfl
  have c1 : W.cell? ⟨bp, 0, none⟩ = some (.map (some m)) := cell_row (i := 0) h.pc rfl
  have c2 := (h.cell hk).1
  have c3 := (h.cell hk).2
  have HE := Lib.hid h
  have HK := Lib.hid hk
  have hrow := (h.row _ (List.getElem_mem hk)).1
  have htyp := Lib.hid (h.row _ (List.getElem_mem hk)).2
  rw [nthR hk] at hd
  have HNt := Lib.hid (nthR hk)
  have hkn : k < n := by omega
  have k0 : (0 : Int) ≤ k := by omega
  have kn : (k : Int) < n := by omega
  have hn2 : n ≤ 1000 := by rw [hN.out]; exact hn
  generalize rows[k] = r at c2 hrow htyp hd HNt
  clear hn' hk
  obtain ⟨⟨q, nq0, cq⟩, ds0⟩ := r
  have c2 : W.cell? ⟨br, k, none⟩ = some (.slice q nq0 cq) := c2
  have hrow : RowAt W (.slice q nq0 cq) ds0 := hrow
  cases ds0 with
  | nil =>
    obtain rfl : nq0 = 0 := rowat_nil hrow
    clear hrow hd htyp h
    go_enter Tryz.func54, Tryz.ntmps54
    go_wp2
    go_ret2
    exact ⟨Kp.of _ (Below.refl _ _), .inl ⟨HNt.out, rfl, HE.out⟩⟩
  | cons d ds =>
    obtain ⟨Bq, offq, rfl, hnq, hq1, hq2, e0, e1⟩ := rowat_head hrow
    obtain ⟨s, hs⟩ : ∃ s, s = ds.length := ⟨_, rfl⟩
    rw [← hs] at hnq
    subst hnq
    obtain ⟨x, y⟩ := d
    obtain ⟨hwf, p, hp, hdp⟩ := hd (x, y) List.mem_cons_self
    have hpl := plL_of (of_parts rs).dj hp hdp
    have hlk := fun j => mapP_look (h.map.drewn j) x y hwf
    rw [hpl] at hlk
    have hlk2 : ∀ j, (Instr.lookup 66 (.map (some m)) (.agg #[.int .i64 x, .int .i64 y]) false).run Tryz.prog (W.drewN j) = .ok (.int .i64 p) (W.drewN j) := hlk
    have HP := Lib.hid (And.intro hp hdp)
    have hcut := fun w => cut1 (some ⟨Bq, offq, none⟩) (s + 1) cq (by omega) w
    have hst := h.store HK.out (q := (cutl (some ⟨Bq, offq, none⟩) 1 cq 2, s + 1 - 1, cq - 1)) (ds := ds) (rowat_drop hrow) (fun b e => by
      have e2 : (Value.slice (cutl (some ⟨Bq, offq, none⟩) 1 cq 2) (s + 1 - 1) (cq - 1)).ownBlock = some b := e
      rw [cutl_block, own_n (some ⟨Bq, offq, none⟩) (s + 1 - 1) (cq - 1) (s + 1) cq] at e2
      exact htyp.out b e2)
    rw [Nat.add_sub_cancel] at hst
    have hcut2 : ∀ w, (Instr.slice 38 (.slice (some ⟨Bq, offq, none⟩) (s + 1) cq) (some (.int .i64 1)) none none).run Tryz.prog w = .ok (.slice (cutl (some ⟨Bq, offq, none⟩) 1 cq 2) s (cq - 1)) w := hcut
    have HS := Lib.hid hst
    have hs0 : ((s : Int) + 1 == 0) = false := by rw [beq_eq_false_iff_ne]; omega
    have e0 : W.cell? ⟨Bq, offq, none⟩ = some (.int .i64 x) := e0
    have e1 : W.cell? ⟨Bq, offq + 1, none⟩ = some (.int .i64 y) := e1
    clear hrow hd htyp h hst hlk hpl hwf hp hdp hcut hs
    generalize cutl (some ⟨Bq, offq, none⟩) 1 cq 2 = q2 at hcut2 HS
    generalize cq - 1 = c22 at hcut2 HS
    go_enter Tryz.func54, Tryz.ntmps54
    go_wp2
    go_quiet (fail)
    go_wp2
    go_region
    go_wp2
    go_ret2
    obtain ⟨q1, q2'⟩ := HS.out
    have K1 : Kp (fun b => b = br) W (W.setCell ⟨br, k, none⟩ (sliceOf (q2, s, c22))) := Kp.grown q2' (fun b e => by injection e with e; exact e.symm)
    have hbx : Below (W.setCell ⟨br, k, none⟩ (sliceOf (q2, s, c22))).heap.size (W.setCell ⟨br, k, none⟩ (sliceOf (q2, s, c22))) ((W.setCell ⟨br, k, none⟩ (sliceOf (q2, s, c22))).drewN (nq + 1)) := Bat.below_drN (Below.refl _ _) _
    refine ⟨⟨K1.below.trans (hbx.mono (Nat.zero_le _)), fun b hb hF => (hbx.block b (Nat.lt_of_lt_of_le hb K1.below.size)).trans (K1.block b hb hF)⟩, .inr ⟨(x, y), ds, p, (q2, s, c22), HNt.out, HP.out.1, HP.out.2, rfl, q1.on hbx⟩⟩
end Go.Proofs.YtjokejcokgeeiaaGreat.Can

/- What stands in memory while canon's Order seeks (layer 18), and what each of its steps leaves of it. Conditions: those in each statement. -/
namespace Go.Proofs.YtjokejcokgeeiaaGreat.Can
open Go.RowKit Cmd Bat Ids Rec Wid Gra Rea Cps Mpg
set_option linter.unusedVariables false
set_option linter.unusedSimpArgs false

/-- A slice of numbers, and what it reads as. -/
abbrev Wtr := Slc × List Nat
structure Om (rs : List Rcd) (W5 : World) (B m bo bp br tb wb ub : Nat) (rows : List Rw) (v : Value) (ys : List Nat) (ws : List Wtr) (vo : Value) (os : List Rw) (tk : List Nat) (w : World) : Prop where
  ee : Ee rs W5 B m bo bp br rows w
  tk : OwnB w B ub (ofG rs).length tk
  tr : RowQ w B tb v ys
  tbB : B ≤ tb
  wl : ws.length = (ofG rs).length
  wr : w.ownsRow B 60 1 (.slice (some ⟨wb, 0, none⟩) (ofG rs).length (ofG rs).length) (ofG rs).length (ws.map fun r => sliceOf r.1)
  wi : ∀ i (hi : i < ws.length), OwnN w B (sliceOf ws[i].1) ws[i].2
  ap1 : ∀ i (hi : i < ws.length) b, (sliceOf ws[i].1).ownBlock = some b → v.ownBlock ≠ some b
  ap2 : ∀ i j (hi : i < ws.length) (hj : j < ws.length), i ≠ j → ∀ b, (sliceOf ws[i].1).ownBlock = some b → (sliceOf ws[j].1).ownBlock ≠ some b
  vo : wdRw.Own 38 w B vo os
  orow : ∀ r ∈ os, RowAt w (sliceOf r.1) r.2 ∧ ∀ b, (sliceOf r.1).ownBlock = some b → b < W5.heap.size
section
variable {rs : List Rcd} {W5 w w' : World} {B m bo bp br tb wb ub : Nat} {rows : List Rw} {v : Value} {ys : List Nat} {ws : List Wtr} {vo : Value} {os : List Rw} {tk : List Nat}
theorem Om.wb_ty (h : Om rs W5 B m bo bp br tb wb ub rows v ys ws vo os tk w) : ∃ cs, w.heap[wb]? = some (.cells cs 60 (0, 0)) := own_ty h.wr rfl
theorem Om.ub_ty (h : Om rs W5 B m bo bp br tb wb ub rows v ys ws vo os tk w) : ∃ cs, w.heap[ub]? = some (.cells cs 4 (0, 0)) := own_ty h.tk rfl
theorem Om.hB (h : Om rs W5 B m bo bp br tb wb ub rows v ys ws vo os tk w) : W5.heap.size ≤ B ∧ br < B ∧ B ≤ ub ∧ B ≤ wb ∧ B ≤ w.heap.size := by
  have h1 := h.ee.hi
  have h2 := World.ownsRow.lt h.tk ub rfl
  have h3 := World.ownsRow.lt h.wr wb rfl
  omega
/-- What stays where only blocks of other kinds turn, at or above B. -/
theorem Om.kept (h : Om rs W5 B m bo bp br tb wb ub rows v ys ws vo os tk w) {F : Nat → Prop} (k : Kp F w w') (hF : ∀ b, b < B → ¬ F b) (h1 : ¬ F ub) (h2 : ¬ F tb) (h3 : ¬ F wb) (h4 : ∀ b, v.ownBlock = some b → ¬ F b) (h5 : ∀ i (hi : i < ws.length) b, (sliceOf ws[i].1).ownBlock = some b → ¬ F b) (h6 : ∀ b, vo.ownBlock = some b → ¬ F b) : Om rs W5 B m bo bp br tb wb ub rows v ys ws vo os tk w' :=
  ⟨h.ee.kept k hF h.hB.1, k.own h.tk (fun b e => by injection e with e; subst e; exact h1), ⟨k.heapAt h.tr.box h2, k.own h.tr.own h4⟩, h.tbB, h.wl, k.own h.wr (fun b e => by injection e with e; subst e; exact h3), fun i hi => k.own (h.wi i hi) (h5 i hi), h.ap1, h.ap2, k.own h.vo h6, fun r hr => ⟨k.row (h.orow r hr).1 (fun b e => hF b (Nat.lt_of_lt_of_le ((h.orow r hr).2 b e) h.hB.1)), (h.orow r hr).2⟩⟩
theorem Om.on (h : Om rs W5 B m bo bp br tb wb ub rows v ys ws vo os tk w) (hb : Below w.heap.size w w') : Om rs W5 B m bo bp br tb wb ub rows v ys ws vo os tk w' :=
  h.kept (Kp.of (fun _ => False) hb) (fun _ _ h => h) id id id (fun _ _ h => h) (fun _ _ _ _ h => h) (fun _ _ h => h)
theorem Om.low (h : Om rs W5 B m bo bp br tb wb ub rows v ys ws vo os tk w) : Below W5.heap.size W5 w := h.ee.low
/-- A heap's call. -/
theorem Om.heap (h : Om rs W5 B m bo bp br tb wb ub rows v ys ws vo os tk w) {v' : Value} {ys' : List Nat} (k : HTurn tb v w w') (tr : RowQ w' B tb v' ys') (hv : v'.ownBlock = v.ownBlock ∨ ∃ b, v'.ownBlock = some b ∧ w.heap.size ≤ b) : Om rs W5 B m bo bp br tb wb ub rows v' ys' ws vo os tk w' := by
  have K := Kp.heap (F := fun b => b = tb ∨ v.ownBlock = some b) k (.inl rfl) (fun b e => .inr e)
  have vty : ∀ b, v.ownBlock = some b → ∃ cs, w.heap[b]? = some (.cells cs 3 (0, 0)) := fun b e => own_ty h.tr.own e
  have nF : ∀ {b : Nat} {cs : Array Value} {e : TypeId}, w.heap[b]? = some (.cells cs e (0, 0)) → e ≠ 61 → e ≠ 3 → ¬ (b = tb ∨ v.ownBlock = some b) := fun hb h1 h2 hF => by
    rcases hF with e | e
    · exact ty_ne hb h.tr.box h1 e
    · obtain ⟨cs, hc⟩ := vty _ e; exact ty_ne hb hc h2 rfl
  have low : ∀ b, b < B → ¬ (b = tb ∨ v.ownBlock = some b) := fun b hb hF => by
    rcases hF with e | e
    · have := h.tbB; omega
    · have := (World.ownsRow.lt h.tr.own b e).1; omega
  refine ⟨h.ee.kept K low h.hB.1, K.own h.tk (fun b e => ?_), tr, h.tbB, h.wl, K.own h.wr (fun b e => ?_), fun i hi => K.own (h.wi i hi) (fun b e hF => ?_), fun i hi b e => ?_, h.ap2, K.own h.vo (fun b e => ?_), fun r hr => ⟨K.row (h.orow r hr).1 (fun b e => low b (Nat.lt_of_lt_of_le ((h.orow r hr).2 b e) h.hB.1)), (h.orow r hr).2⟩⟩
  · injection e with e; subst e; obtain ⟨cs, hc⟩ := h.ub_ty; exact nF hc (by decide) (by decide)
  · injection e with e; subst e; obtain ⟨cs, hc⟩ := h.wb_ty; exact nF hc (by decide) (by decide)
  · rcases hF with e2 | e2
    · obtain ⟨cs, hc⟩ := own_ty (h.wi i hi) e; exact ty_ne hc h.tr.box (by decide) e2
    · exact h.ap1 i hi b e e2
  · rcases hv with hv | ⟨b', hv, hb'⟩
    · rw [hv]; exact h.ap1 i hi b e
    · rw [hv]; intro e2; injection e2 with e2
      have := (World.ownsRow.lt (h.wi i hi) b e).2; omega
  · obtain ⟨cs, hc⟩ := own_ty h.vo e; exact nF hc (by decide) (by decide)
/-- The next edge has been told. -/
theorem Om.next (h : Om rs W5 B m bo bp br tb wb ub rows v ys ws vo os tk w) {rows' : List Rw} (k : Kp (fun b => b = br) w w') (ee : Ee rs W5 B m bo bp br rows' w') : Om rs W5 B m bo bp br tb wb ub rows' v ys ws vo os tk w' := by
  obtain ⟨g1, g2, g3, g4, g5⟩ := h.hB
  have g6 := h.tbB
  have hi : ∀ {base s n b : Nat} {e : TypeId} {u : Value} {xs : List Value}, w.ownsRow B e s u n xs → u.ownBlock = some b → b ≠ br := fun ho e => by have := (World.ownsRow.lt ho _ e).1; omega
  refine ⟨ee, k.own h.tk (fun b e => hi (base := 0) h.tk e), ⟨k.heapAt h.tr.box (by omega), k.own h.tr.own (fun b e => hi (base := 0) h.tr.own e)⟩, h.tbB, h.wl, k.own h.wr (fun b e => hi (base := 0) h.wr e), fun i hi' => k.own (h.wi i hi') (fun b e => hi (base := 0) (h.wi i hi') e), h.ap1, h.ap2, k.own h.vo (fun b e => hi (base := 0) h.vo e), fun r hr => ⟨k.row (h.orow r hr).1 (fun b e e2 => by have h1 := (h.orow r hr).2 b e; have h2 := h.ee.hi; omega), (h.orow r hr).2⟩⟩
/-- One is taken. -/
theorem Om.take (h : Om rs W5 B m bo bp br tb wb ub rows v ys ws vo os tk w) {k : Nat} (hk : k < (ofG rs).length) : Om rs W5 B m bo bp br tb wb ub rows v ys ws vo os (tk ++ [k]) (w.setCell ⟨ub, k, none⟩ (.bool true)) := by
  obtain ⟨r1, r2⟩ := World.ownsRow.stored h.tk k (.bool true)
  rw [u_set tk hk] at r1
  obtain ⟨g1, g2, g3, g4, g5⟩ := h.hB
  obtain ⟨cu, hu⟩ := h.ub_ty
  have K : Kp (fun b => b = ub) w (w.setCell ⟨ub, k, none⟩ (.bool true)) := Kp.grown r2 (fun b e => by injection e with e; exact e.symm)
  have nF : ∀ {b : Nat} {cs : Array Value} {e : TypeId}, w.heap[b]? = some (.cells cs e (0, 0)) → e ≠ 4 → ¬ (b = ub) := fun hb h1 => ty_ne hb hu h1
  have low : ∀ b, b < B → ¬ (b = ub) := fun b hb e => by omega
  refine ⟨h.ee.kept K low g1, r1, ⟨K.heapAt h.tr.box (nF h.tr.box (by decide)), K.own h.tr.own (fun b e => ?_)⟩, h.tbB, h.wl, K.own h.wr (fun b e => ?_), fun i hi => K.own (h.wi i hi) (fun b e => ?_), h.ap1, h.ap2, K.own h.vo (fun b e => ?_), fun r hr => ⟨K.row (h.orow r hr).1 (fun b e => low b (Nat.lt_of_lt_of_le ((h.orow r hr).2 b e) g1)), (h.orow r hr).2⟩⟩
  · obtain ⟨cs, hc⟩ := own_ty h.tr.own e; exact nF hc (by decide)
  · obtain ⟨cs, hc⟩ := own_ty h.wr e; exact nF hc (by decide)
  · obtain ⟨cs, hc⟩ := own_ty (h.wi i hi) e; exact nF hc (by decide)
  · obtain ⟨cs, hc⟩ := own_ty h.vo e; exact nF hc (by decide)
/-- A component is put behind the order. -/
theorem Om.snoc (h : Om rs W5 B m bo bp br tb wb ub rows v ys ws vo os tk w) {vo' : Value} {r : Rw} (hg : w.grownBy w' vo.ownBlock) (ho : wdRw.Own 38 w' B vo' (os ++ [r])) (hr : RowAt w (sliceOf r.1) r.2) (hb : ∀ b, (sliceOf r.1).ownBlock = some b → b < W5.heap.size) : Om rs W5 B m bo bp br tb wb ub rows v ys ws vo' (os ++ [r]) tk w' := by
  obtain ⟨g1, g2, g3, g4, g5⟩ := h.hB
  have K : Kp (fun b => vo.ownBlock = some b) w w' := Kp.grown hg (fun b e => e)
  have nF : ∀ {b : Nat} {cs : Array Value} {e : TypeId}, w.heap[b]? = some (.cells cs e (0, 0)) → e ≠ 38 → ¬ (vo.ownBlock = some b) := fun hb h1 e => by obtain ⟨cs, hc⟩ := own_ty h.vo e; exact ty_ne hb hc h1 rfl
  have low : ∀ b, b < B → ¬ (vo.ownBlock = some b) := fun b hb e => by have := (World.ownsRow.lt h.vo b e).1; omega
  refine ⟨h.ee.kept K low g1, K.own h.tk (fun b e => ?_), ⟨K.heapAt h.tr.box (nF h.tr.box (by decide)), K.own h.tr.own (fun b e => ?_)⟩, h.tbB, h.wl, K.own h.wr (fun b e => ?_), fun i hi => K.own (h.wi i hi) (fun b e => ?_), h.ap1, h.ap2, ho, fun s hs => ?_⟩
  · obtain ⟨cs, hc⟩ := own_ty h.tk e; exact nF hc (by decide)
  · obtain ⟨cs, hc⟩ := own_ty h.tr.own e; exact nF hc (by decide)
  · obtain ⟨cs, hc⟩ := own_ty h.wr e; exact nF hc (by decide)
  · obtain ⟨cs, hc⟩ := own_ty (h.wi i hi) e; exact nF hc (by decide)
  · rcases List.mem_append.1 hs with hs | hs
    · exact ⟨K.row (h.orow s hs).1 (fun b e => low b (Nat.lt_of_lt_of_le ((h.orow s hs).2 b e) g1)), (h.orow s hs).2⟩
    · rw [List.mem_singleton] at hs; subst hs
      exact ⟨K.row hr (fun b e => low b (Nat.lt_of_lt_of_le (hb b e) g1)), hb⟩
/-- The cell of a row of waiting ones. -/
theorem Om.wcell (h : Om rs W5 B m bo bp br tb wb ub rows v ys ws vo os tk w) {p : Nat} (hp : p < ws.length) : w.cell? ⟨wb, p, none⟩ = some (sliceOf ws[p].1) ∧ w.frozen? ⟨wb, p, none⟩ = false := by
  have h' := h.wr
  have hl := h.wl
  refine ⟨?_, h'.frozenAt p⟩
  rw [h'.cellAt p (by omega), List.getElem?_map, List.getElem?_eq_getElem hp]; rfl
/-- One more waits. -/
theorem Om.wait (h : Om rs W5 B m bo bp br tb wb ub rows v ys ws vo os tk w) {p x : Nat} (hp : p < ws.length) {q : Slc} (hg : w.grownBy w' (sliceOf ws[p].1).ownBlock) (ho : OwnN w' B (sliceOf q) (ws[p].2 ++ [x])) (hv : (sliceOf q).ownBlock = (sliceOf ws[p].1).ownBlock ∨ (sliceOf q).ownBlock = some w.heap.size) :
    (w'.cell? ⟨wb, p, none⟩ = some (sliceOf ws[p].1) ∧ w'.frozen? ⟨wb, p, none⟩ = false) ∧ Om rs W5 B m bo bp br tb wb ub rows v ys (ws.set p (q, ws[p].2 ++ [x])) vo os tk (w'.setCell ⟨wb, p, none⟩ (sliceOf q)) := by
  obtain ⟨g1, g2, g3, g4, g5⟩ := h.hB
  have hwl := h.wl
  obtain ⟨cw, hw⟩ := h.wb_ty
  have pty : ∀ b, (sliceOf ws[p].1).ownBlock = some b → ∃ cs, w.heap[b]? = some (.cells cs 3 (0, 0)) := fun b e => own_ty (h.wi p hp) e
  have K1 : Kp (fun b => (sliceOf ws[p].1).ownBlock = some b) w w' := Kp.grown hg (fun b e => e)
  have hwne : ¬ ((sliceOf ws[p].1).ownBlock = some wb) := fun e => by obtain ⟨cs, hc⟩ := pty _ e; exact ty_ne hw hc (by decide) rfl
  have hwr' := K1.own h.wr (fun b e => by injection e with e; subst e; exact hwne)
  have hc1 := h.wcell hp
  have hw' := K1.heapAt hw hwne
  refine ⟨⟨K1.cell hc1.1 hwne, free_row hw'⟩, ?_⟩
  obtain ⟨r1, r2⟩ := hwr'.stored p (sliceOf q)
  have K2 : Kp (fun b => b = wb) w' (w'.setCell ⟨wb, p, none⟩ (sliceOf q)) := Kp.grown r2 (fun b e => by injection e with e; exact e.symm)
  have K : Kp (fun b => (sliceOf ws[p].1).ownBlock = some b ∨ b = wb) w (w'.setCell ⟨wb, p, none⟩ (sliceOf q)) := ⟨K1.below.trans K2.below, fun b hb hF => (K2.block b (Nat.lt_of_lt_of_le hb K1.below.size) (fun e => hF (.inr e))).trans (K1.block b hb (fun e => hF (.inl e)))⟩
  have nF : ∀ {b : Nat} {cs : Array Value} {e : TypeId}, w.heap[b]? = some (.cells cs e (0, 0)) → e ≠ 3 → e ≠ 60 → ¬ ((sliceOf ws[p].1).ownBlock = some b ∨ b = wb) := fun hb h1 h2 hF => by
    rcases hF with e | e
    · obtain ⟨cs, hc⟩ := pty _ e; exact ty_ne hb hc h1 rfl
    · exact ty_ne hb hw h2 e
  have low : ∀ b, b < B → ¬ ((sliceOf ws[p].1).ownBlock = some b ∨ b = wb) := fun b hb hF => by
    rcases hF with e | e
    · have := (World.ownsRow.lt (h.wi p hp) b e).1; omega
    · omega
  have hlen : (ws.set p (q, ws[p].2 ++ [x])).length = ws.length := List.length_set ..
  have hqlt : ∀ b, (sliceOf q).ownBlock = some b → b ≠ wb := fun b e e2 => by
    subst e2
    obtain ⟨cs, hc⟩ := own_ty ho e
    exact ty_ne hw' hc (by decide) rfl
  have hget : ∀ i (hi : i < (ws.set p (q, ws[p].2 ++ [x])).length), (i = p ∧ (ws.set p (q, ws[p].2 ++ [x]))[i] = (q, ws[p].2 ++ [x])) ∨ (i ≠ p ∧ ∃ hi' : i < ws.length, (ws.set p (q, ws[p].2 ++ [x]))[i] = ws[i]) := fun i hi => by
    rw [List.getElem_set]
    by_cases e : p = i
    · subst e; rw [if_pos rfl]; exact .inl ⟨rfl, rfl⟩
    · rw [if_neg e]; exact .inr ⟨fun e2 => e e2.symm, by rw [hlen] at hi; exact hi, rfl⟩
  have qnew : ∀ b, (sliceOf q).ownBlock = some b → (sliceOf ws[p].1).ownBlock = some b ∨ b = w.heap.size := fun b e => by
    rcases hv with hv | hv
    · exact .inl (hv ▸ e)
    · rw [hv] at e; injection e with e; exact .inr e.symm
  refine ⟨h.ee.kept K low g1, K.own h.tk (fun b e => ?_), ⟨K.heapAt h.tr.box (nF h.tr.box (by decide) (by decide)), K.own h.tr.own (fun b e hF => ?_)⟩, h.tbB, by rw [hlen]; exact h.wl, by rw [List.map_set]; exact r1, fun i hi => ?_, fun i hi b e => ?_, fun i j hi hj hne b e => ?_, K.own h.vo (fun b e => ?_), fun r hr => ⟨K.row (h.orow r hr).1 (fun b e => low b (Nat.lt_of_lt_of_le ((h.orow r hr).2 b e) g1)), (h.orow r hr).2⟩⟩
  · obtain ⟨cs, hc⟩ := own_ty h.tk e; exact nF hc (by decide) (by decide)
  · rcases hF with e2 | e2
    · exact h.ap1 p hp b e2 e
    · obtain ⟨cs, hc⟩ := own_ty h.tr.own e; exact ty_ne hc hw (by decide) e2
  · rcases hget i hi with ⟨rfl, e⟩ | ⟨hne, hi', e⟩
    · rw [e]; exact K2.own ho hqlt
    · rw [e]
      refine K.own (h.wi i hi') (fun b eb hF => ?_)
      rcases hF with e2 | e2
      · exact h.ap2 i p hi' hp hne b eb e2
      · obtain ⟨cs, hc⟩ := own_ty (h.wi i hi') eb; exact ty_ne hc hw (by decide) e2
  · rcases hget i hi with ⟨rfl, e1⟩ | ⟨hne, hi', e1⟩
    · rw [e1] at e
      rcases qnew b e with h1 | h1
      · exact h.ap1 _ hp b h1
      · intro e2; have := (World.ownsRow.lt h.tr.own b e2).2; omega
    · rw [e1] at e; exact h.ap1 i hi' b e
  · rcases hget i hi with ⟨rfl, e1⟩ | ⟨hne1, hi', e1⟩
    · rcases hget j hj with ⟨rfl, e2⟩ | ⟨hne2, hj', e2⟩
      · exact absurd rfl hne
      · rw [e1] at e; rw [e2]
        rcases qnew b e with h1 | h1
        · exact h.ap2 _ j hp hj' hne b h1
        · intro e3; have := (World.ownsRow.lt (h.wi j hj') b e3).2; omega
    · rw [e1] at e
      rcases hget j hj with ⟨rfl, e2⟩ | ⟨hne2, hj', e2⟩
      · rw [e2]
        intro e3
        rcases qnew b e3 with h1 | h1
        · exact h.ap2 i _ hi' hp hne b e h1
        · have := (World.ownsRow.lt (h.wi i hi') b e).2; omega
      · rw [e2]; exact h.ap2 i j hi' hj' hne b e
  · obtain ⟨cs, hc⟩ := own_ty h.vo e; exact nF hc (by decide) (by decide)
end
end Go.Proofs.YtjokejcokgeeiaaGreat.Can
