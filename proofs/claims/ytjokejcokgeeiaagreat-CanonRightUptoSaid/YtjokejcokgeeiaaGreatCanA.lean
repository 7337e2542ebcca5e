/- The canonical order (layer 18, canon), plain: which list leads to which; the order; which lists are a possible order of a part; the canonical order is one, and so is each beginning of it. No condition but those in each statement. -/
import Derived.Test.YtjokejcokgeeiaaGreatReg
import Derived.Test.YtjokejcokgeeiaaGreatCpsW
import Derived.Test.YtjokejcokgeeiaaGreatSls
import Derived.Test.YtjokejcokgeeiaaGreatOpen0
import Derived.Deep.DeepCutAuto
import Derived.Deep.QuietTactic
import Derived.BigQuiet
namespace Go.Proofs.YtjokejcokgeeiaaGreat.Can
open Go.RowKit Cmd Bat Ids Rec Wid Gra Rea Cps
set_option linter.unusedVariables false
set_option linter.unusedSimpArgs false

/-- Does a record of one of a have a Dep that is one of b, and not one of a? -/
def leadsG (rs : List Rcd) (a b : List Idn) : Bool := a.any fun x => (dpG rs x).any fun d => decide (d ∈ b) && !decide (d ∈ a)
theorem leads_iff {rs : List Rcd} {a b : List Idn} : leadsG rs a b = true ↔ ∃ x ∈ a, ∃ d ∈ dpG rs x, d ∈ b ∧ d ∉ a := by
  unfold leadsG
  simp only [List.any_eq_true, Bool.and_eq_true, decide_eq_true_eq, Bool.not_eq_true', decide_eq_false_iff_not]
/-- The i-th of those that are left leads to no other one. -/
def freeG (rs : List Rcd) (left : List (List Idn)) (i : Nat) : Bool := (List.range left.length).all fun k => decide (k = i) || !leadsG rs (nthL left i) (nthL left k)
theorem free_iff {rs : List Rcd} {left : List (List Idn)} {i : Nat} : freeG rs left i = true ↔ ∀ k, k < left.length → k ≠ i → leadsG rs (nthL left i) (nthL left k) = false := by
  unfold freeG
  rw [List.all_eq_true]
  constructor
  · intro h k hk hne
    have := h k (List.mem_range.2 hk)
    rw [decide_eq_false hne, Bool.false_or, Bool.not_eq_true'] at this
    exact this
  · intro h k hk
    by_cases e : k = i
    · rw [decide_eq_true e]; rfl
    · rw [h k (List.mem_range.1 hk) e]; simp
/-- Which of those that are left is taken. -/
def atG (rs : List Rcd) (left : List (List Idn)) : Nat := ((List.range left.length).find? fun i => freeG rs left i).getD 0
theorem atG_lt {rs : List Rcd} {left : List (List Idn)} (h : 0 < left.length) : atG rs left < left.length := by
  unfold atG
  cases hf : (List.range left.length).find? fun i => freeG rs left i with
  | none => exact h
  | some i => exact List.mem_range.1 (List.mem_of_find?_eq_some hf)
/-- The order of those that are left (n: how many there are). -/
def orderN (rs : List Rcd) : Nat → List (List Idn) → List (List Idn)
  | 0, _ => []
  | n + 1, left => nthL left (atG rs left) :: orderN rs n (left.eraseIdx (atG rs left))
noncomputable def orderG (rs : List Rcd) : List (List Idn) := orderN rs (ofG rs).length (ofG rs)
theorem orderN_step {rs : List Rcd} {left : List (List Idn)} (h : 0 < left.length) : orderN rs left.length left = nthL left (atG rs left) :: orderN rs (left.eraseIdx (atG rs left)).length (left.eraseIdx (atG rs left)) := by
  have e : (left.eraseIdx (atG rs left)).length = left.length - 1 := List.length_eraseIdx_of_lt (atG_lt h)
  rw [e]
  obtain ⟨n, hn⟩ : ∃ n, left.length = n + 1 := ⟨left.length - 1, by omega⟩
  rw [hn]; rfl
theorem orderN_len (rs : List Rcd) : ∀ (n : Nat) (left : List (List Idn)), (orderN rs n left).length = n
  | 0, _ => rfl
  | n + 1, left => by show (orderN rs n _).length + 1 = _; rw [orderN_len]
/-- Are lists a possible order of a part of the graph? -/
def RightP (rs : List Rcd) (x : List (List Idn)) : Prop := ∀ i, i < x.length → nthL x i ∈ ofG rs ∧ nthL x i ≠ [] ∧ nth (nthL x i) 0 ∉ (x.take i).flatten ∧ ∀ y ∈ nthL x i, ∀ d ∈ dpG rs y, d ∈ (x.take i).flatten ∨ d ∈ nthL x i
open Classical in
noncomputable def rightG (rs : List Rcd) (x : List (List Idn)) : Bool := decide (RightP rs x)
theorem right_iff {rs : List Rcd} {x : List (List Idn)} : rightG rs x = true ↔ RightP rs x := by classical unfold rightG; exact decide_eq_true_iff
theorem right_no {rs : List Rcd} {x : List (List Idn)} (h : ¬ RightP rs x) : rightG rs x = false := by classical unfold rightG; exact decide_eq_false h
theorem right_take {rs : List Rcd} {x : List (List Idn)} (h : RightP rs x) (i : Nat) : RightP rs (x.take i) := fun j hj => by
  rw [List.length_take] at hj
  have e1 : nthL (x.take i) j = nthL x j := nthL_take (by omega)
  have e2 : (x.take i).take j = x.take j := by rw [List.take_take]; congr 1; omega
  rw [e1, e2]; exact h j (by omega)

/-! ### The canonical order is right -/
/-- A component's ids are mutual, and closed. -/
theorem comp_mut {rs : List Rcd} {c : List Idn} (hc : c ∈ ofG rs) {x y : Idn} (hx : x ∈ c) (hy : y ∈ c) : mutG rs x y = true ∧ x ∈ closedG rs := by
  obtain ⟨r, hr, hcl⟩ := (of_parts rs).cls c hc
  exact ⟨mut_trans (show mutG rs x r = true by rw [mut_comm]; exact ((hcl x).1 hx).2) ((hcl y).1 hy).2, all_mem.1 ((hcl x).1 hx).1⟩
theorem comp_in {rs : List Rcd} {c : List Idn} (hc : c ∈ ofG rs) {x y : Idn} (hx : x ∈ c) (hm : mutG rs x y = true) (hy : y ∈ closedG rs) : y ∈ c := by
  obtain ⟨r, hr, hcl⟩ := (of_parts rs).cls c hc
  exact (hcl y).2 ⟨all_mem.2 hy, mut_trans ((hcl x).1 hx).2 hm⟩
theorem comp_some {rs : List Rcd} {c : List Idn} (hc : c ∈ ofG rs) : c ≠ [] := fun e => by
  obtain ⟨r, hr, hcl⟩ := (of_parts rs).cls c hc
  have := (hcl r).2 ⟨hr, mut_self (sortR_mem.1 hr).2⟩
  rw [e] at this; cases this
theorem comp_cov {rs : List Rcd} {x : Idn} (hx : x ∈ closedG rs) : ∃ c ∈ ofG rs, x ∈ c := by
  obtain ⟨i, hi, e⟩ := in_nth (all_mem.2 hx)
  have := (of_parts rs).cov i hi
  rw [e] at this; exact this
theorem closed_dep {rs : List Rcd} {x d : Idn} (hx : x ∈ closedG rs) (hd : d ∈ dpG rs x) : d ∈ closedG rs := closed_mem.2 fun z hz => closed_mem.1 hx z (Rch.trans (.more (.here _) hd) hz)
/-- What is left, of the components: so many are taken. -/
structure Left' (rs : List Rcd) (done left : List (List Idn)) : Prop where
  right : RightP rs done
  of_ : ∀ c ∈ left, c ∈ ofG rs
  cov : ∀ c ∈ ofG rs, c ∈ done ∨ c ∈ left
  apart : ∀ c ∈ left, ∀ x ∈ c, x ∉ done.flatten
  dj : left.Pairwise fun c d => ∀ z, z ∈ c → z ∉ d
theorem from_sub {rs : List Rcd} {a b : List Idn} (h : ∀ z ∈ b, z ∈ fromG rs a) : ∀ z ∈ fromG rs b, z ∈ fromG rs a := fun z hz => by
  obtain ⟨y, hy, hr⟩ := from_mem.1 hz
  obtain ⟨x, hx, hr'⟩ := from_mem.1 (h y hy)
  exact from_mem.2 ⟨x, hx, hr'.trans hr⟩
/-- One that leads to another one reaches more. -/
theorem leads_less {rs : List Rcd} {a b : List Idn} (ha : a ∈ ofG rs) (hb : b ∈ ofG rs) (h : leadsG rs a b = true) : (fromG rs b).length < (fromG rs a).length := by
  obtain ⟨x, hx, d, hd, hdb, hda⟩ := leads_iff.1 h
  have hxd : Rch rs x d := .more (.here _) hd
  have hsub := from_sub (a := a) (b := b) fun z hz => from_mem.2 ⟨x, hx, hxd.trans (mut_iff.1 (comp_mut hb hdb hz).1).2.2.1⟩
  have hxa : x ∈ fromG rs a := from_mem.2 ⟨x, hx, .here x⟩
  have hxb : x ∉ fromG rs b := fun hm => by
    obtain ⟨y, hy, hr⟩ := from_mem.1 hm
    have hdx : Rch rs d x := (mut_iff.1 (comp_mut hb hdb hy).1).2.2.1.trans hr
    have hcx := (comp_mut ha hx hx).2
    have hcd := closed_dep hcx hd
    exact hda (comp_in ha hx (mut_iff.2 ⟨closed_mem.1 hcx x (.here x), closed_mem.1 hcd d (.here d), hxd, hdx⟩) hcd)
  have h1 := nodup_lenI (a := fromG rs b) (b := (fromG rs a).erase x) (rise_nodupI (from_rise rs b)) fun y hy => (List.mem_erase_of_ne (fun e => hxb (by rw [← e]; exact hy))).2 (hsub y hy)
  rw [List.length_erase_of_mem hxa] at h1
  have := List.length_pos_of_mem hxa
  omega
/-- One of those that are left is free. -/
theorem some_free {rs : List Rcd} {left : List (List Idn)} (h : ∀ c ∈ left, c ∈ ofG rs) (h0 : 0 < left.length) : freeG rs left (atG rs left) = true := by
  have ex : ∀ n i, i < left.length → (fromG rs (nthL left i)).length ≤ n → ∃ j, j < left.length ∧ freeG rs left j = true := fun n => by
    induction n with
    | zero =>
      intro i hi hn
      refine ⟨i, hi, free_iff.2 fun k hk hne => ?_⟩
      cases hl : leadsG rs (nthL left i) (nthL left k) with
      | false => rfl
      | true => have := leads_less (h _ (nthL_in hi)) (h _ (nthL_in hk)) hl; omega
    | succ n ih =>
      intro i hi hn
      by_cases hf : freeG rs left i = true
      · exact ⟨i, hi, hf⟩
      · have : ∃ k, k < left.length ∧ k ≠ i ∧ leadsG rs (nthL left i) (nthL left k) = true := Classical.byContradiction fun hno => hf (free_iff.2 fun k hk hne => by
          cases hl : leadsG rs (nthL left i) (nthL left k) with
          | false => rfl
          | true => exact absurd ⟨k, hk, hne, hl⟩ hno)
        obtain ⟨k, hk, -, hl⟩ := this
        have := leads_less (h _ (nthL_in hi)) (h _ (nthL_in hk)) hl
        exact ih k hk (by omega)
  obtain ⟨j, hj, hf⟩ := ex _ 0 h0 (Nat.le_refl _)
  unfold atG
  cases hq : (List.range left.length).find? fun i => freeG rs left i with
  | none => exact absurd hf (List.find?_eq_none.1 hq j (List.mem_range.2 hj))
  | some i => exact List.find?_some (p := fun i => freeG rs left i) hq
theorem mem_eraseIdx {α : Type} {l : List α} {i : Nat} {c : α} (h : c ∈ l.eraseIdx i) : c ∈ l := List.mem_of_mem_eraseIdx h
theorem step_right {rs : List Rcd} {done left : List (List Idn)} (L : Left' rs done left) (h0 : 0 < left.length) : Left' rs (done ++ [nthL left (atG rs left)]) (left.eraseIdx (atG rs left)) := by
  have hat := atG_lt (rs := rs) h0
  have hf := free_iff.1 (some_free L.of_ h0)
  obtain ⟨i, hi⟩ : ∃ i, i = atG rs left := ⟨_, rfl⟩
  rw [← hi] at hat hf ⊢
  have hc := nthL_in hat
  have hof := L.of_ _ hc
  -- what is left, in two parts
  have he : left.eraseIdx i = left.take i ++ left.drop (i + 1) := List.eraseIdx_eq_take_drop_succ left i
  have hs : left = left.take i ++ nthL left i :: left.drop (i + 1) := by
    conv => lhs; rw [← List.take_append_drop i left]
    rw [List.drop_eq_getElem_cons hat]
    congr 2
    unfold nthL; rw [List.getD_eq_getElem?_getD, List.getElem?_eq_getElem hat]; rfl
  have hdj := L.dj
  rw [hs] at hdj
  obtain ⟨d1, d2, d3⟩ := List.pairwise_append.1 hdj
  obtain ⟨d4, d5⟩ := List.pairwise_cons.1 d2
  refine ⟨fun j hj => ?_, fun c hcm => L.of_ c (mem_eraseIdx hcm), fun c hcm => ?_, fun c hcm x hx hxm => ?_, ?_⟩
  · rw [List.length_append, List.length_singleton] at hj
    by_cases hjl : j < done.length
    · rw [nthL_snoc _ _ _ hjl, List.take_append_of_le_length (by omega)]
      exact L.right j hjl
    · obtain rfl : j = done.length := by omega
      have e1 : nthL (done ++ [nthL left i]) done.length = nthL left i := by unfold nthL; rw [List.getD_eq_getElem?_getD]; simp
      have e2 : (done ++ [nthL left i]).take done.length = done := by rw [List.take_append_of_le_length (Nat.le_refl _), List.take_of_length_le (Nat.le_refl _)]
      rw [e1, e2]
      refine ⟨hof, comp_some hof, ?_, fun y hy d hd => ?_⟩
      · refine L.apart _ hc _ (nth_in ?_)
        exact List.length_pos_iff.2 (comp_some hof)
      · have hcd := closed_dep (comp_mut hof hy hy).2 hd
        obtain ⟨e, heof, hde⟩ := comp_cov hcd
        rcases L.cov e heof with h | h
        · exact .inl (List.mem_flatten.2 ⟨e, h, hde⟩)
        · obtain ⟨k, hk, hke⟩ := in_nthL h
          by_cases hki : k = i
          · rw [hki] at hke; rw [hke]; exact .inr hde
          · refine .inr (Classical.byContradiction fun hn => ?_)
            have := hf k hk hki
            rw [hke] at this
            have h2 := leads_iff.2 ⟨y, hy, d, hd, hde, hn⟩
            rw [this] at h2; cases h2
  · rcases L.cov c hcm with h | h
    · exact .inl (List.mem_append_left _ h)
    · rw [hs] at h
      rw [he]
      rcases List.mem_append.1 h with h | h
      · exact .inr (List.mem_append_left _ h)
      · rcases List.mem_cons.1 h with h | h
        · exact .inl (List.mem_append_right _ (List.mem_singleton.2 h))
        · exact .inr (List.mem_append_right _ h)
  · rw [List.flatten_append, List.mem_append] at hxm
    rcases hxm with hxm | hxm
    · exact L.apart c (mem_eraseIdx hcm) x hx hxm
    · rw [List.flatten_cons, List.flatten_nil, List.append_nil] at hxm
      rw [he] at hcm
      rcases List.mem_append.1 hcm with hm | hm
      · exact d3 c hm _ List.mem_cons_self x hx hxm
      · exact d4 c hm x hxm hx
  · rw [he]
    exact List.pairwise_append.2 ⟨d1, d5, fun a ha b hb => d3 a ha b (List.mem_cons_of_mem _ hb)⟩
theorem order_right_n {rs : List Rcd} : ∀ (n : Nat) (done left : List (List Idn)), left.length = n → Left' rs done left → RightP rs (done ++ orderN rs n left)
  | 0, done, left, _, L => by show RightP rs (done ++ []); rw [List.append_nil]; exact L.right
  | n + 1, done, left, hn, L => by
    have h0 : 0 < left.length := by omega
    have h1 : (left.eraseIdx (atG rs left)).length = n := by rw [List.length_eraseIdx_of_lt (atG_lt h0)]; omega
    have := order_right_n n _ _ h1 (step_right L h0)
    rw [List.append_assoc] at this; exact this
theorem order_right (rs : List Rcd) : RightP rs (orderG rs) := by
  have := order_right_n (rs := rs) (ofG rs).length [] (ofG rs) rfl ⟨fun i hi => absurd hi (Nat.not_lt_zero _), fun c hc => hc, fun c hc => .inr hc, fun c hc x hx h => (by cases h), (of_parts rs).dj⟩
  rw [List.nil_append] at this; exact this
theorem order_begin (rs : List Rcd) (i : Nat) : rightG rs ((orderG rs).take i) = true := right_iff.2 (right_take (order_right rs) i)
end Go.Proofs.YtjokejcokgeeiaaGreat.Can

/- What the document's Leads and Flat give (layer 18, canon). Conditions: the records and the lists lie in memory as their cells say; those in each statement. -/
namespace Go.Proofs.YtjokejcokgeeiaaGreat.Can
open Go.RowKit Cmd Bat Ids Rec Wid Gra Rea Cps
set_option linter.unusedVariables false
set_option linter.unusedSimpArgs false

theorem leads_yes {rs : List Rcd} {a b : List Idn} {x d : Idn} (hx : x ∈ a) (hd : d ∈ dpG rs x) (hb : d ∈ b) (ha : d ∉ a) : leadsG rs a b = true := leads_iff.2 ⟨x, hx, d, hd, hb, ha⟩
theorem leads_none {rs : List Rcd} {a b : List Idn} (h : ∀ x ∈ a, ∀ d ∈ dpG rs x, ¬ (d ∈ b ∧ d ∉ a)) : leadsG rs a b = false := by
  cases hl : leadsG rs a b with
  | false => rfl
  | true =>
    obtain ⟨x, hx, d, hd, h1, h2⟩ := leads_iff.1 hl
    exact absurd ⟨h1, h2⟩ (h x hx d hd)
set_option maxRecDepth 100000 in
set_option maxHeartbeats 8000000 in
theorem refleads_any (v u x : Value) (rs : List Rcd) (a b : List Idn) (w : World) (h : layG.Row w v rs) (g : RowAt w u a) (g' : RowAt w x b) :
    Calls Tryz.prog 18 #[v, u, x] w (RetBelow (.bool (leadsG rs a b)) w) := by
  obtain ⟨p, cap, rfl, h1, hd⟩ := h.parts
  have HRW := Lib.hid h
  have HA := Lib.hid g
  have HB := Lib.hid g'
  obtain ⟨n, hn⟩ : ∃ n, n = rs.length := ⟨_, rfl⟩
  rw [← hn] at h1 hd HRW ⊢
  have HN := Lib.hid hn
  obtain ⟨po, co, rfl, hlo, hdo⟩ := Rec.RowAt.parts g
  obtain ⟨m, hm⟩ : ∃ m, m = a.length := ⟨_, rfl⟩
  have HM := Lib.hid hm
  rw [← hm] at hlo hdo HA ⊢
  clear h g g' hn hm
  go_enter Tryz.func18, Tryz.ntmps18
  go_wp2
  go_loopw [7] (fun i wr => ∃ k : Nat, k ≤ m ∧ i = .int .i64 k ∧ Hid (Below w.heap.size w wr) ∧ Hid (∀ x ∈ a.take k, ∀ d ∈ dpG rs x, ¬ (d ∈ b ∧ d ∉ a))) (fun i _ => m - (intOf i).toNat)
  case atStart => exact ⟨0, Nat.zero_le _, rfl, Lib.hid (Below.refl _ _), Lib.hid (fun z hz => by simp at hz)⟩
  case round =>
    obtain ⟨k, hk, rfl, hbW, hS⟩ := hrel
    have k0 : (0 : Int) ≤ k := by omega
    by_cases hkm : k < m
    · have km : (k : Int) < m := by omega
      obtain ⟨B, off, rfl, HC⟩ := hdo.resolve_left (by omega)
      have hkz : k < a.length := by rw [← HM.out]; exact hkm
      obtain ⟨⟨y, z⟩, hxy⟩ : ∃ q, nth a k = q := ⟨_, rfl⟩
      have c0 := (HC.out.on hbW.out).fst k hkz
      have c1 := (HC.out.on hbW.out).snd k hkz
      rw [hxy] at c0 c1
      have hym : (y, z) ∈ a := by rw [← hxy]; exact nth_in hkz
      have HF := Lib.hid (find_any (.slice p n cap) rs y z wr (HRW.out.on hbW.out))
      have hTk : a.take (k + 1) = a.take k ++ [(y, z)] := by rw [take_nth hkz, hxy]
      rcases find_cases rs (y, z) with ⟨j, hj, hje, hjn, hf, hjm⟩ | ⟨hf, hjm⟩
      · obtain ⟨B', off', rfl, HCR⟩ : ∃ B' off', p = some ⟨B', off', none⟩ ∧ Hid (layG.In w B' off' rs) := hd.resolve_left (by rw [HN.out]; omega)
        obtain ⟨⟨⟨x', y'⟩, q, ds, cs⟩, hx⟩ : ∃ t, layG.at rs j = t := ⟨_, rfl⟩
        have hdp : dpG rs (y, z) = ds := by rw [dp_at hj hje hjn, hx]
        obtain ⟨p1, k1, p2, k2, hr, hd1, -⟩ := rcdAt HCR.out hj hx
        have HR := Lib.hid hr
        have HRD : Hid (ds.length = 0 ∨ ∃ B off, p1 = some ⟨B, off, none⟩ ∧ Hid (Row2 w B off ds)) := Lib.hid (by
          obtain ⟨p3, k3, e3, -, h3⟩ := Rec.RowAt.parts hr.rd
          cases e3; exact h3)
        obtain ⟨nd, hnd⟩ : ∃ nd, nd = ds.length := ⟨_, rfl⟩
        rw [← hnd] at HR HRD hd1
        have HDN := Lib.hid hnd
        have HZ := Lib.hid (And.intro hym (And.intro hdp hTk))
        rw [hf] at HF
        have n1 : decide ((j : Int) < 0) = false := decide_eq_false (by omega)
        have jn : (j : Int) < n := by rw [HN.out]; omega
        have j0 : (0 : Int) ≤ j := by omega
        clear hdo hd hxy hkz hf hjm hym hx hje hjn hr hdp hnd hj hTk
        go_wp2_with (first
          | (go_at_call 20; ((with_reducible refine HF.out.mono ?_); rintro e w2 ⟨rfl, hb⟩; have B2 := Lib.hid (hbW.out.trans (hb.mono hbW.out.size)); clear hb)))
        go_loopw [9] (fun i wr => ∃ t : Nat, t ≤ nd ∧ i = .int .i64 t ∧ Hid (∀ d ∈ ds.take t, ¬ (d ∈ b ∧ d ∉ a)) ∧ Hid (Below w.heap.size w wr)) (fun i _ => nd - (intOf i).toNat)
        case atStart => exact ⟨0, Nat.zero_le _, rfl, Lib.hid (fun d hd => by simp at hd), B2⟩
        case round =>
          clear B2 HF c0 c1
          obtain ⟨t, ht, rfl, hT, hb2⟩ := hrel
          have c3 := (HR.out.on hb2.out).c3
          have c3' : wr.cell? ⟨B', off' + j * 5 + 2 + 1, none⟩ = some (.slice p1 nd k1) := c3
          have t0 : (0 : Int) ≤ t := by omega
          by_cases htn : t < nd
          · have tn : (t : Int) < nd := by omega
            obtain ⟨BD, offD, rfl, HCD⟩ := HRD.out.resolve_left (by omega)
            have htl : t < ds.length := by rw [← HDN.out]; exact htn
            obtain ⟨⟨d1, d2⟩, hd12⟩ : ∃ q, nth ds t = q := ⟨_, rfl⟩
            have e0 := (HCD.out.on hb2.out).fst t htl
            have e1 := (HCD.out.on hb2.out).snd t htl
            rw [hd12] at e0 e1
            have HH := Lib.hid (refhas_any x b d1 d2 wr (HB.out.on hb2.out))
            have hdd : (d1, d2) ∈ ds := by rw [← hd12]; exact nth_in htl
            have hTd : ds.take (t + 1) = ds.take t ++ [(d1, d2)] := by rw [take_nth htl, hd12]
            by_cases hin : (d1, d2) ∈ b
            · rw [decide_eq_true hin] at HH
              have HKeep := Lib.hid (fun X (hb : Below wr.heap.size wr X) => And.intro ((HR.out.on (hb2.out.trans (hb.mono hb2.out.size))).c3) (And.intro ((hb.cell (p := ⟨BD, offD + t * 2, none⟩) ((HCD.out.on hb2.out).lt)).trans e0) (And.intro ((hb.cell (p := ⟨BD, offD + t * 2 + 1, none⟩) ((HCD.out.on hb2.out).lt)).trans e1) (refhas_any _ a d1 d2 X (HA.out.on (hb2.out.trans (hb.mono hb2.out.size)))))))
              by_cases hia : (d1, d2) ∈ a
              · rw [decide_eq_true hia] at HKeep
                have HT2 : Hid (∀ d ∈ ds.take (t + 1), ¬ (d ∈ b ∧ d ∉ a)) := Lib.hid fun d hd => by
                  rw [hTd] at hd
                  rcases List.mem_append.1 hd with hd | hd
                  · exact hT.out d hd
                  · rw [List.mem_singleton.1 hd]; exact fun h => h.2 hia
                clear htl hd12 hdd hTd hin hia
                go_wp2_with (first
                  | (go_at_call 34; ((with_reducible refine HH.out.mono ?_); rintro e w3 ⟨rfl, hb⟩; obtain ⟨q3, q4, q5, q6⟩ := HKeep.out w3 hb; have q3' : w3.cell? ⟨B', off' + j * 5 + 2 + 1, none⟩ = some (.slice (some ⟨BD, offD, none⟩) nd k1) := q3; have HH2 := Lib.hid q6; have B3 := Lib.hid (hb2.out.trans (hb.mono hb2.out.size)); clear hb q6 q3))
                  | (go_at_call 34; ((with_reducible refine HH2.out.mono ?_); rintro e w4 ⟨rfl, hb⟩; have B4 := Lib.hid (B3.out.trans (hb.mono B3.out.size)); clear hb)))
                go_roundw
                case rel => exact ⟨t + 1, by omega, by go_num, HT2, B4⟩
                case measure => simp [intOf]; omega
              · rw [decide_eq_false hia] at HKeep
                have HE : Hid (leadsG rs a b = true) := Lib.hid (leads_yes HZ.out.1 (by rw [HZ.out.2.1]; exact hdd) hin hia)
                clear htl hd12 hdd hTd hin hia
                go_wp2_with (first
                  | (go_at_call 34; ((with_reducible refine HH.out.mono ?_); rintro e w3 ⟨rfl, hb⟩; obtain ⟨q3, q4, q5, q6⟩ := HKeep.out w3 hb; have q3' : w3.cell? ⟨B', off' + j * 5 + 2 + 1, none⟩ = some (.slice (some ⟨BD, offD, none⟩) nd k1) := q3; have HH2 := Lib.hid q6; have B3 := Lib.hid (hb2.out.trans (hb.mono hb2.out.size)); clear hb q6 q3))
                  | (go_at_call 34; ((with_reducible refine HH2.out.mono ?_); rintro e w4 ⟨rfl, hb⟩; have B4 := Lib.hid (B3.out.trans (hb.mono B3.out.size)); clear hb)))
                go_ret
                exact ⟨ret_bool HE.out.symm, B4.out⟩
            · rw [decide_eq_false hin] at HH
              have HT2 : Hid (∀ d ∈ ds.take (t + 1), ¬ (d ∈ b ∧ d ∉ a)) := Lib.hid fun d hd => by
                rw [hTd] at hd
                rcases List.mem_append.1 hd with hd | hd
                · exact hT.out d hd
                · rw [List.mem_singleton.1 hd]; exact fun h => hin h.1
              clear htl hd12 hdd hTd hin
              go_wp2_with (first
                | (go_at_call 34; ((with_reducible refine HH.out.mono ?_); rintro e w3 ⟨rfl, hb⟩; have B3 := Lib.hid (hb2.out.trans (hb.mono hb2.out.size)); clear hb)))
              go_roundw
              case rel => exact ⟨t + 1, by omega, by go_num, HT2, B3⟩
              case measure => simp [intOf]; omega
          · have tn : ¬ (t : Int) < nd := by omega
            have HS2 : Hid (∀ x ∈ a.take (k + 1), ∀ d ∈ dpG rs x, ¬ (d ∈ b ∧ d ∉ a)) := Lib.hid fun x hx d hd => by
              rw [HZ.out.2.2] at hx
              rcases List.mem_append.1 hx with hx | hx
              · exact hS.out x hx d hd
              · rw [List.mem_singleton.1 hx, HZ.out.2.1] at hd
                exact hT.out d (by rw [List.take_of_length_le (by rw [← HDN.out]; omega)]; exact hd)
            go_wp2
            go_roundw
            case rel => exact ⟨k + 1, by omega, by go_num, hb2, HS2⟩
            case measure => simp [intOf]; omega
      · rw [hf] at HF
        have n1 : decide ((-1 : Int) < 0) = true := by decide
        have HS2 : Hid (∀ x ∈ a.take (k + 1), ∀ d ∈ dpG rs x, ¬ (d ∈ b ∧ d ∉ a)) := Lib.hid fun x hx d hd => by
          rw [hTk] at hx
          rcases List.mem_append.1 hx with hx | hx
          · exact hS.out x hx d hd
          · rw [List.mem_singleton.1 hx, dp_no hjm] at hd; cases hd
        clear hdo hd hxy hkz hf hjm hym hTk
        go_wp2_with (first
          | (go_at_call 20; ((with_reducible refine HF.out.mono ?_); rintro e w2 ⟨rfl, hb⟩; have B2 := Lib.hid (hbW.out.trans (hb.mono hbW.out.size)); clear hb)))
        go_roundw
        case rel => exact ⟨k + 1, by omega, by go_num, B2, HS2⟩
        case measure => simp [intOf]; omega
    · have km : ¬ (k : Int) < m := by omega
      have HE : Hid (leadsG rs a b = false) := Lib.hid (leads_none fun x hx => hS.out x (by rw [List.take_of_length_le (by rw [← HM.out]; omega)]; exact hx))
      clear hdo hd
      go_wp2
      go_ret
      exact ⟨ret_bool HE.out.symm, hbW.out⟩

/-! ### Rows of ids that grow by any list -/
def layId : Lay Idn := ⟨(0, 0), fun o j => o + j * 2, fun w b o x => w.cell? ⟨b, o, none⟩ = some (.int .i64 x.1) ∧ w.cell? ⟨b, o + 1, none⟩ = some (.int .i64 x.2), fun {w w' b o x} hb h ⟨h1, h2⟩ => ⟨(h.cell (p := ⟨b, o, none⟩) hb).trans h1, (h.cell (p := ⟨b, o + 1, none⟩) hb).trans h2⟩⟩
def wdId : Wd Idn where
  L := layId
  enc x := [.int .i64 x.1, .int .i64 x.2]
  c := 2
  cpos := by decide
  pos o j := rfl
  len _ := rfl
  one x u hu := by
    simp only [List.mem_cons, List.not_mem_nil, or_false] at hu
    rcases hu with rfl | rfl <;> rfl
  lies h := ⟨h 0 _ rfl, h 1 _ rfl⟩
  cells {w b o x} h i u hu := by
    match i, hu with
    | 0, hu => injection hu with hu; subst hu; exact h.1
    | 1, hu => injection hu with hu; subst hu; exact h.2
    | i + 2, hu => simp at hu
theorem wtId : Wt wdId 38 43 (.agg #[.int .i64 0, .int .i64 0]) 16 := ⟨Tryz.underlying38, by kernel_rfl, by kernel_rfl, by kernel_rfl, by decide⟩
theorem own_wd {w : World} {base : Nat} {v : Value} {zs : List Idn} (h : Owns w base v zs) : wdId.Own 43 w base v zs := h
theorem wd_own {w : World} {base : Nat} {v : Value} {zs : List Idn} (h : wdId.Own 43 w base v zs) : Owns w base v zs := h
theorem row_lay {w : World} {v : Value} {zs : List Idn} (h : RowAt w v zs) : layId.Row w v zs := by
  obtain ⟨p, cap, rfl, h1, h2, -, h3⟩ := h
  refine ⟨p, cap, rfl, h1, h2, fun hz => ?_⟩
  obtain ⟨B, off, rfl, hlt, hc⟩ := h3 hz
  refine ⟨B, off, rfl, hlt, fun j hj => ?_⟩
  exact ⟨(hc j hj).1, (hc j hj).2⟩
theorem take_nthL {ls : List (List Idn)} {k : Nat} (h : k < ls.length) : ls.take (k + 1) = ls.take k ++ [nthL ls k] := by
  rw [List.take_succ_eq_append_getElem h]
  unfold nthL
  rw [List.getD_eq_getElem?_getD, List.getElem?_eq_getElem h]; rfl
theorem flat_take_len (ls : List (List Idn)) (k : Nat) : (ls.take k).flatten.length ≤ ls.flatten.length := by
  have e : ls.flatten = (ls.take k).flatten ++ (ls.drop k).flatten := by rw [← List.flatten_append, List.take_append_drop]
  rw [e, List.length_append]; omega
set_option maxRecDepth 100000 in
set_option maxHeartbeats 4000000 in
theorem refflat_any (v : Value) (ls : List (List Idn)) (w : World) (h : layLL.Row w v ls) (hl : ls.flatten.length ≤ 1000000) : Calls Tryz.prog 16 #[v] w (GivesOwned ls.flatten w) := by
  obtain ⟨p, cap, rfl, h1, hd⟩ := h.parts
  obtain ⟨n, hn⟩ : ∃ n, n = ls.length := ⟨_, rfl⟩
  rw [← hn] at h1 hd ⊢
  have HN := Lib.hid hn
  have HL := Lib.hid hl
  have B0 := Lib.hid (Cmd.below_one w (.cells #[] 43))
  have O0 : Hid (Owns (w.alloc (.cells #[] 43)) w.heap.size (.slice (some ⟨w.heap.size, 0, none⟩) 0 0) []) := Lib.hid (Wd.Own.made (D := wdId) _ w (Nat.le_refl _))
  clear h hn hl
  go_enter Tryz.func16, Tryz.ntmps16
  go_wp2
  go_loopw [3, 4] (fun o i wr => ∃ k : Nat, k ≤ n ∧ i = .int .i64 k ∧ Hid (Below w.heap.size w wr) ∧ Hid (Owns wr w.heap.size o (ls.take k).flatten)) (fun _ i _ => n - (intOf i).toNat)
  case atStart => exact ⟨0, Nat.zero_le _, rfl, B0, O0⟩
  case round =>
    obtain ⟨k, hk, rfl, hbW, hO⟩ := hrel
    have k0 : (0 : Int) ≤ k := by omega
    by_cases hkn : k < n
    · have kn : (k : Int) < n := by omega
      obtain ⟨B, off, rfl, HC⟩ := hd.resolve_left (by omega)
      have hkl : k < ls.length := by rw [← HN.out]; exact hkn
      obtain ⟨q, m, hc, hrow⟩ := llAt (HC.out.on hbW.out) hkl
      have hlen : (ls.take k).flatten.length + (nthL ls k).length ≤ 1000000 := by
        have h1 := flat_take_len ls (k + 1)
        rw [take_nthL hkl, List.flatten_append, List.length_append, List.flatten_cons, List.flatten_nil, List.append_nil] at h1
        have := HL.out
        omega
      have HRow := Lib.hid (row_lay hrow)
      have HTk := Lib.hid (take_nthL hkl)
      have HLn := Lib.hid hlen
      clear hd hrow hkl hlen
      go_wp2_with (first
        | (at_builtin; refine wp_wide wtId rfl _ _ rfl w.heap.size _ (ls.take k).flatten rfl (own_wd hO.out) hbW.out.size _ (nthL ls k) rfl HRow.out HLn.out ?_; intro v1 w1 o1 o2 o3; have HO2 := Lib.hid (wd_own o1.out); have HB2 := Lib.hid (hbW.out.trans o2.out); clear o1 o2 o3))
      go_roundw
      case rel => exact ⟨k + 1, by omega, by go_num, HB2, Lib.hid (by rw [HTk.out, List.flatten_append]; have := HO2.out; simpa using this)⟩
      case measure => simp [intOf]; omega
    · have kn : ¬ (k : Int) < n := by omega
      clear hd
      go_wp2
      go_ret
      exact ⟨_, rfl, by have := hO.out; rw [List.take_of_length_le (by rw [← HN.out]; omega)] at this; exact this, hbW.out⟩
end Go.Proofs.YtjokejcokgeeiaaGreat.Can

/- What the document's Order gives (layer 18, canon): the canonical order. Conditions: the records lie in memory as their cells say; not more than 25000 of them, nor of their Deps. (Written by tools/gen_canc.py.) -/
namespace Go.Proofs.YtjokejcokgeeiaaGreat.Can
open Go.RowKit Cmd Bat Ids Rec Wid Gra Rea Cps
set_option linter.unusedVariables false
set_option linter.unusedSimpArgs false

/-! ### Plain: the search for one that is free -/
def upTo (rs : List Rcd) (left : List (List Idn)) (j s : Nat) : Bool := (List.range s).all fun k => decide (k = j) || !leadsG rs (nthL left j) (nthL left k)
theorem upTo_succ (rs : List Rcd) (left : List (List Idn)) (j s : Nat) : upTo rs left j (s + 1) = (upTo rs left j s && (decide (s = j) || !leadsG rs (nthL left j) (nthL left s))) := by
  unfold upTo
  rw [List.range_succ, List.all_append]
  simp
/-- The first free one from the t-th on; 0: there is none. -/
def fromT (rs : List Rcd) (left : List (List Idn)) (t : Nat) : Nat := ((List.range left.length).find? fun i => decide (t ≤ i) && freeG rs left i).getD 0
theorem fromT_zero (rs : List Rcd) (left : List (List Idn)) : fromT rs left 0 = atG rs left := by
  unfold fromT atG
  have e : (fun i => decide (0 ≤ i) && freeG rs left i) = fun i => freeG rs left i := funext fun i => by simp
  rw [e]
theorem fromT_end (rs : List Rcd) (left : List (List Idn)) : fromT rs left left.length = 0 := by
  unfold fromT
  have : (List.range left.length).find? (fun i => decide (left.length ≤ i) && freeG rs left i) = none := by
    rw [List.find?_eq_none]
    intro i hi
    have := List.mem_range.1 hi
    rw [decide_eq_false (by omega)]; simp
  rw [this]; rfl
theorem fromT_yes {rs : List Rcd} {left : List (List Idn)} {j : Nat} (hj : j < left.length) (hf : freeG rs left j = true) : fromT rs left j = j := by
  have : (List.range left.length).find? (fun i => decide (j ≤ i) && freeG rs left i) = some j := by
    rw [List.find?_range_eq_some]
    refine ⟨by rw [hf]; simp, List.mem_range.2 hj, fun i hi => ?_⟩
    rw [decide_eq_false (by omega)]; simp
  unfold fromT
  rw [this]; rfl
theorem fromT_no {rs : List Rcd} {left : List (List Idn)} {j : Nat} (hf : freeG rs left j = false) : fromT rs left j = fromT rs left (j + 1) := by
  unfold fromT
  have e : (fun i => decide (j ≤ i) && freeG rs left i) = fun i => decide (j + 1 ≤ i) && freeG rs left i := funext fun i => by
    by_cases h : i = j
    · subst h; rw [hf]; simp
    · congr 1
      rw [Bool.eq_iff_iff, decide_eq_true_eq, decide_eq_true_eq]; omega
  rw [e]

/-! ### In memory -/
def lenS : Value → Nat
  | .slice _ n _ => n
  | _ => 0
/-- A list of lists is a row of slices, each of which reads as a list. -/
theorem ll_slices {W : World} {v : Value} {L : List (List Idn)} (h : layLL.Row W v L) : ∃ qs : List Slc, qs.length = L.length ∧ laySl.Row W v qs ∧ ∀ j, j < L.length → RowAt W (sliceOf (qs.getD j (none, 0, 0))) (nthL L j) := by
  obtain ⟨p, cap, rfl, h1, h2, h3⟩ := h
  by_cases hz : L = []
  · subst hz
    exact ⟨[], rfl, ⟨p, cap, rfl, h1, h2, fun h => absurd rfl h⟩, fun j hj => absurd hj (Nat.not_lt_zero _)⟩
  · obtain ⟨B, off, rfl, hi⟩ := h3 hz
    obtain ⟨qs, hl, hq⟩ := choose_list ((none, 0, 0) : Slc) L.length (fun i q => W.cell? ⟨B, off + i, none⟩ = some (sliceOf q) ∧ RowAt W (sliceOf q) (nthL L i)) fun i hlt => by
      obtain ⟨q, c, e1, e2⟩ := llAt hi hlt
      exact ⟨(q, _, c), e1, e2⟩
    refine ⟨qs, hl, ⟨_, cap, by rw [hl], by rw [hl]; exact h1, h2, fun _ => ⟨B, off, rfl, hi.lt, fun j hj => ?_⟩⟩, fun j hj => (hq j hj).2⟩
    rw [hl] at hj
    exact (hq j hj).1
/-- Between two rounds of the outer loop: those that are left, at l; those that are taken, at o. -/
structure Lft (W1 : World) (l o : Value) (left done : List (List Idn)) (qs3 qs4 : List Slc) (wr : World) : Prop where
  row : laySl.Row wr l qs3
  len3 : qs3.length = left.length
  el3 : ∀ j, j < left.length → RowAt W1 (sliceOf (qs3.getD j (none, 0, 0))) (nthL left j)
  own : wdSl.Own 38 wr W1.heap.size o qs4
  len4 : qs4.length = done.length
  el4 : ∀ j, j < done.length → RowAt W1 (sliceOf (qs4.getD j (none, 0, 0))) (nthL done j)
  below : Below W1.heap.size W1 wr
  pst : ∀ X, wr.grownBy X o.ownBlock → laySl.Row X l qs3
section
variable {W1 wr : World} {l o : Value} {left done : List (List Idn)} {qs3 qs4 : List Slc}
theorem grown_from {A B C : World} {row : Option Nat} (h : Below A.heap.size A B) (g : B.grownBy C row) : A.grownBy C row :=
  ⟨g.os.trans h.os, g.tape.trans h.tape, g.output.trans h.output, Nat.le_trans h.size g.size, fun k hk hne => (g.block k (Nat.lt_of_lt_of_le hk h.size) hne).trans (h.block k hk)⟩
theorem Lft.on (L : Lft W1 l o left done qs3 qs4 wr) {X : World} (hb : Below wr.heap.size wr X) : Lft W1 l o left done qs3 qs4 X :=
  ⟨L.row.on hb, L.len3, L.el3, Wd.Own.below L.own hb, L.len4, L.el4, L.below.trans (hb.mono L.below.size), fun Y hY => L.pst Y (grown_from hb hY)⟩
theorem Lft.start {v : Value} {L : List (List Idn)} {qs : List Slc} (hl : qs.length = L.length) (hr : laySl.Row W1 v qs) (he : ∀ j, j < L.length → RowAt W1 (sliceOf (qs.getD j (none, 0, 0))) (nthL L j)) :
    Lft W1 v (.slice (some ⟨W1.heap.size, 0, none⟩) 0 0) L [] qs [] (W1.alloc (.cells #[] 38)) := by
  have hb := Cmd.below_one W1 (.cells #[] 38)
  refine ⟨hr.on hb, hl, he, Wd.Own.made _ W1 (Nat.le_refl _), rfl, fun j hj => absurd hj (Nat.not_lt_zero _), hb, fun X hX => hr.on ?_⟩
  exact Below.grown hb hX hb.size (fun k hk => by cases hk; exact Nat.le_refl _)
theorem getD_snoc {qs : List Slc} {q : Slc} {j : Nat} (h : j < qs.length) : (qs ++ [q]).getD j (none, 0, 0) = qs.getD j (none, 0, 0) := by rw [List.getD_eq_getElem?_getD, List.getElem?_append_left h, ← List.getD_eq_getElem?_getD]
theorem getD_erase {α : Type} (l : List α) (d : α) (a j : Nat) (ha : a < l.length) : (l.take a ++ l.drop (a + 1)).getD j d = if j < a then l.getD j d else l.getD (j + 1) d := by
  rw [List.getD_eq_getElem?_getD]
  by_cases h : j < a
  · rw [if_pos h, List.getElem?_append_left (by rw [List.length_take]; omega), List.getElem?_take_of_lt h, ← List.getD_eq_getElem?_getD]
  · rw [if_neg h, List.getElem?_append_right (by rw [List.length_take]; omega), List.length_take, List.getElem?_drop, List.getD_eq_getElem?_getD]
    congr 2
    omega
theorem Lft.next (L : Lft W1 l o left done qs3 qs4 wr) {a : Nat} (ha : a < left.length) {o' v6 : Value} {w6 Y6 : World} (h6 : wdSl.Own 38 w6 W1.heap.size o' (qs4 ++ [qs3.getD a (none, 0, 0)])) (b6 : Below W1.heap.size W1 w6)
    (E : wdSl.Own 38 Y6 w6.heap.size v6 (qs3.take a ++ qs3.drop (a + 1))) (D : Below w6.heap.size w6 Y6) : Lft W1 v6 o' (left.eraseIdx a) (done ++ [nthL left a]) (qs3.take a ++ qs3.drop (a + 1)) (qs4 ++ [qs3.getD a (none, 0, 0)]) Y6 := by
  have e3 : left.eraseIdx a = left.take a ++ left.drop (a + 1) := List.eraseIdx_eq_take_drop_succ left a
  have hl3 := L.len3
  have hlen : (qs3.take a ++ qs3.drop (a + 1)).length = (left.take a ++ left.drop (a + 1)).length := by
    simp only [List.length_append, List.length_take, List.length_drop, hl3]
  refine ⟨Wd.Own.row E, by rw [e3]; exact hlen, fun j hj => ?_, Wd.Own.below h6 D, by simp [L.len4], fun j hj => ?_, b6.trans (D.mono b6.size), fun X hX => ?_⟩
  · rw [e3] at hj ⊢
    rw [List.length_append, List.length_take, List.length_drop] at hj
    unfold nthL
    rw [getD_erase qs3 _ a j (by omega), getD_erase left _ a j ha]
    split
    · exact L.el3 j (by omega)
    · exact L.el3 (j + 1) (by omega)
  · rw [List.length_append, List.length_singleton] at hj
    by_cases h : j < done.length
    · rw [getD_snoc (by rw [L.len4]; exact h), nthL_snoc _ _ _ h]; exact L.el4 j h
    · obtain rfl : j = done.length := by omega
      have q1 : (qs4 ++ [qs3.getD a (none, 0, 0)]).getD done.length (none, 0, 0) = qs3.getD a (none, 0, 0) := by rw [← L.len4, List.getD_eq_getElem?_getD]; simp
      have q2 : nthL (done ++ [nthL left a]) done.length = nthL left a := by unfold nthL; rw [List.getD_eq_getElem?_getD]; simp
      rw [q1, q2]; exact L.el3 a ha
  · have hk : wdSl.Own 38 X w6.heap.size v6 (qs3.take a ++ qs3.drop (a + 1)) := World.ownsRow.kept E hX (.inr fun e => by
      cases hv : v6.ownBlock with
      | none =>
        rw [hv] at e
        rcases h6.2 with ⟨-, h0⟩ | ⟨g, c', cur, rfl, -⟩
        · simp at h0
        · cases e
      | some g =>
        have h1 := (World.ownsRow.lt E g hv).1
        have h2 := (World.ownsRow.lt h6 g (e.symm.trans hv)).2
        omega)
    exact Wd.Own.row hk
theorem Lft.took (L : Lft W1 l o left done qs3 qs4 wr) : layLL.Row wr o done := by
  obtain ⟨p, cap, rfl, h1, h2, h3⟩ := Wd.Own.row L.own
  have hl := L.len4
  refine ⟨p, cap, by rw [hl], by rw [← hl]; exact h1, h2, fun hz => ?_⟩
  obtain ⟨B, off, rfl, hi⟩ := h3 (fun e => hz (by rw [e] at hl; exact List.eq_nil_of_length_eq_zero hl.symm))
  exact ⟨B, off, rfl, hi.lt, fun j hj => ⟨_, hi.cell j (by rw [hl]; exact hj), (L.el4 j hj).on L.below⟩⟩
end
theorem cutw_some (B off cap : Nat) : cutw (some ⟨B, off, none⟩) cap = some ⟨B, off, none⟩ := by
  unfold cutw
  split
  · rfl
  · simp [Addr.add_lit]
theorem cutl_some (B off l cap : Nat) : cutl (some ⟨B, off, none⟩) l cap wdSl.c = if cap = l then some ⟨B, off, none⟩ else some ⟨B, off + l, none⟩ := by
  unfold cutl
  split
  · rfl
  · simp [Addr.add_lit, show wdSl.c = 1 from rfl]
theorem of_count (rs : List Rcd) : (ofG rs).length ≤ rs.length := Nat.le_trans (ofL_len rs (allR rs) _) (allR_len rs)
set_option maxRecDepth 100000 in
set_option maxHeartbeats 16000000 in
theorem reforder_any (v : Value) (rs : List Rcd) (w : World) (h : layG.Row w v rs) (hl : (depsG rs).length ≤ 25000) (hl' : rs.length ≤ 25000) : Calls Tryz.prog 11 #[v] w (GivesLL (orderG rs) w) := by
  have HV := Lib.hid h
  have HOf := Lib.hid (refof_any v rs w h hl hl')
  have HNo : Hid ((ofG rs).length ≤ 25000) := Lib.hid (Nat.le_trans (of_count rs) hl')
  clear h hl hl'
  go_enter Tryz.func11, Tryz.ntmps11
  go_wp2_with (first
    | (go_at_call 28; ((with_reducible refine HOf.out.mono ?_); rintro e W1 ⟨u, rfl, hr, hb⟩; have HR1 := Lib.hid hr; have HB1 := Lib.hid hb; clear hr hb)))
  obtain ⟨qs0, hq0, hrow0, hel0⟩ := ll_slices HR1.out
  have HL0 := Lib.hid (Lft.start hq0 hrow0 hel0)
  clear hq0 hrow0 hel0
  go_loopw [3, 4] (fun l o wr => ∃ (left done : List (List Idn)) (qs3 qs4 : List Slc), Hid (Lft W1 l o left done qs3 qs4 wr) ∧ Hid (done ++ orderN rs left.length left = orderG rs) ∧ Hid (left.length + done.length ≤ 25000)) (fun l _ _ => lenS l)
  case atStart => exact ⟨ofG rs, [], qs0, [], HL0, Lib.hid rfl, Lib.hid (by have := HNo.out; simp; omega)⟩
  case round =>
    clear HL0
    obtain ⟨left, done, qs3, qs4, HL, HO, HSm0⟩ := hrel
    obtain ⟨p3, cap3, rfl, hc1, hc2, g3⟩ := HL.out.row
    obtain ⟨m, hm⟩ : ∃ m, m = qs3.length := ⟨_, rfl⟩
    have HQ3 : Hid (qs3.length = m) := Lib.hid hm.symm
    have HLl : Hid (left.length = m) := Lib.hid (by rw [hm, HL.out.len3])
    rw [← hm] at HL hc1 ⊢
    have HSm : Hid (m + done.length ≤ 25000) := Lib.hid (by have := HSm0.out; rw [HLl.out] at this; exact this)
    clear hm HSm0
    by_cases hm0 : 0 < m
    · obtain ⟨B3, off3, rfl, HI⟩ := g3 (fun e => by have := HQ3.out; rw [e] at this; simp at this; omega)
      have HI := Lib.hid HI
      have m0' : (0 : Int) < m := by omega
      have kw : IntKind.i64.wrap ((m : Int) - 1) = (m : Int) - 1 := IntWalk.i64_in _ (by omega)
      have HCell : Hid (∀ (X : World), Below wr.heap.size wr X → ∀ j, j < m → X.cell? ⟨B3, off3 + j, none⟩ = some (sliceOf (qs3.getD j (none, 0, 0)))) := Lib.hid fun X hb j hj => by
        exact (HI.out.on hb).cell j (by rw [HQ3.out]; exact hj)
      have HEl : Hid (∀ (X : World), Below wr.heap.size wr X → ∀ j, j < m → RowAt X (sliceOf (qs3.getD j (none, 0, 0))) (nthL left j)) := Lib.hid fun X hb j hj => (HL.out.el3 j (by rw [HLl.out]; exact hj)).on (HL.out.below.trans (hb.mono HL.out.below.size))
      clear g3
      go_wp2
      obtain ⟨wO, hwO⟩ : ∃ wO, wO = wr := ⟨_, rfl⟩
      rw [← hwO] at HL HI HCell HEl ⊢
      clear hwO
      go_loopw [5, 6] (fun a i wr => ∃ (t : Nat) (x : Int), t ≤ m ∧ x = (t : Int) - 1 ∧ i = .int .i64 x ∧ a = .int .i64 ((fromT rs left t : Nat) : Int) ∧ Hid (Below wO.heap.size wO wr)) (fun _ i _ => (intOf i + 1).toNat)
      case atStart => exact ⟨m, (m : Int) - 1, Nat.le_refl _, rfl, rfl, by rw [← HLl.out, fromT_end]; rfl, Lib.hid (Below.refl _ _)⟩
      case round =>
        obtain ⟨t, x, ht, hx, rfl, rfl, HBw⟩ := hrel
        by_cases ht0 : 0 < t
        · obtain ⟨j, hj⟩ : ∃ j : Nat, x = (j : Int) := ⟨t - 1, by omega⟩
          subst hj
          have HT : Hid (t = j + 1) := Lib.hid (by omega)
          have jm : (j : Int) < m := by omega
          have jmn : j < m := by omega
          have j0 : (0 : Int) ≤ j := by omega
          have kw2 : IntKind.i64.wrap ((j : Int) - 1) = (j : Int) - 1 := IntWalk.i64_in _ (by omega)
          obtain ⟨fa, hfa⟩ : ∃ fa, fa = fromT rs left t := ⟨_, rfl⟩
          have HFa := Lib.hid hfa
          rw [← hfa]
          obtain ⟨⟨p1, n1, c1⟩, hq1⟩ : ∃ q, qs3.getD j (none, 0, 0) = q := ⟨_, rfl⟩
          have HQ1 := Lib.hid hq1
          clear hx ht ht0 hfa hq1
          go_wp2
          obtain ⟨wI, hwI⟩ : ∃ wI, wI = wr := ⟨_, rfl⟩
          rw [← hwI] at HBw ⊢
          clear hwI
          go_loopw [7, 8] (fun f k wr => ∃ s : Nat, s ≤ m ∧ k = .int .i64 s ∧ f = .bool (upTo rs left j s) ∧ Hid (Below wI.heap.size wI wr)) (fun _ k _ => m - (intOf k).toNat)
          case atStart => exact ⟨0, Nat.zero_le _, rfl, rfl, Lib.hid (Below.refl _ _)⟩
          case round =>
            obtain ⟨s, hs, rfl, rfl, HBk⟩ := hrel
            have s0 : (0 : Int) ≤ s := by omega
            have HBs := Lib.hid (HBw.out.trans (HBk.out.mono HBw.out.size))
            by_cases hsm : s < m
            · have sm : (s : Int) < m := by omega
              obtain ⟨ub, hub⟩ : ∃ ub, ub = upTo rs left j s := ⟨_, rfl⟩
              have HUb := Lib.hid hub
              rw [← hub]
              clear hub
              cases ub
              · go_wp2
                go_quiet (fail)
                go_wp2
                go_roundw
                case rel => exact ⟨s + 1, by omega, by go_num, by rw [upTo_succ, ← HUb.out]; rfl, Lib.hid (HBk.out.trans ((Ids.below_draws _ _).mono HBk.out.size))⟩
                case measure => simp [intOf]; omega
              · by_cases e : s = j
                · have hq : ((s : Int) == (j : Int)) = true := beq_iff_eq.2 (by omega)
                  have HE := Lib.hid e
                  clear e
                  go_wp2
                  go_quiet (fail)
                  go_wp2
                  go_roundw
                  case rel => exact ⟨s + 1, by omega, by go_num, by rw [upTo_succ, ← HUb.out, decide_eq_true HE.out]; rfl, Lib.hid (HBk.out.trans ((Ids.below_draws _ _).mono HBk.out.size))⟩
                  case measure => simp [intOf]; omega
                · have hq : ((s : Int) == (j : Int)) = false := beq_eq_false_iff_ne.2 (by omega)
                  have HE := Lib.hid e
                  obtain ⟨⟨p2, n2, c2⟩, hq2⟩ : ∃ q, qs3.getD s (none, 0, 0) = q := ⟨_, rfl⟩
                  have HS : Hid (∀ w', Below wr.heap.size wr w' → w'.cell? ⟨B3, off3 + j, none⟩ = some (.slice p1 n1 c1) ∧ w'.cell? ⟨B3, off3 + s, none⟩ = some (.slice p2 n2 c2)) := Lib.hid fun w' hb => by
                    have h1 := HCell.out w' (HBs.out.trans (hb.mono HBs.out.size)) j jmn
                    have h2 := HCell.out w' (HBs.out.trans (hb.mono HBs.out.size)) s hsm
                    rw [HQ1.out] at h1
                    rw [hq2] at h2
                    exact ⟨h1, h2⟩
                  have HLd := Lib.hid (fun X (hb : Below wr.heap.size wr X) => by
                    have h1 := HEl.out X (HBs.out.trans (hb.mono HBs.out.size)) j jmn
                    have h2 := HEl.out X (HBs.out.trans (hb.mono HBs.out.size)) s hsm
                    rw [HQ1.out] at h1
                    rw [hq2] at h2
                    exact refleads_any v (.slice p1 n1 c1) (.slice p2 n2 c2) rs _ _ X (HV.out.on (HB1.out.trans ((HL.out.below.trans ((HBs.out.trans (hb.mono HBs.out.size)).mono HL.out.below.size)).mono HB1.out.size))) h1 h2)
                  obtain ⟨lb, hlb⟩ : ∃ lb, lb = leadsG rs (nthL left j) (nthL left s) := ⟨_, rfl⟩
                  have HLb := Lib.hid hlb
                  rw [← hlb] at HLd
                  have D0 : Hid (Below wr.heap.size wr wr.drew) := Lib.hid (Below.refl _ _).drew
                  clear hlb hq2 e
                  go_upto_region 11 with fail
                  refine wp_region_held_drew (S := (fun w' => w'.cell? ⟨B3, off3 + j, none⟩ = some (.slice p1 n1 c1) ∧ w'.cell? ⟨B3, off3 + s, none⟩ = some (.slice p2 n2 c2))) (by kernel_rfl) (HS.out _ D0.out) (fun hHeld => ?_)
                  generalize wr.drew = Y0 at D0 hHeld ⊢
                  refine ty (v := ?_) 0 (fun w hSw => ?_) ?_
                  rotate_left
                  · (try dsimp only at hSw); go_simp; (try with_reducible rfl)
                  try simp only [List.getElem_toArray, List.getElem_cons_succ, List.getElem_cons_zero, Act.put, List.setIfInBounds_toArray, List.set_cons_zero, List.set_cons_succ]
                  refine ty (v := ?_) 1 (fun w hSw => ?_) ?_
                  rotate_left
                  · (try dsimp only at hSw); go_simp; (try with_reducible rfl)
                  try simp only [List.getElem_toArray, List.getElem_cons_succ, List.getElem_cons_zero, Act.put, List.setIfInBounds_toArray, List.set_cons_zero, List.set_cons_succ]
                  refine ty (v := ?_) 2 (fun w hSw => ?_) ?_
                  rotate_left
                  · (try dsimp only at hSw); go_simp; (try with_reducible rfl)
                  try simp only [List.getElem_toArray, List.getElem_cons_succ, List.getElem_cons_zero, Act.put, List.setIfInBounds_toArray, List.set_cons_zero, List.set_cons_succ]
                  refine ty (v := ?_) 3 (fun w hSw => ?_) ?_
                  rotate_left
                  · (try dsimp only at hSw); go_simp; (try with_reducible rfl)
                  try simp only [List.getElem_toArray, List.getElem_cons_succ, List.getElem_cons_zero, Act.put, List.setIfInBounds_toArray, List.set_cons_zero, List.set_cons_succ]
                  refine ty (v := ?_) 4 (fun w hSw => ?_) ?_
                  rotate_left
                  · (try dsimp only at hSw); go_simp; (try with_reducible rfl)
                  try simp only [List.getElem_toArray, List.getElem_cons_succ, List.getElem_cons_zero, Act.put, List.setIfInBounds_toArray, List.set_cons_zero, List.set_cons_succ]
                  refine ty (v := ?_) 5 (fun w hSw => ?_) ?_
                  rotate_left
                  · (try dsimp only at hSw); go_simp; (try with_reducible rfl)
                  try simp only [List.getElem_toArray, List.getElem_cons_succ, List.getElem_cons_zero, Act.put, List.setIfInBounds_toArray, List.set_cons_zero, List.set_cons_succ]
                  refine ty (v := ?_) 6 (fun w hSw => ?_) ?_
                  rotate_left
                  · (try dsimp only at hSw); go_simp; (try with_reducible rfl)
                  try simp only [List.getElem_toArray, List.getElem_cons_succ, List.getElem_cons_zero, Act.put, List.setIfInBounds_toArray, List.set_cons_zero, List.set_cons_succ]
                  refine ty (v := ?_) 7 (fun w hSw => ?_) ?_
                  rotate_left
                  · (try dsimp only at hSw); go_simp; (try with_reducible rfl)
                  try simp only [List.getElem_toArray, List.getElem_cons_succ, List.getElem_cons_zero, Act.put, List.setIfInBounds_toArray, List.set_cons_zero, List.set_cons_succ]
                  refine ty (v := ?_) 8 (fun w hSw => ?_) ?_
                  rotate_left
                  · (try dsimp only at hSw); go_simp; (try with_reducible rfl)
                  try simp only [List.getElem_toArray, List.getElem_cons_succ, List.getElem_cons_zero, Act.put, List.setIfInBounds_toArray, List.set_cons_zero, List.set_cons_succ]
                  refine ty (v := ?_) 9 (fun w hSw => ?_) ?_
                  rotate_left
                  · (try dsimp only at hSw); go_simp; (try with_reducible rfl)
                  try simp only [List.getElem_toArray, List.getElem_cons_succ, List.getElem_cons_zero, Act.put, List.setIfInBounds_toArray, List.set_cons_zero, List.set_cons_succ]
                  refine ty (v := ?_) 10 (fun w hSw => ?_) ?_
                  rotate_left
                  · (try dsimp only at hSw); go_simp; (try with_reducible rfl)
                  try simp only [List.getElem_toArray, List.getElem_cons_succ, List.getElem_cons_zero, Act.put, List.setIfInBounds_toArray, List.set_cons_zero, List.set_cons_succ]
                  refine ty (v := ?_) 11 (fun w hSw => ?_) ?_
                  rotate_left
                  · (try dsimp only at hSw); go_simp; (try with_reducible rfl)
                  try simp only [List.getElem_toArray, List.getElem_cons_succ, List.getElem_cons_zero, Act.put, List.setIfInBounds_toArray, List.set_cons_zero, List.set_cons_succ]
                  refine ty (v := ?_) 12 (fun w hSw => ?_) ?_
                  rotate_left
                  · (try dsimp only at hSw); go_simp; (try with_reducible rfl)
                  try simp only [List.getElem_toArray, List.getElem_cons_succ, List.getElem_cons_zero, Act.put, List.setIfInBounds_toArray, List.set_cons_zero, List.set_cons_succ]
                  refine ty (v := ?_) 13 (fun w hSw => ?_) ?_
                  rotate_left
                  · (try dsimp only at hSw); go_simp; (try with_reducible rfl)
                  try simp only [List.getElem_toArray, List.getElem_cons_succ, List.getElem_cons_zero, Act.put, List.setIfInBounds_toArray, List.set_cons_zero, List.set_cons_succ]
                  refine ty (v := ?_) 14 (fun w hSw => ?_) ?_
                  rotate_left
                  · (try dsimp only at hSw); go_simp; (try with_reducible rfl)
                  try simp only [List.getElem_toArray, List.getElem_cons_succ, List.getElem_cons_zero, Act.put, List.setIfInBounds_toArray, List.set_cons_zero, List.set_cons_succ]
                  refine tr 15 (fun K hK => ?_)
                  go_simp
                  (go_at_call 18; ((with_reducible refine (HLd.out _ D0.out).mono ?_); rintro e w1 ⟨rfl, hb⟩; have D1 := Lib.hid (D0.out.trans (hb.mono D0.out.size)); clear hb))
                  refine hK.out _ _ ?_ (fun hHeld => ?_)
                  · exact HS.out _ D1.out
                  clear hK K
                  try simp only [List.getElem_toArray, List.getElem_cons_succ, List.getElem_cons_zero, Act.put, List.setIfInBounds_toArray, List.set_cons_zero, List.set_cons_succ]
                  refine ty (v := ?_) 16 (fun w hSw => ?_) ?_
                  rotate_left
                  · (try dsimp only at hSw); go_simp; (try with_reducible rfl)
                  try simp only [List.getElem_toArray, List.getElem_cons_succ, List.getElem_cons_zero, Act.put, List.setIfInBounds_toArray, List.set_cons_zero, List.set_cons_succ]
                  refine ty (v := ?_) 17 (fun w hSw => ?_) ?_
                  rotate_left
                  · (try dsimp only at hSw); go_simp; (try with_reducible rfl)
                  try simp only [List.getElem_toArray, List.getElem_cons_succ, List.getElem_cons_zero, Act.put, List.setIfInBounds_toArray, List.set_cons_zero, List.set_cons_succ]
                  refine ty (v := ?_) 18 (fun w hSw => ?_) ?_
                  rotate_left
                  · (try dsimp only at hSw); go_simp; (try with_reducible rfl)
                  try simp only [List.getElem_toArray, List.getElem_cons_succ, List.getElem_cons_zero, Act.put, List.setIfInBounds_toArray, List.set_cons_zero, List.set_cons_succ]
                  refine ty (v := ?_) 19 (fun w hSw => ?_) ?_
                  rotate_left
                  · (try dsimp only at hSw); go_simp; (try with_reducible rfl)
                  try simp only [List.getElem_toArray, List.getElem_cons_succ, List.getElem_cons_zero, Act.put, List.setIfInBounds_toArray, List.set_cons_zero, List.set_cons_succ]
                  refine wpAnyH_done (by kernel_rfl) ?_ _
                  go_wp2
                  go_roundw
                  case rel => exact ⟨s + 1, by omega, by go_num, by rw [upTo_succ, ← HUb.out, ← HLb.out, decide_eq_false HE.out]; cases lb <;> rfl, Lib.hid (HBk.out.trans (D1.out.mono HBk.out.size))⟩
                  case measure => simp [intOf]; omega
            · have sm : ¬ (s : Int) < m := by omega
              obtain ⟨ub, hub⟩ : ∃ ub, ub = upTo rs left j s := ⟨_, rfl⟩
              have HUb : Hid (ub = freeG rs left j) := Lib.hid (by rw [hub, show s = left.length by rw [HLl.out]; omega]; rfl)
              rw [← hub]
              clear hub
              cases ub
              · go_wp2
                go_roundw
                case rel => exact ⟨j, (j : Int) - 1, by have := jmn; omega, rfl, rfl, by rw [HFa.out, HT.out, fromT_no HUb.out.symm], HBs⟩
                case measure => simp [intOf] <;> omega
              · go_wp2
                go_roundw
                case rel => exact ⟨j, (j : Int) - 1, by have := jmn; omega, rfl, rfl, by rw [fromT_yes (by rw [HLl.out]; exact jmn) HUb.out.symm], HBs⟩
                case measure => simp [intOf] <;> omega
        · obtain rfl : t = 0 := by omega
          have xn : ¬ (0 : Int) ≤ x := by omega
          clear hx ht
          obtain ⟨a, hat⟩ : ∃ a, a = fromT rs left 0 := ⟨_, rfl⟩
          have HAt : Hid (a = atG rs left) := Lib.hid (by rw [hat, fromT_zero])
          have HAm : Hid (a < m) := Lib.hid (by rw [HAt.out, ← HLl.out]; exact atG_lt (by rw [HLl.out]; exact hm0))
          rw [← hat]
          have a0 : (0 : Int) ≤ a := by omega
          have am : (a : Int) < m := by have := HAm.out; omega
          have ka : IntKind.i64.wrap ((a : Int) + 1) = (a : Int) + 1 := IntWalk.i64_in _ (by omega)
          obtain ⟨⟨p1, n1, c1⟩, hq1⟩ : ∃ q, qs3.getD a (none, 0, 0) = q := ⟨_, rfl⟩
          have c0 : wr.cell? ⟨B3, off3 + a, none⟩ = some (.slice p1 n1 c1) := by
            have := HCell.out wr HBw.out a HAm.out
            rw [hq1] at this; exact this
          have HQ1 := Lib.hid hq1
          have HLr := Lib.hid (HL.out.on HBw.out)
          have hb1 := Cmd.below_one wr (.cells #[.slice p1 n1 c1] 38)
          have HO1 := Lib.hid (Wd.Own.below HLr.out.own hb1)
          have HU1 := Lib.hid (Wd.lone (D := wdSl) 38 wr (p1, n1, c1) #[.slice p1 n1 c1] rfl)
          have HB1' := Lib.hid (show W1.heap.size ≤ (wr.alloc (.cells #[.slice p1 n1 c1] 38)).heap.size by have := HLr.out.below.size; simp; omega)
          have HBb := Lib.hid hb1
          have HLen : Hid (qs4.length + [((p1, n1, c1) : Slc)].length ≤ 1000000) := Lib.hid (by have := HSm.out; have := HLr.out.len4; simp; omega)
          clear hat hq1 hb1
          go_wp2_with (first
            | (at_builtin; go_loud (refine wp_wide wtSl rfl _ _ rfl W1.heap.size _ qs4 rfl HO1.out HB1'.out _ [(p1, n1, c1)] rfl HU1.out HLen.out ?_; intro v4 X00 o1 o2 o3; have HO6 := Lib.hid o1.out; have HB6 := Lib.hid ((HLr.out.below.trans (HBb.out.mono HLr.out.below.size)).trans o2.out); have HRow6 := Lib.hid ((HLr.out.on HBb.out).pst X00 o3.out); clear o1 o2 o3)))
          have HDx : Hid (Below X00.heap.size X00 X00.drew) := Lib.hid (Below.refl _ _).drew
          have HR3 : Hid (laySl.Row X00.drew (.slice (some ⟨B3, off3, none⟩) m cap3) qs3) := Lib.hid (HRow6.out.on HDx.out)
          have hac : a ≤ cap3 := by have := HAm.out; omega
          have hlo : (0 : Int) ≤ (a : Int) + 1 ∧ (a : Int) + 1 ≤ m := ⟨by omega, by omega⟩
          have HRt : Hid (∀ X, Below X00.drew.heap.size X00.drew X → laySl.Row X (.slice (some ⟨B3, off3, none⟩) a cap3) (qs3.take a)) := Lib.hid fun X hb => by
            have := row_first (HR3.out.on hb) a (by rw [HQ3.out]; have := HAm.out; omega)
            rwa [cutw_some] at this
          have HRd : Hid (∀ X, Below X00.drew.heap.size X00.drew X → laySl.Row X (.slice (if cap3 = a + 1 then some ⟨B3, off3, none⟩ else some ⟨B3, off3 + (a + 1), none⟩) (m - (a + 1)) (cap3 - (a + 1))) (qs3.drop (a + 1))) := Lib.hid fun X hb => by
            have := row_drop (D := wdSl) (HR3.out.on hb) (a + 1) (by rw [HQ3.out]; have := HAm.out; omega)
            rwa [cutl_some] at this
          have HO7 : Hid (wdSl.Own 38 X00.drew W1.heap.size v4 (qs4 ++ [(p1, n1, c1)])) := Lib.hid (Wd.Own.below HO6.out HDx.out)
          have HB7 : Hid (Below W1.heap.size W1 X00.drew) := Lib.hid (HB6.out.trans (HDx.out.mono HB6.out.size))
          clear HR3
          refine wp_region_held_drew (S := (fun _ => True)) (by kernel_rfl) trivial (fun hHeld => ?_)
          generalize X00.drew = X0 at HDx HRt HRd HO7 HB7 hHeld ⊢
          refine ty (v := ?_) 1 (fun w hSw => ?_) ?_
          rotate_left
          · (try dsimp only at hSw); go_simp; (try with_reducible rfl)
          try simp only [List.getElem_toArray, List.getElem_cons_succ, List.getElem_cons_zero, Act.put, List.setIfInBounds_toArray, List.set_cons_zero, List.set_cons_succ]
          refine ty (v := ?_) 2 (fun w hSw => ?_) ?_
          rotate_left
          · (try dsimp only at hSw); go_simp; (try with_reducible rfl)
          try simp only [List.getElem_toArray, List.getElem_cons_succ, List.getElem_cons_zero, Act.put, List.setIfInBounds_toArray, List.set_cons_zero, List.set_cons_succ]
          refine ty (v := ?_) 3 (fun w hSw => ?_) ?_
          rotate_left
          · (try dsimp only at hSw); go_simp; (try with_reducible rfl)
          try simp only [List.getElem_toArray, List.getElem_cons_succ, List.getElem_cons_zero, Act.put, List.setIfInBounds_toArray, List.set_cons_zero, List.set_cons_succ]
          refine ty (v := ?_) 5 (fun w hSw => ?_) ?_
          rotate_left
          · (try dsimp only at hSw); go_simp; (try with_reducible rfl)
          try simp only [List.getElem_toArray, List.getElem_cons_succ, List.getElem_cons_zero, Act.put, List.setIfInBounds_toArray, List.set_cons_zero, List.set_cons_succ]
          refine ty (v := ?_) 6 (fun w hSw => ?_) ?_
          rotate_left
          · (try dsimp only at hSw); go_simp; (try with_reducible rfl)
          try simp only [List.getElem_toArray, List.getElem_cons_succ, List.getElem_cons_zero, Act.put, List.setIfInBounds_toArray, List.set_cons_zero, List.set_cons_succ]
          refine ty (v := ?_) 7 (fun w hSw => ?_) ?_
          rotate_left
          · (try dsimp only at hSw); go_simp; (try with_reducible rfl)
          try simp only [List.getElem_toArray, List.getElem_cons_succ, List.getElem_cons_zero, Act.put, List.setIfInBounds_toArray, List.set_cons_zero, List.set_cons_succ]
          refine ty (v := ?_) 8 (fun w hSw => ?_) ?_
          rotate_left
          · (try dsimp only at hSw); go_simp; (try with_reducible rfl)
          try simp only [List.getElem_toArray, List.getElem_cons_succ, List.getElem_cons_zero, Act.put, List.setIfInBounds_toArray, List.set_cons_zero, List.set_cons_succ]
          refine tr 0 (fun K hK => ?_)
          go_simp
          have hb := Cmd.below_one X0 (.cells #[] 38); have E1 := Lib.hid (Wd.Own.made (D := wdSl) 38 X0 (Nat.le_refl _)); have D1 := Lib.hid hb; clear hb
          refine hK.out _ _ ?_ (fun hHeld => ?_)
          · trivial
          clear hK K
          try simp only [List.getElem_toArray, List.getElem_cons_succ, List.getElem_cons_zero, Act.put, List.setIfInBounds_toArray, List.set_cons_zero, List.set_cons_succ]
          refine tr 4 (fun K hK => ?_)
          refine step_wide wtSl (by rfl) (.tmp 56) (.tmp 59) (by rfl) X0.heap.size _ [] (by rfl) E1.out (by simp) _ (qs3.take a) (by rfl) (HRt.out _ D1.out) (by have := HSm.out; have := HQ3.out; rw [List.length_take]; simp; omega) (fun v5 Y5 o1 o2 o3 => ?_)
          have E2 := Lib.hid o1.out
          have D2 := Lib.hid (D1.out.trans o2.out)
          clear o1 o2 o3
          refine hK.out _ _ ?_ (fun hHeld => ?_)
          · trivial
          clear hK K
          try simp only [List.getElem_toArray, List.getElem_cons_succ, List.getElem_cons_zero, Act.put, List.setIfInBounds_toArray, List.set_cons_zero, List.set_cons_succ]
          refine tr 9 (fun K hK => ?_)
          refine step_wide wtSl (by rfl) (.tmp 60) (.tmp 64) (by rfl) X0.heap.size v5 _ (by rfl) E2.out D2.out.size _ (qs3.drop (a + 1)) (by rfl) (HRd.out _ D2.out) (by have := HSm.out; have := HQ3.out; simp; omega) (fun v6 Y6 o1 o2 o3 => ?_)
          have E3 := Lib.hid o1.out
          have D3 := Lib.hid (D2.out.trans o2.out)
          clear o1 o2 o3
          refine hK.out _ _ ?_ (fun hHeld => ?_)
          · trivial
          clear hK K
          try simp only [List.getElem_toArray, List.getElem_cons_succ, List.getElem_cons_zero, Act.put, List.setIfInBounds_toArray, List.set_cons_zero, List.set_cons_succ]
          refine ty (v := ?_) 10 (fun w hSw => ?_) ?_
          rotate_left
          · (try dsimp only at hSw); go_simp; (try with_reducible rfl)
          try simp only [List.getElem_toArray, List.getElem_cons_succ, List.getElem_cons_zero, Act.put, List.setIfInBounds_toArray, List.set_cons_zero, List.set_cons_succ]
          refine wpAnyH_done (by kernel_rfl) ?_ _
          go_wp2
          go_roundw
          case rel =>
            have hal : a < left.length := by rw [HLl.out]; exact HAm.out
            have h6 := HO7.out
            rw [← HQ1.out] at h6
            have E := E3.out
            rw [List.nil_append] at E
            refine ⟨left.eraseIdx a, done ++ [nthL left a], _, _, Lib.hid (HL.out.next hal h6 HB7.out E D3.out), Lib.hid ?_, Lib.hid ?_⟩
            · have hst := orderN_step (rs := rs) (left := left) (by omega)
              rw [← HAt.out] at hst
              rw [← HO.out, hst, List.append_assoc]; rfl
            · have := HSm.out
              rw [List.length_eraseIdx_of_lt hal, HLl.out, List.length_append, List.length_singleton]; omega
          case measure =>
            obtain ⟨p9, c9, rfl, -⟩ := Wd.Own.row E3.out
            have h1 := HQ3.out
            have h2 := HAm.out
            show _ < m
            show ([] ++ List.take a qs3 ++ List.drop (a + 1) qs3).length < m
            simp only [List.nil_append, List.length_append, List.length_take, List.length_drop]; omega
    · obtain rfl : m = 0 := by omega
      clear g3
      go_wp2
      go_ret
      refine ⟨_, rfl, ?_, HB1.out.trans (HL.out.below.mono HB1.out.size)⟩
      have h0 : left = [] := List.eq_nil_of_length_eq_zero HLl.out
      have := HO.out
      rw [h0] at this
      rw [show orderG rs = done by rw [← this]; show done ++ [] = done; rw [List.append_nil]]
      exact HL.out.took
end Go.Proofs.YtjokejcokgeeiaaGreat.Can
