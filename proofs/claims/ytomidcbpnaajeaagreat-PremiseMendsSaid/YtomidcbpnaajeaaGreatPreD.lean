/- Records that are mended (layer 20, premise), plain: which may be, which stay, what each gets; a mended list is a graph's, and the premise holds in it if none is full. No condition but those in each statement. -/
import Derived.Test.YtomidcbpnaajeaaGreatPreB
namespace Go.Proofs.YtomidcbpnaajeaaGreat.Pre
open Go.RowKit Cmd Bat Ids Rec Wid Gra
set_option linter.unusedVariables false
set_option linter.unusedSimpArgs false

/-! ### Which records may be -/
structure OkR (x : Rcd) : Prop where
  id : idErr x.1 = 0
  seq : seqErr x.2.1 = 0
  few : x.2.2.1.length ≤ 16
  deps : ∀ d ∈ x.2.2.1, idErr d = 0 ∧ d ≠ x.1
  rise : Rise x.2.2.1
  batch : bErr x.2.2.2 = 0
theorem deps_zero {x : Idn} {ds : List Idn} (h : depsErr x ds = 0) (j : Nat) (hj : j < ds.length) : depErr x ds j = 0 := by
  unfold depsErr at h
  cases e : (List.range ds.length).find? (fun j => decide (depErr x ds j ≠ 0)) with
  | some k =>
    rw [e] at h
    have e1 : decide (depErr x ds k ≠ 0) = true := List.find?_some (p := fun j => decide (depErr x ds j ≠ 0)) e
    exact absurd h (of_decide_eq_true e1)
  | none =>
    have := List.find?_eq_none.1 e j (List.mem_range.2 hj)
    exact Classical.byContradiction fun hn => this (decide_eq_true hn)
theorem dep_zero {x : Idn} {ds : List Idn} {j : Nat} : depErr x ds j = 0 ↔ idErr (nth ds j) = 0 ∧ nth ds j ≠ x ∧ (0 < j → idLt (nth ds (j - 1)) (nth ds j) = true) := by
  unfold depErr
  constructor
  · intro h
    by_cases h1 : idErr (nth ds j) ≠ 0
    · rw [if_pos h1] at h; exact absurd h h1
    · rw [if_neg h1] at h
      by_cases h2 : nth ds j = x
      · rw [if_pos h2] at h; cases h
      · rw [if_neg h2] at h
        refine ⟨by simpa using h1, h2, fun hj => ?_⟩
        by_cases h3 : idLt (nth ds (j - 1)) (nth ds j) = false
        · rw [if_pos ⟨hj, h3⟩] at h; cases h
        · simpa using h3
  · rintro ⟨h1, h2, h3⟩
    rw [if_neg (by simpa using h1), if_neg h2, if_neg]
    rintro ⟨h4, h5⟩
    rw [h3 h4] at h5; cases h5
theorem okR_iff {x : Rcd} : oneErr x = 0 ↔ OkR x := by
  constructor
  · intro h
    unfold oneErr rErr at h
    by_cases h1 : idErr (x.1.1, x.1.2) ≠ 0
    · rw [if_pos h1] at h; exact absurd h h1
    · rw [if_neg h1] at h
      by_cases h2 : seqErr x.2.1 ≠ 0
      · rw [if_pos h2] at h; exact absurd h h2
      · rw [if_neg h2] at h
        by_cases h3 : cntErr x.2.2.1.length ≠ 0
        · rw [if_pos h3] at h; exact absurd h h3
        · rw [if_neg h3] at h
          by_cases h4 : depsErr (x.1.1, x.1.2) x.2.2.1 ≠ 0
          · rw [if_pos h4] at h; exact absurd h h4
          · rw [if_neg h4] at h
            have h4 : depsErr x.1 x.2.2.1 = 0 := by simpa using h4
            have hz := fun j hj => dep_zero.1 (deps_zero h4 j hj)
            refine ⟨by simpa using h1, by simpa using h2, ?_, fun d hd => ?_, ?_, h⟩
            · unfold cntErr at h3
              by_cases h5 : 16 < x.2.2.1.length
              · rw [if_pos h5] at h3; exact absurd (by decide) h3
              · omega
            · obtain ⟨j, hj, rfl⟩ := mem_nth.1 hd
              exact ⟨(hz j hj).1, (hz j hj).2.1⟩
            · rw [← rises_rise, rises_iff]
              intro j hj
              exact (hz (j + 1) hj).2.2 (Nat.succ_pos j)
  · intro h
    unfold oneErr rErr
    have hc : cntErr x.2.2.1.length = 0 := by unfold cntErr; rw [if_neg (by have := h.few; omega)]
    have hr := rises_iff.1 (rises_rise.2 h.rise)
    have hd : depsErr x.1 x.2.2.1 = 0 := deps_none fun j hj => dep_zero.2 ⟨(h.deps _ (mem_nth.2 ⟨j, hj, rfl⟩)).1, (h.deps _ (mem_nth.2 ⟨j, hj, rfl⟩)).2, fun h0 => by
      have := hr (j - 1) (by omega)
      rwa [show j - 1 + 1 = j by omega] at this⟩
    rw [if_neg (by rw [h.id]; decide), if_neg (by rw [h.seq]; decide), if_neg (by rw [hc]; decide), if_neg (by rw [hd]; decide), h.batch]
theorem gerr_ok {rs : List Rcd} (h : ∀ x ∈ rs, OkR x) (hn : (idsG rs).Nodup) : gErr rs = 0 := by
  refine gerr_none fun j hj => ?_
  unfold atErr
  rw [if_neg (by rw [okR_iff.2 (h _ (layG.at_mem hj))]; decide), if_neg]
  intro hm
  rw [ids_take] at hm
  obtain ⟨i, hi, e⟩ := List.getElem_of_mem hm
  rw [List.getElem_take] at e
  rw [List.length_take] at hi
  have hl : (idsG rs).length = rs.length := idsG_len rs
  have e2 : (layG.at rs j).1 = (idsG rs)[j]'(by omega) := by
    rw [← ids_nth hj]
    unfold nth
    rw [List.getD_eq_getElem?_getD, List.getElem?_eq_getElem (by omega)]; rfl
  rw [e2] at e
  have := (List.getElem_inj hn).1 e
  omega

/-! ### Which stay -/
def fineS (out : List Rcd) (x : Rcd) : List Rcd := if oneErr x = 0 ∧ x.1 ∉ idsG out then out ++ [x] else out
def fineG (rs : List Rcd) : List Rcd := rs.foldl fineS []
theorem fine_fold (P : List Rcd → Prop) (h0 : P []) (hs : ∀ out x, P out → P (fineS out x)) (rs : List Rcd) : P (fineG rs) := by
  have : ∀ (rs out : List Rcd), P out → P (rs.foldl fineS out) := by
    intro rs
    induction rs with
    | nil => intro out h; exact h
    | cons x rs ih => intro out h; exact ih _ (hs _ _ h)
  exact this rs [] h0
theorem fine_ok (rs : List Rcd) : (∀ x ∈ fineG rs, OkR x) ∧ (idsG (fineG rs)).Nodup := by
  refine fine_fold (fun out => (∀ x ∈ out, OkR x) ∧ (idsG out).Nodup) ⟨fun x hx => (by cases hx), List.nodup_nil⟩ (fun out x h => ?_) rs
  unfold fineS
  by_cases hx : oneErr x = 0 ∧ x.1 ∉ idsG out
  · rw [if_pos hx]
    refine ⟨fun y hy => ?_, ?_⟩
    · rcases List.mem_append.1 hy with hy | hy
      · exact h.1 y hy
      · rw [List.mem_singleton.1 hy]; exact okR_iff.1 hx.1
    · rw [idsG_snoc, List.nodup_append]
      refine ⟨h.2, by simp, ?_⟩
      intro a ha b hb e
      rw [List.mem_singleton.1 hb] at e
      exact hx.2 (e ▸ ha)
  · rw [if_neg hx]; exact h
theorem fine_sub (rs : List Rcd) : ∀ x ∈ fineG rs, x ∈ rs := by
  have : ∀ (rs out : List Rcd), ∀ x ∈ rs.foldl fineS out, x ∈ out ∨ x ∈ rs := by
    intro rs
    induction rs with
    | nil => intro out x h; exact .inl h
    | cons y rs ih =>
      intro out x h
      rcases ih _ x h with h | h
      · unfold fineS at h
        split at h
        · rcases List.mem_append.1 h with h | h
          · exact .inl h
          · rw [List.mem_singleton.1 h]; exact .inr List.mem_cons_self
        · exact .inl h
      · exact .inr (List.mem_cons_of_mem _ h)
  intro x hx
  rcases this rs [] x hx with h | h
  · cases h
  · exact h
theorem fine_len (rs : List Rcd) : (fineG rs).length ≤ rs.length := by
  have : ∀ (rs out : List Rcd), (rs.foldl fineS out).length ≤ out.length + rs.length := by
    intro rs
    induction rs with
    | nil => intro out; exact Nat.le_refl _
    | cons y rs ih =>
      intro out
      have h1 := ih (fineS out y)
      have h2 : (fineS out y).length ≤ out.length + 1 := by
        unfold fineS; split
        · rw [List.length_append]; exact Nat.le_refl _
        · omega
      rw [List.foldl_cons, List.length_cons]; omega
  have := this rs []
  simpa [fineG] using this

/-! ### What each gets -/
def addD (r y : Rcd) : Rcd := if lackR r y = true ∧ r.2.2.1.length < 16 then (r.1, r.2.1, put r.2.2.1 y.1, r.2.2.2) else r
def mendR (out : List Rcd) (r : Rcd) : Rcd := out.foldl addD r
def mendS (out : List Rcd) (r : Rcd) : List Rcd := out ++ [mendR out r]
def mendG (rs : List Rcd) : List Rcd := (fineG rs).foldl mendS []
theorem conf_commP (x y : Cmdn) : conf x y = conf y x := by
  show cConf x.1 x.2.1 x.2.2 y.1 y.2.1 y.2.2 = cConf y.1 y.2.1 y.2.2 x.1 x.2.1 x.2.2
  unfold cConf
  rw [Bool.and_comm (cRight _ _ _) (cRight _ _ _), Bool.or_comm, show decide (x.2.1 = y.2.1) = decide (y.2.1 = x.2.1) from decide_eq_decide.2 eq_comm]
theorem bconf_iffP {xs ys : List Cmdn} : bConf xs ys = true ↔ ∃ x ∈ xs, ∃ y ∈ ys, conf x y = true := by
  unfold bConf
  simp only [List.any_eq_true]
theorem bconf_commP (xs ys : List Cmdn) : bConf xs ys = bConf ys xs := by
  rw [Bool.eq_iff_iff, bconf_iffP, bconf_iffP]
  constructor
  · rintro ⟨x, hx, y, hy, h⟩; exact ⟨y, hy, x, hx, by rw [conf_commP]; exact h⟩
  · rintro ⟨x, hx, y, hy, h⟩; exact ⟨y, hy, x, hx, by rw [conf_commP]; exact h⟩
theorem lack_comm (x y : Rcd) : lackR x y = lackR y x := by unfold lackR; rw [bconf_commP, edge_comm]
/-- How a record grows. -/
structure Grw (r e : Rcd) : Prop where
  id : e.1 = r.1
  seq : e.2.1 = r.2.1
  batch : e.2.2.2 = r.2.2.2
  deps : ∀ d ∈ r.2.2.1, d ∈ e.2.2.1
  len : r.2.2.1.length ≤ e.2.2.1.length
theorem Grw.refl (r : Rcd) : Grw r r := ⟨rfl, rfl, rfl, fun _ h => h, Nat.le_refl _⟩
theorem Grw.trans {a b c : Rcd} (h : Grw a b) (k : Grw b c) : Grw a c := ⟨k.id.trans h.id, k.seq.trans h.seq, k.batch.trans h.batch, fun d hd => k.deps d (h.deps d hd), Nat.le_trans h.len k.len⟩
theorem put_len (l : List Idn) (x : Idn) : l.length ≤ (put l x).length := by
  unfold put; split
  · exact Nat.le_refl _
  · rw [ins_length]; omega
theorem grw_add (r y : Rcd) : Grw r (addD r y) := by
  unfold addD
  split
  · exact ⟨rfl, rfl, rfl, fun d hd => (put_mem _ _ _).2 (.inr hd), put_len _ _⟩
  · exact Grw.refl r
theorem grw_mend : ∀ (out : List Rcd) (r : Rcd), Grw r (mendR out r)
  | [], r => Grw.refl r
  | y :: out, r => (grw_add r y).trans (grw_mend out (addD r y))
/-- What lacks no more lacks no more. -/
theorem Grw.keeps {r e y : Rcd} (h : Grw r e) (hl : lackR r y = false) : lackR e y = false := by
  unfold lackR edgeR at hl ⊢
  rw [h.batch, h.id]
  cases hb : bConf r.2.2.2 y.2.2.2 with
  | false => rfl
  | true =>
    rw [hb] at hl
    simp only [Bool.true_and, Bool.not_eq_false', Bool.or_eq_true, decide_eq_true_eq] at hl ⊢
    exact hl.imp (h.deps _) (fun h => h)
theorem add_lacks (r y : Rcd) : lackR (addD r y) y = false ∨ 16 ≤ (addD r y).2.2.1.length := by
  unfold addD
  split
  · left
    unfold lackR edgeR
    simp only [Bool.and_eq_false_imp, Bool.not_eq_false', Bool.or_eq_true, decide_eq_true_eq]
    exact fun _ => .inl ((put_mem _ _ _).2 (.inl rfl))
  · rename_i h
    cases hl : lackR r y with
    | false => exact .inl rfl
    | true => exact .inr (by have : ¬ (r.2.2.1.length < 16) := fun h' => h ⟨hl, h'⟩; omega)
theorem mend_lacks : ∀ (out : List Rcd) (r : Rcd), ∀ y ∈ out, lackR (mendR out r) y = false ∨ 16 ≤ (mendR out r).2.2.1.length
  | [], _, _, hy => by cases hy
  | z :: out, r, y, hy => by
    rcases List.mem_cons.1 hy with rfl | hy
    · have hg := grw_mend out (addD r y)
      rcases add_lacks r y with h | h
      · exact .inl (hg.keeps h)
      · exact .inr (Nat.le_trans h hg.len)
    · exact mend_lacks out (addD r z) y hy
theorem ok_add {r y : Rcd} (h : OkR r) (k : OkR y) (hne : r.1 ≠ y.1) : OkR (addD r y) := by
  unfold addD
  split
  · rename_i hc
    refine ⟨h.id, h.seq, ?_, fun d hd => ?_, put_rise h.rise, h.batch⟩
    · have := put_length r.2.2.1 y.1
      have := hc.2
      show (put r.2.2.1 y.1).length ≤ 16
      omega
    · rcases (put_mem _ _ _).1 hd with rfl | hd
      · exact ⟨k.id, fun e => hne e.symm⟩
      · exact h.deps d hd
  · exact h
theorem ok_mend : ∀ (out : List Rcd) (r : Rcd), OkR r → (∀ y ∈ out, OkR y) → r.1 ∉ idsG out → OkR (mendR out r)
  | [], _, h, _, _ => h
  | y :: out, r, h, hy, hn => by
    have h1 : r.1 ≠ y.1 := fun e => hn (by unfold idsG; rw [List.map_cons, e]; exact List.mem_cons_self)
    refine ok_mend out (addD r y) (ok_add h (hy y List.mem_cons_self) h1) (fun z hz => hy z (List.mem_cons_of_mem _ hz)) ?_
    rw [(grw_add r y).id]
    exact fun hm => hn (by unfold idsG at hm ⊢; rw [List.map_cons]; exact List.mem_cons_of_mem _ hm)
/-- What holds of the records that are mended so far. -/
structure Mnd (fs out : List Rcd) : Prop where
  ids : idsG out = idsG fs
  ok : ∀ x ∈ out, OkR x
  two : out.Pairwise fun y x => lackR x y = false ∨ 16 ≤ x.2.2.1.length
theorem Mnd.snoc {fs out : List Rcd} {r : Rcd} (h : Mnd fs out) (hr : OkR r) (hn : r.1 ∉ idsG fs) : Mnd (fs ++ [r]) (mendS out r) := by
  have hg := grw_mend out r
  refine ⟨?_, fun x hx => ?_, ?_⟩
  · unfold mendS; rw [idsG_snoc, idsG_snoc, h.ids, hg.id]
  · rcases List.mem_append.1 hx with hx | hx
    · exact h.ok x hx
    · rw [List.mem_singleton.1 hx]; exact ok_mend out r hr h.ok (by rw [h.ids]; exact hn)
  · refine List.pairwise_append.2 ⟨h.two, List.pairwise_singleton _ _, fun y hy x hx => ?_⟩
    rw [List.mem_singleton.1 hx]
    exact mend_lacks out r y hy
theorem mend_all (fs : List Rcd) (hok : ∀ x ∈ fs, OkR x) (hn : (idsG fs).Nodup) : Mnd fs (fs.foldl mendS []) := by
  have : ∀ (gs hs out : List Rcd), gs ++ hs = fs → Mnd gs out → Mnd fs (hs.foldl mendS out) := by
    intro gs hs
    induction hs generalizing gs with
    | nil => intro out e h; rw [List.append_nil] at e; rw [← e]; exact h
    | cons r hs ih =>
      intro out e h
      refine ih (gs ++ [r]) (mendS out r) (by rw [← e]; simp) (h.snoc (hok r (by rw [← e]; simp)) ?_)
      rw [← e] at hn
      unfold idsG at hn ⊢
      rw [List.map_append, List.map_cons, List.nodup_append] at hn
      exact fun hm => hn.2.2 _ hm _ List.mem_cons_self rfl
  exact this [] fs [] rfl ⟨rfl, fun x hx => (by cases hx), List.Pairwise.nil⟩
theorem mend_mnd (rs : List Rcd) : Mnd (fineG rs) (mendG rs) := mend_all _ (fine_ok rs).1 (fine_ok rs).2
theorem mend_err (rs : List Rcd) : gErr (mendG rs) = 0 := gerr_ok (mend_mnd rs).ok (by rw [(mend_mnd rs).ids]; exact (fine_ok rs).2)
theorem mend_len (rs : List Rcd) : (mendG rs).length ≤ rs.length := by
  have h := congrArg List.length (mend_mnd rs).ids
  rw [idsG_len, idsG_len] at h
  rw [h]; exact fine_len rs

/-! ### The premise holds, if none is full (P20.4) -/
theorem rcG_in {rs : List Rcd} {x : Idn} (h : x ∈ idsG rs) : rcG rs x ∈ rs ∧ (rcG rs x).1 = x := by
  obtain ⟨k, hk, e, h1⟩ := find_in h
  unfold rcG
  rw [e]
  exact ⟨layG.at_mem hk, h1⟩
theorem two_any {R : Rcd → Rcd → Prop} {l : List Rcd} (h : l.Pairwise R) {x y : Rcd} (hx : x ∈ l) (hy : y ∈ l) (hne : x ≠ y) : R x y ∨ R y x := by
  induction l with
  | nil => cases hx
  | cons z l ih =>
    obtain ⟨h1, h2⟩ := List.pairwise_cons.1 h
    rcases List.mem_cons.1 hx with ex | kx <;> rcases List.mem_cons.1 hy with ey | ky
    · exact absurd (ex.trans ey.symm) hne
    · rw [ex]; exact .inl (h1 y ky)
    · rw [ey]; exact .inr (h1 x kx)
    · exact ih h2 kx ky
theorem holds_mend {rs : List Rcd} (hf : ∀ x ∈ mendG rs, x.2.2.1.length < 16) {x y : Idn} {ok : Bool} (h : Hlds (mendG rs) x y ok) : ok = true := by
  rcases h with ⟨e, -⟩ | ⟨-, i, k, h1, h2, h3, -⟩
  · exact e
  · exfalso
    have hi : nth (gIds (mendG rs)) i ∈ idsG (mendG rs) := (srt_mem _ _).1 (mem_nth.2 ⟨i, Nat.lt_trans h1 h2, rfl⟩)
    have hk : nth (gIds (mendG rs)) k ∈ idsG (mendG rs) := (srt_mem _ _).1 (mem_nth.2 ⟨k, h2, rfl⟩)
    obtain ⟨a1, a2⟩ := rcG_in hi
    obtain ⟨b1, b2⟩ := rcG_in hk
    have hlt : idLt (nth (gIds (mendG rs)) i) (nth (gIds (mendG rs)) k) = true := by
      have := List.pairwise_iff_getElem.1 (srt_rise (idsG (mendG rs))) i k (Nat.lt_trans h1 h2) h2 h1
      unfold nth
      rw [List.getD_eq_getElem?_getD, List.getD_eq_getElem?_getD, List.getElem?_eq_getElem (Nat.lt_trans h1 h2), List.getElem?_eq_getElem h2]
      exact this
    have hne : rcG (mendG rs) (nth (gIds (mendG rs)) i) ≠ rcG (mendG rs) (nth (gIds (mendG rs)) k) := fun e => by
      have := congrArg Prod.fst e
      rw [a2, b2] at this
      rw [this, lt_irr] at hlt; cases hlt
    unfold lackAt at h3
    rcases two_any (mend_mnd rs).two a1 b1 hne with h | h
    · rcases h with h | h
      · rw [lack_comm, h] at h3; cases h3
      · have := hf _ b1; omega
    · rcases h with h | h
      · rw [h] at h3; cases h3
      · have := hf _ a1; omega
end Go.Proofs.YtomidcbpnaajeaaGreat.Pre
