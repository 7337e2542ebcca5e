/- Lists of records in memory (layer 15, edges): what a row of records reads as; plain: where one is, what is wrong first, who is there, what lacks, who depends on one. Conditions: those in each statement. -/
import Derived.Test.YtomidcbpnaajeaaGreatRecA
import Derived.Test.YtomidcbpnaajeaaGreatRecD
import Derived.Test.YtomidcbpnaajeaaGreatWid
import Derived.Test.YtomidcbpnaajeaaGreatIdA
namespace Go.Proofs.YtomidcbpnaajeaaGreat.Gra
open Go.RowKit Cmd Bat Ids Rec Wid
set_option linter.unusedVariables false
set_option linter.unusedSimpArgs false

abbrev Rcd := Idn × Int × List Idn × List Cmdn

/-! ### In memory -/
/-- A record's cells at a place, and what its lists read as. -/
structure RcdAt (w : World) (B o : Nat) (a b q : Int) (v u : Value) (ds : List Idn) (cs : List Cmdn) : Prop where
  lt : B < w.heap.size
  c0 : w.cell? ⟨B, o, none⟩ = some (.int .i64 a)
  c1 : w.cell? ⟨B, o + 1, none⟩ = some (.int .i64 b)
  c2 : w.cell? ⟨B, o + 2, none⟩ = some (.int .i64 q)
  c3 : w.cell? ⟨B, o + 3, none⟩ = some v
  c4 : w.cell? ⟨B, o + 4, none⟩ = some u
  rd : RowAt w v ds
  rc : layC.Row w u cs
theorem RcdAt.on {w w' : World} {B o : Nat} {a b q : Int} {v u : Value} {ds : List Idn} {cs : List Cmdn} (h : RcdAt w B o a b q v u ds cs) (hb : Below w.heap.size w w') : RcdAt w' B o a b q v u ds cs :=
  ⟨Nat.lt_of_lt_of_le h.lt hb.size, (hb.cell (p := ⟨B, o, none⟩) h.lt).trans h.c0, (hb.cell (p := ⟨B, o + 1, none⟩) h.lt).trans h.c1, (hb.cell (p := ⟨B, o + 2, none⟩) h.lt).trans h.c2, (hb.cell (p := ⟨B, o + 3, none⟩) h.lt).trans h.c3, (hb.cell (p := ⟨B, o + 4, none⟩) h.lt).trans h.c4, h.rd.on hb, h.rc.on hb⟩
theorem RcdAt.five {w : World} {B o : Nat} {a b q : Int} {v u : Value} {ds : List Idn} {cs : List Cmdn} (h : RcdAt w B o a b q v u ds cs) :
    w.cell? ⟨B, o, none⟩ = some (.int .i64 a) ∧ w.cell? ⟨B, o + 1, none⟩ = some (.int .i64 b) ∧ w.cell? ⟨B, o + 2, none⟩ = some (.int .i64 q) ∧ w.cell? ⟨B, o + 3, none⟩ = some v ∧ w.cell? ⟨B, o + 4, none⟩ = some u := ⟨h.c0, h.c1, h.c2, h.c3, h.c4⟩
def layG : Lay Rcd := ⟨((0, 0), 0, [], []), fun o j => o + j * 5, fun w b o x => w.cell? ⟨b, o, none⟩ = some (.int .i64 x.1.1) ∧ w.cell? ⟨b, o + 1, none⟩ = some (.int .i64 x.1.2) ∧ w.cell? ⟨b, o + 2, none⟩ = some (.int .i64 x.2.1) ∧ (∃ v, w.cell? ⟨b, o + 3, none⟩ = some v ∧ RowAt w v x.2.2.1) ∧ ∃ u, w.cell? ⟨b, o + 4, none⟩ = some u ∧ layC.Row w u x.2.2.2,
  fun {w w' b o x} hb h ⟨h0, h1, h2, ⟨v, h3, h4⟩, u, h5, h6⟩ => ⟨(h.cell (p := ⟨b, o, none⟩) hb).trans h0, (h.cell (p := ⟨b, o + 1, none⟩) hb).trans h1, (h.cell (p := ⟨b, o + 2, none⟩) hb).trans h2, ⟨v, (h.cell (p := ⟨b, o + 3, none⟩) hb).trans h3, h4.on h⟩, u, (h.cell (p := ⟨b, o + 4, none⟩) hb).trans h5, h6.on h⟩⟩
theorem row_slice {w : World} {v : Value} {ds : List Idn} (h : RowAt w v ds) : ∃ p cap, v = .slice p ds.length cap ∧ ds.length ≤ cap ∧ cap ≤ 9223372036854775807 := by obtain ⟨p, cap, e, h1, h2, _⟩ := h; exact ⟨p, cap, e, h1, h2⟩
theorem lay_slice {α : Type} {L : Lay α} {w : World} {v : Value} {ds : List α} (h : L.Row w v ds) : ∃ p cap, v = .slice p ds.length cap ∧ ds.length ≤ cap ∧ cap ≤ 9223372036854775807 := by obtain ⟨p, cap, e, h1, h2, _⟩ := h; exact ⟨p, cap, e, h1, h2⟩
/-- The k-th of a row. -/
theorem rcdAt {w : World} {B off : Nat} {rs : List Rcd} (h : layG.In w B off rs) {k : Nat} (hk : k < rs.length) {a b q : Int} {ds : List Idn} {cs : List Cmdn} (hx : layG.at rs k = ((a, b), q, ds, cs)) :
    ∃ (p : Option Addr) (cap : Nat) (p' : Option Addr) (cap' : Nat), RcdAt w B (off + k * 5) a b q (.slice p ds.length cap) (.slice p' cs.length cap') ds cs ∧ ds.length ≤ 9223372036854775807 ∧ cs.length ≤ 9223372036854775807 := by
  have := h.cell k hk
  rw [hx] at this
  obtain ⟨h0, h1, h2, ⟨v, h3, h4⟩, u, h5, h6⟩ := this
  obtain ⟨p, cap, rfl, l1, l2⟩ := row_slice h4
  obtain ⟨p', cap', rfl, l3, l4⟩ := lay_slice h6
  exact ⟨p, cap, p', cap', ⟨h.lt, h0, h1, h2, h3, h5, h4, h6⟩, Nat.le_trans l1 l2, Nat.le_trans l3 l4⟩
/-- Which records the walks can go on with. -/
structure wfG (x : Rcd) : Prop where
  id : wfId x.1
  deps : ∀ d ∈ x.2.2.1, wfId d
  batch : ∀ c ∈ x.2.2.2, wfC c

/-! ### Rows of raw records -/
abbrev Raw := Idn × Int × (Option Addr × Nat × Nat) × (Option Addr × Nat × Nat)
def sliceOf (q : Option Addr × Nat × Nat) : Value := .slice q.1 q.2.1 q.2.2
def layRaw : Lay Raw := ⟨((0, 0), 0, (none, 0, 0), (none, 0, 0)), fun o j => o + j * 5, fun w b o x => w.cell? ⟨b, o, none⟩ = some (.int .i64 x.1.1) ∧ w.cell? ⟨b, o + 1, none⟩ = some (.int .i64 x.1.2) ∧ w.cell? ⟨b, o + 2, none⟩ = some (.int .i64 x.2.1) ∧ w.cell? ⟨b, o + 3, none⟩ = some (sliceOf x.2.2.1) ∧ w.cell? ⟨b, o + 4, none⟩ = some (sliceOf x.2.2.2),
  fun {w w' b o x} hb h ⟨h0, h1, h2, h3, h4⟩ => ⟨(h.cell (p := ⟨b, o, none⟩) hb).trans h0, (h.cell (p := ⟨b, o + 1, none⟩) hb).trans h1, (h.cell (p := ⟨b, o + 2, none⟩) hb).trans h2, (h.cell (p := ⟨b, o + 3, none⟩) hb).trans h3, (h.cell (p := ⟨b, o + 4, none⟩) hb).trans h4⟩⟩
theorem five_at {w : World} {b o : Nat} {x0 x1 x2 x3 x4 : Value} (h0 : w.cell? ⟨b, o, none⟩ = some x0) (h1 : w.cell? ⟨b, o + 1, none⟩ = some x1) (h2 : w.cell? ⟨b, o + 2, none⟩ = some x2) (h3 : w.cell? ⟨b, o + 3, none⟩ = some x3) (h4 : w.cell? ⟨b, o + 4, none⟩ = some x4) : ∀ i u, [x0, x1, x2, x3, x4][i]? = some u → w.cell? ⟨b, o + i, none⟩ = some u
  | 0, u, hu => by injection hu with hu; subst hu; exact h0
  | 1, u, hu => by injection hu with hu; subst hu; exact h1
  | 2, u, hu => by injection hu with hu; subst hu; exact h2
  | 3, u, hu => by injection hu with hu; subst hu; exact h3
  | 4, u, hu => by injection hu with hu; subst hu; exact h4
  | i + 5, u, hu => by simp at hu
def wdRaw : Wd Raw where
  L := layRaw
  enc x := [.int .i64 x.1.1, .int .i64 x.1.2, .int .i64 x.2.1, sliceOf x.2.2.1, sliceOf x.2.2.2]
  c := 5
  cpos := by decide
  pos _ _ := rfl
  len _ := rfl
  one x u hu := by
    simp only [List.mem_cons, List.not_mem_nil, or_false] at hu
    rcases hu with rfl | rfl | rfl | rfl | rfl <;> rfl
  lies h := ⟨h 0 _ rfl, h 1 _ rfl, h 2 _ rfl, h 3 _ rfl, h 4 _ rfl⟩
  cells h := five_at h.1 h.2.1 h.2.2.1 h.2.2.2.1 h.2.2.2.2
theorem wtRaw : Wt wdRaw 22 42 (.agg #[.int .i64 0, .int .i64 0, .int .i64 0, .slice none 0 0, .slice none 0 0]) 72 := ⟨Tryz.underlying22, by kernel_rfl, by kernel_rfl, by kernel_rfl, by decide⟩

/-! ### Plain -/
def idsG (rs : List Rcd) : List Idn := rs.map Prod.fst
theorem ids_nth {rs : List Rcd} {j : Nat} (h : j < rs.length) : nth (idsG rs) j = (layG.at rs j).1 := by
  unfold nth idsG
  rw [layG.at_get h, List.getD_eq_getElem?_getD, List.getElem?_map, List.getElem?_eq_getElem h]; rfl
theorem ids_take (rs : List Rcd) (k : Nat) : idsG (rs.take k) = (idsG rs).take k := by unfold idsG; rw [List.map_take]
theorem mem_ids {rs : List Rcd} {x : Idn} : x ∈ idsG rs ↔ ∃ j, j < rs.length ∧ (layG.at rs j).1 = x := by
  unfold idsG
  rw [List.mem_map]
  constructor
  · rintro ⟨r, hr, e⟩
    obtain ⟨j, hj, h⟩ := (Lay.mem (L := layG)).1 hr
    exact ⟨j, hj, by rw [h]; exact e⟩
  · rintro ⟨j, hj, e⟩
    exact ⟨_, layG.at_mem hj, e⟩
/-- Where an id is; -1: nowhere. -/
def findG (rs : List Rcd) (x : Idn) : Int := match (List.range rs.length).find? (fun j => decide ((layG.at rs j).1 = x)) with
  | some j => (j : Int)
  | none => -1
theorem find_at {rs : List Rcd} {x : Idn} {k : Nat} (hk : k < rs.length) (h : (layG.at rs k).1 = x) (hn : ∀ j, j < k → (layG.at rs j).1 ≠ x) : findG rs x = k := by
  have : (List.range rs.length).find? (fun j => decide ((layG.at rs j).1 = x)) = some k := by
    rw [List.find?_range_eq_some]
    exact ⟨decide_eq_true h, List.mem_range.2 hk, fun j hj => by rw [decide_eq_false (hn j hj)]; decide⟩
  unfold findG
  rw [this]
theorem find_no {rs : List Rcd} {x : Idn} (h : ∀ j, j < rs.length → (layG.at rs j).1 ≠ x) : findG rs x = -1 := by
  have : (List.range rs.length).find? (fun j => decide ((layG.at rs j).1 = x)) = none := by
    rw [List.find?_eq_none]
    intro j hj
    rw [decide_eq_false (h j (List.mem_range.1 hj))]; decide
  unfold findG
  rw [this]
theorem find_cases (rs : List Rcd) (x : Idn) : (∃ k, k < rs.length ∧ (layG.at rs k).1 = x ∧ (∀ j, j < k → (layG.at rs j).1 ≠ x) ∧ findG rs x = k ∧ x ∈ idsG rs) ∨ (findG rs x = -1 ∧ x ∉ idsG rs) := by
  cases hf : (List.range rs.length).find? (fun j => decide ((layG.at rs j).1 = x)) with
  | some k =>
    rw [List.find?_range_eq_some] at hf
    obtain ⟨h1, h2, h3⟩ := hf
    have h1 := of_decide_eq_true h1
    have h2 := List.mem_range.1 h2
    have h4 : ∀ j, j < k → (layG.at rs j).1 ≠ x := fun j hj e => by have := h3 j hj; rw [decide_eq_true e] at this; cases this
    exact .inl ⟨k, h2, h1, h4, find_at h2 h1 h4, mem_ids.2 ⟨k, h2, h1⟩⟩
  | none =>
    rw [List.find?_eq_none] at hf
    have h4 : ∀ j, j < rs.length → (layG.at rs j).1 ≠ x := fun j hj e => by have := hf j (List.mem_range.2 hj); rw [decide_eq_true e] at this; exact this rfl
    exact .inr ⟨find_no h4, fun hm => by obtain ⟨j, hj, e⟩ := mem_ids.1 hm; exact h4 j hj e⟩
theorem find_lt (rs : List Rcd) (x : Idn) : decide (findG rs x < 0) = !decide (x ∈ idsG rs) := by
  rcases find_cases rs x with ⟨k, -, -, -, h1, h2⟩ | ⟨h1, h2⟩
  · rw [h1, decide_eq_true h2, decide_eq_false (by omega)]; rfl
  · rw [h1, decide_eq_false h2]; rfl
theorem find_ge (rs : List Rcd) (x : Idn) : decide (0 ≤ findG rs x) = decide (x ∈ idsG rs) := by
  rcases find_cases rs x with ⟨k, -, -, -, h1, h2⟩ | ⟨h1, h2⟩
  · rw [h1, decide_eq_true h2, decide_eq_true (by omega)]
  · rw [h1, decide_eq_false h2]; rfl
/-- What is wrong with a record. -/
def oneErr (x : Rcd) : Int := rErr x.1.1 x.1.2 x.2.1 x.2.2.1 x.2.2.2
/-- What is wrong with the j-th of a list. -/
def atErr (rs : List Rcd) (j : Nat) : Int := if oneErr (layG.at rs j) ≠ 0 then oneErr (layG.at rs j) else if (layG.at rs j).1 ∈ idsG (rs.take j) then 16 else 0
def gErr (rs : List Rcd) : Int := match (List.range rs.length).find? (fun j => decide (atErr rs j ≠ 0)) with
  | some j => atErr rs j
  | none => 0
theorem gerr_first {rs : List Rcd} {k : Nat} (hk : k < rs.length) (h : atErr rs k ≠ 0) (hn : ∀ j, j < k → atErr rs j = 0) : gErr rs = atErr rs k := by
  have : (List.range rs.length).find? (fun j => decide (atErr rs j ≠ 0)) = some k := by
    rw [List.find?_range_eq_some]
    exact ⟨decide_eq_true h, List.mem_range.2 hk, fun j hj => by rw [hn j hj]; decide⟩
  unfold gErr
  rw [this]
theorem gerr_none {rs : List Rcd} (h : ∀ j, j < rs.length → atErr rs j = 0) : gErr rs = 0 := by
  have : (List.range rs.length).find? (fun j => decide (atErr rs j ≠ 0)) = none := by
    rw [List.find?_eq_none]
    intro j hj
    rw [h j (List.mem_range.1 hj)]; decide
  unfold gErr
  rw [this]
theorem gerr_ok {rs : List Rcd} (h : gErr rs = 0) : ∀ j, j < rs.length → atErr rs j = 0 := by
  cases hf : (List.range rs.length).find? (fun j => decide (atErr rs j ≠ 0)) with
  | some k =>
    unfold gErr at h
    rw [hf] at h
    rw [List.find?_range_eq_some] at hf
    exact absurd h (of_decide_eq_true hf.1)
  | none =>
    rw [List.find?_eq_none] at hf
    intro j hj
    have := hf j (List.mem_range.2 hj)
    exact Classical.byContradiction fun hn => this (decide_eq_true hn)
theorem gerr_at {rs : List Rcd} (h : gErr rs = 0) {j : Nat} (hj : j < rs.length) : oneErr (layG.at rs j) = 0 ∧ (layG.at rs j).1 ∉ idsG (rs.take j) := by
  have := gerr_ok h j hj
  unfold atErr at this
  split at this
  · rename_i hn; exact absurd this hn
  · rename_i hn
    split at this
    · cases this
    · rename_i hm; exact ⟨Classical.byContradiction hn, hm⟩
theorem nodup_snoc {l : List Idn} {x : Idn} (h : l.Nodup) (hx : x ∉ l) : (l ++ [x]).Nodup := by
  rw [List.nodup_append]
  exact ⟨h, by simp, fun a ha b hb e => hx (by rw [← List.mem_singleton.1 hb, ← e]; exact ha)⟩
theorem gerr_nodup {rs : List Rcd} (h : gErr rs = 0) : (idsG rs).Nodup := by
  have key : ∀ k, k ≤ rs.length → (idsG (rs.take k)).Nodup := by
    intro k
    induction k with
    | zero => intro _; simp [idsG]
    | succ k ih =>
      intro hk
      rw [layG.take (by omega : k < rs.length)]
      unfold idsG
      rw [List.map_append]
      exact nodup_snoc (ih (by omega)) (gerr_at h (by omega)).2
  have := key rs.length (Nat.le_refl _)
  rwa [List.take_length] at this
def depsG (rs : List Rcd) : List Idn := rs.flatMap fun r => r.2.2.1
/-- What is not there, as it comes. -/
def missL (all rs : List Rcd) : List Idn := (depsG rs).filter fun d => !decide (d ∈ idsG all)
def gIds (rs : List Rcd) : List Idn := srt (idsG rs)
def gMiss (rs : List Rcd) : List Idn := srt (missL rs rs)
def usersL (rs : List Rcd) (x : Idn) : List Idn := idsG (rs.filter fun r => decide (x ∈ r.2.2.1))
def gUsers (rs : List Rcd) (x : Idn) : List Idn := srt (usersL rs x)
theorem srt_snoc (l : List Idn) (x : Idn) : srt (l ++ [x]) = put (srt l) x := by unfold srt; rw [List.foldl_append]; rfl
theorem idsG_snoc (rs : List Rcd) (x : Rcd) : idsG (rs ++ [x]) = idsG rs ++ [x.1] := by unfold idsG; rw [List.map_append]; rfl
theorem depsG_snoc (rs : List Rcd) (x : Rcd) : depsG (rs ++ [x]) = depsG rs ++ x.2.2.1 := by unfold depsG; rw [List.flatMap_append]; simp
theorem missL_snoc (all rs : List Rcd) (x : Rcd) : missL all (rs ++ [x]) = missL all rs ++ x.2.2.1.filter fun d => !decide (d ∈ idsG all) := by unfold missL; rw [depsG_snoc, List.filter_append]
theorem usersL_snoc (rs : List Rcd) (r : Rcd) (x : Idn) : usersL (rs ++ [r]) x = if x ∈ r.2.2.1 then usersL rs x ++ [r.1] else usersL rs x := by
  unfold usersL
  rw [List.filter_append]
  split
  · rename_i h; simp [h, idsG]
  · rename_i h; simp [h, idsG]
theorem depsG_take (rs : List Rcd) (k : Nat) : (depsG (rs.take k)).length ≤ (depsG rs).length := by
  have e : depsG rs = depsG (rs.take k) ++ depsG (rs.drop k) := by
    unfold depsG; rw [← List.flatMap_append, List.take_append_drop]
  rw [e, List.length_append]; omega
theorem depsG_part {rs : List Rcd} {k : Nat} (h : k < rs.length) : (depsG (rs.take k)).length + (layG.at rs k).2.2.1.length ≤ (depsG rs).length := by
  have h1 := depsG_take rs (k + 1)
  rw [layG.take h, depsG_snoc, List.length_append] at h1
  exact h1
theorem missL_len (all rs : List Rcd) : (missL all rs).length ≤ (depsG rs).length := List.length_filter_le _ _
theorem usersL_len (rs : List Rcd) (x : Idn) : (usersL rs x).length ≤ rs.length := by unfold usersL idsG; rw [List.length_map]; exact List.length_filter_le _ _
theorem idsG_len (rs : List Rcd) : (idsG rs).length = rs.length := by unfold idsG; rw [List.length_map]
/-! ### The Deps of an id's record -/
theorem find_id {rs : List Rcd} (hd : (idsG rs).Nodup) {r : Rcd} (hr : r ∈ rs) : rs.find? (fun t => decide (t.1 = r.1)) = some r := by
  induction rs with
  | nil => cases hr
  | cons y l ih =>
    obtain ⟨h1, h2⟩ := List.nodup_cons.1 hd
    rw [List.find?_cons]
    by_cases e : y.1 = r.1
    · rw [decide_eq_true e]
      rcases List.mem_cons.1 hr with rfl | hm
      · rfl
      · exact absurd (List.mem_map.2 ⟨r, hm, rfl⟩) (by rw [e] at h1; exact h1)
    · rw [decide_eq_false e]
      exact ih h2 ((List.mem_cons.1 hr).resolve_left (fun e2 => e (by rw [e2])))
/-- The Deps of an id's record. -/
def dpG (rs : List Rcd) (i : Idn) : List Idn := match rs.find? (fun r => decide (r.1 = i)) with
  | some r => r.2.2.1
  | none => []
theorem dp_of {rs : List Rcd} (hd : (idsG rs).Nodup) {r : Rcd} (hr : r ∈ rs) : dpG rs r.1 = r.2.2.1 := by
  unfold dpG; rw [find_id hd hr]
end Go.Proofs.YtomidcbpnaajeaaGreat.Gra

/- What the document's Find, Check, Ids, Missing and Users of records give (layers 8 and 15). Conditions: the records lie in memory as their cells say; numbers' words of 64 bits; lists not longer than 100000 together. -/
namespace Go.Proofs.YtomidcbpnaajeaaGreat.Gra
open Go.RowKit Cmd Bat Ids Rec Wid
set_option linter.unusedVariables false
set_option linter.unusedSimpArgs false

theorem eql_pair (x y a b : Int) (w : World) : (binOp .eql 32 (.agg #[.int .i64 x, .int .i64 y]) (.agg #[.int .i64 a, .int .i64 b])).run Tryz.prog w = .ok (.bool (decide ((x, y) = (a, b)))) w := by
  rw [eql_id]
  congr 2
  rw [Bool.eq_iff_iff, decide_eq_true_eq, Prod.mk.injEq, Bool.and_eq_true, beq_iff_eq, beq_iff_eq]

/-! ### Find -/
set_option maxHeartbeats 4000000 in
theorem find_any (v : Value) (rs : List Rcd) (a b : Int) (w : World) (h : layG.Row w v rs) : Calls Tryz.prog 11 #[v, .agg #[.int .i64 a, .int .i64 b]] w (RetBelow (.int .i64 (findG rs (a, b))) w) := by
  obtain ⟨p, cap, rfl, h1, hd⟩ := h.parts
  obtain ⟨n, hn⟩ : ∃ n, n = rs.length := ⟨_, rfl⟩
  rw [← hn] at h1 hd ⊢
  have HN := Lib.hid hn
  have HF : Hid (∀ k, k < rs.length → (layG.at rs k).1 = (a, b) → (∀ j, j < k → (layG.at rs j).1 ≠ (a, b)) → findG rs (a, b) = k) := Lib.hid fun k h1 h2 h3 => find_at h1 h2 h3
  have HO : Hid ((∀ j, j < rs.length → (layG.at rs j).1 ≠ (a, b)) → findG rs (a, b) = -1) := Lib.hid find_no
  generalize findG rs (a, b) = r at HF HO
  have B0 := Lib.hid (Boxed.start w a b)
  unfold Ids.cells at B0
  clear h hn
  go_enter Tryz.func11, Tryz.ntmps11
  go_wp2
  go_loopw [5] (fun i wr => ∃ k : Nat, k ≤ n ∧ i = .int .i64 k ∧ Hid (Boxed w a b wr) ∧ Hid (∀ j, j < k → (layG.at rs j).1 ≠ (a, b))) (fun i _ => n - (intOf i).toNat)
  case atStart => exact ⟨0, Nat.zero_le _, rfl, B0, Lib.hid fun j hj => absurd hj (Nat.not_lt_zero _)⟩
  case round =>
    obtain ⟨k, hk, rfl, hbw, hno⟩ := hrel
    have k0 : (0 : Int) ≤ k := by omega
    by_cases hkn : k < n
    · have kn : (k : Int) < n := by omega
      obtain ⟨B, off, rfl, HC⟩ := hd.resolve_left (by omega)
      have hkx : k < rs.length := by rw [← HN.out]; exact hkn
      obtain ⟨x, y, q, ds, cs, hx⟩ : ∃ x y q ds cs, layG.at rs k = ((x, y), q, ds, cs) := ⟨_, _, _, _, _, rfl⟩
      obtain ⟨p1, k1, p2, k2, hr, -, -⟩ := rcdAt (HC.out.on hbw.out.below) hkx hx
      have c0 := hr.c0
      have c1 := hr.c1
      have b0 := hbw.out.fst
      have b1 := hbw.out.snd
      have hq := fun w => eql_pair x y a b w
      have HY : Hid (decide ((x, y) = (a, b)) = true → r = k) := Lib.hid fun h => HF.out k hkx (by rw [hx]; exact of_decide_eq_true h) hno.out
      have HZ : Hid (decide ((x, y) = (a, b)) = false → ∀ j, j < k + 1 → (layG.at rs j).1 ≠ (a, b)) := Lib.hid fun h j hj => by
        by_cases e : j = k
        · rw [e, hx]; exact of_decide_eq_false h
        · exact hno.out j (by omega)
      generalize decide ((x, y) = (a, b)) = t at hq HY HZ
      clear hr hx hkx hd
      cases t
      · go_wp2
        go_quiet (fail)
        go_wp2
        go_roundw
        case rel => exact ⟨k + 1, by omega, by go_num, Lib.hid (hbw.out.on (Ids.below_draws _ _)), Lib.hid (HZ.out (by first | exact rfl | trivial))⟩
        case measure => simp [intOf]; omega
      · go_wp2
        go_quiet (fail)
        go_wp2
        go_ret
        exact ⟨ret_int (HY.out (by first | exact rfl | trivial)).symm, hbw.out.below.trans ((Ids.below_draws _ _).mono hbw.out.below.size)⟩
    · have kn : ¬ (k : Int) < n := by omega
      clear hd
      go_wp2
      go_ret
      exact ⟨ret_int (HO.out fun j hj => hno.out j (by rw [← HN.out] at hj; omega)).symm, hbw.out.below⟩

/-! ### Check -/
theorem cut_raw (p : Option Addr) (n cap h : Nat) (hh : h ≤ cap) (w : World) : (Instr.slice 22 (.slice p n cap) none (some (.int .i64 h)) none).run Tryz.prog w = .ok (.slice (cutw p cap) h cap) w := cut_wide wtRaw p n cap h hh w
set_option maxHeartbeats 8000000 in
set_option maxRecDepth 100000 in
theorem refgerr_any (v : Value) (rs : List Rcd) (w : World) (h : layG.Row w v rs) (hw : ∀ x ∈ rs, wfG x) : Calls Tryz.prog 6 #[v] w (RetBelow (.int .i64 (gErr rs)) w) := by
  have HROW := Lib.hid h
  obtain ⟨p, cap, rfl, h1, h2⟩ := lay_slice h
  have hd : rs.length = 0 ∨ ∃ B off, p = some ⟨B, off, none⟩ ∧ Hid (layG.In w B off rs) := by
    obtain ⟨p', cap', e, -, hd⟩ := h.parts
    injection e with e1 _ _
    subst e1; exact hd
  obtain ⟨n, hn⟩ : ∃ n, n = rs.length := ⟨_, rfl⟩
  rw [← hn] at h1 hd HROW ⊢
  have HN := Lib.hid hn
  have HW := Lib.hid hw
  have HF : Hid (∀ k, k < rs.length → atErr rs k ≠ 0 → (∀ j, j < k → atErr rs j = 0) → gErr rs = atErr rs k) := Lib.hid fun k h1 h2 h3 => gerr_first h1 h2 h3
  have HO : Hid ((∀ j, j < rs.length → atErr rs j = 0) → gErr rs = 0) := Lib.hid gerr_none
  generalize gErr rs = r at HF HO
  clear h hn hw
  go_enter Tryz.func6, Tryz.ntmps6
  go_wp2_with fail
  go_loopw [3] (fun i wr => ∃ k : Nat, k ≤ n ∧ i = .int .i64 k ∧ Hid (Below w.heap.size w wr) ∧ Hid (∀ j, j < k → atErr rs j = 0)) (fun i _ => n - (intOf i).toNat)
  case atStart => exact ⟨0, Nat.zero_le _, rfl, Lib.hid (Below.refl _ _), Lib.hid fun j hj => absurd hj (Nat.not_lt_zero _)⟩
  case round =>
    obtain ⟨k, hk, rfl, hbw, hno⟩ := hrel
    have k0 : (0 : Int) ≤ k := by omega
    by_cases hkn : k < n
    · have kn : (k : Int) < n := by omega
      obtain ⟨B, off, rfl, HC⟩ := hd.resolve_left (by omega)
      have hkx : k < rs.length := by rw [← HN.out]; exact hkn
      obtain ⟨x, y, q, ds, cs, hx⟩ : ∃ x y q ds cs, layG.at rs k = ((x, y), q, ds, cs) := ⟨_, _, _, _, _, rfl⟩
      obtain ⟨p1, k1, p2, k2, hr, -, -⟩ := rcdAt HC.out hkx hx
      have HR := Lib.hid hr
      have hwf := HW.out _ (layG.at_mem hkx)
      rw [hx] at hwf
      have hA : atErr rs k = if rErr x y q ds cs ≠ 0 then rErr x y q ds cs else if (x, y) ∈ idsG (rs.take k) then 16 else 0 := by
        unfold atErr oneErr; rw [hx]
      have HK := Lib.hid hkx
      have CC : Hid (∀ W, Below w.heap.size w W → Calls Tryz.prog 20 #[.agg #[.int .i64 x, .int .i64 y, .int .i64 q, .slice p1 ds.length k1, .slice p2 cs.length k2]] W (RetBelow (.int .i64 (rErr x y q ds cs)) W)) := Lib.hid fun W hb => refcheck_r x y q _ _ ds cs W (hr.rd.on hb) (hr.rc.on hb) hwf.batch
      have CF : Hid (∀ W, Below w.heap.size w W → Calls Tryz.prog 11 #[.slice (cutw (some ⟨B, off, none⟩) cap) k cap, .agg #[.int .i64 x, .int .i64 y]] W (RetBelow (.int .i64 (findG (rs.take k) (x, y))) W)) := Lib.hid fun W hb => find_any _ _ x y W (row_first (HROW.out.on hb) k (by omega))
      have hsl := fun w => cut_raw (some ⟨B, off, none⟩) n cap k (by omega) w
      have hge := find_ge (rs.take k) (x, y)
      obtain ⟨c0, c1, c2, c3, c4⟩ := (hr.on hbw.out).five
      have CC0 := Lib.hid (CC.out wr hbw.out)
      obtain ⟨l1, hl1⟩ : ∃ l, l = ds.length := ⟨_, rfl⟩
      obtain ⟨l2, hl2⟩ : ∃ l, l = cs.length := ⟨_, rfl⟩
      rw [← hl1] at c3 CC CC0 HR
      rw [← hl2] at c4 CC CC0 HR
      clear hr hwf hx hd hkx hl1 hl2
      by_cases he : rErr x y q ds cs = 0
      · rw [if_neg (fun h => h he)] at hA
        rw [he] at CC CC0
        generalize findG (rs.take k) (x, y) = f at CF hge
        have HA : Hid (atErr rs k = if (x, y) ∈ idsG (rs.take k) then 16 else 0) := Lib.hid hA
        have HM : Hid (decide (0 ≤ f) = decide ((x, y) ∈ idsG (rs.take k))) := Lib.hid hge
        clear he hA hge
        by_cases hm : (x, y) ∈ idsG (rs.take k)
        · have hf : 0 ≤ f := of_decide_eq_true (by rw [HM.out]; exact decide_eq_true hm)
          have hf2 : decide (0 ≤ f) = true := decide_eq_true hf
          have HZ : Hid (r = 16) := Lib.hid (by rw [HF.out k HK.out (by rw [HA.out, if_pos hm]; decide) hno.out, HA.out, if_pos hm])
          clear hm
          go_wp2_with (first
            | (go_at_call 20; ((with_reducible refine CC0.out.mono ?_); rintro e w1 ⟨rfl, hb⟩; have B1 := Lib.hid (hbw.out.trans (hb.mono hbw.out.size)); clear hb))
            )
          go_region_held3 (fun w' => w'.cell? ⟨B, off + k * 5, none⟩ = some (.int .i64 x) ∧ w'.cell? ⟨B, off + k * 5 + 1, none⟩ = some (.int .i64 y))
            (first
              | exact ⟨(HR.out.on B2.out).c0, (HR.out.on B2.out).c1⟩
              | exact ⟨(HR.out.on B1.out).c0, (HR.out.on B1.out).c1⟩
              | exact ⟨(HR.out.on B1.out.drew).c0, (HR.out.on B1.out.drew).c1⟩)
            (first
              | (go_at_call 11; (with_reducible refine (CF.out _ B1.out.drew).mono ?_); rintro e w2 ⟨rfl, hb⟩; have B2 := Lib.hid (B1.out.drew.trans (hb.mono B1.out.drew.size)); clear hb))
          go_wp2_with fail
          go_ret
          exact ⟨ret_int HZ.out.symm, B2.out⟩
        · have hf : ¬ 0 ≤ f := fun h => hm (of_decide_eq_true (by rw [← HM.out]; exact decide_eq_true h))
          have hf2 : decide (0 ≤ f) = false := decide_eq_false hf
          have HZ : Hid (atErr rs k = 0) := Lib.hid (by rw [HA.out, if_neg hm])
          clear hm
          go_wp2_with (first
            | (go_at_call 20; ((with_reducible refine CC0.out.mono ?_); rintro e w1 ⟨rfl, hb⟩; have B1 := Lib.hid (hbw.out.trans (hb.mono hbw.out.size)); clear hb))
            )
          go_region_held3 (fun w' => w'.cell? ⟨B, off + k * 5, none⟩ = some (.int .i64 x) ∧ w'.cell? ⟨B, off + k * 5 + 1, none⟩ = some (.int .i64 y))
            (first
              | exact ⟨(HR.out.on B2.out).c0, (HR.out.on B2.out).c1⟩
              | exact ⟨(HR.out.on B1.out).c0, (HR.out.on B1.out).c1⟩
              | exact ⟨(HR.out.on B1.out.drew).c0, (HR.out.on B1.out.drew).c1⟩)
            (first
              | (go_at_call 11; (with_reducible refine (CF.out _ B1.out.drew).mono ?_); rintro e w2 ⟨rfl, hb⟩; have B2 := Lib.hid (B1.out.drew.trans (hb.mono B1.out.drew.size)); clear hb))
          go_wp2_with fail
          go_roundw
          case rel => exact ⟨k + 1, by omega, by go_num, B2, Lib.hid fun j hj => by
            by_cases e : j = k
            · rw [e]; exact HZ.out
            · exact hno.out j (by omega)⟩
          case measure => simp [intOf]; omega
      · have HZ : Hid (r = rErr x y q ds cs) := Lib.hid (by rw [if_pos he] at hA; rw [HF.out k HK.out (by rw [hA]; exact he) hno.out, hA])
        generalize rErr x y q ds cs = e0 at CC CC0 HZ he
        have hq1 : (e0 == (0 : Int)) = false := beq_eq_false_iff_ne.2 he
        have hq2 : (e0 != (0 : Int)) = true := by rw [bne, hq1]; rfl
        have HS := Lib.hid (fun W (hb : Below w.heap.size w W) => (HR.out.on hb).five)
        clear hA hge
        go_wp2_with (first
          | (go_at_call 20; ((with_reducible refine CC0.out.mono ?_); rintro e w1 ⟨rfl, hb⟩; have B1 := Lib.hid (hbw.out.trans (hb.mono hbw.out.size)); have CC1 := Lib.hid (CC.out w1 B1.out); obtain ⟨d0, d1, d2, d3, d4⟩ := HS.out w1 B1.out; clear hb CC0))
          | (go_at_call 20; ((with_reducible refine CC1.out.mono ?_); rintro e w2 ⟨rfl, hb⟩; have B2 := Lib.hid (B1.out.trans (hb.mono B1.out.size)); clear hb)))
        go_ret
        exact ⟨ret_int HZ.out.symm, B2.out⟩
    · have kn : ¬ (k : Int) < n := by omega
      clear hd
      go_wp2_with fail
      go_ret
      exact ⟨ret_int (HO.out fun j hj => hno.out j (by rw [← HN.out] at hj; omega)).symm, hbw.out⟩
end Go.Proofs.YtomidcbpnaajeaaGreat.Gra

/- What the document's Ids, Missing and Users of records give (layer 15), and whether records are not too many. Conditions: the records lie in memory as their cells say; lists not longer than 100000 together. -/
namespace Go.Proofs.YtomidcbpnaajeaaGreat.Gra
open Go.RowKit Cmd Bat Ids Rec Wid
set_option linter.unusedVariables false
set_option linter.unusedSimpArgs false

theorem row_void (w : World) : RowAt (w.alloc (.cells #[] 32)) (.slice (some ⟨w.heap.size, 0, none⟩) 0 0) [] := Owns.row (base := 0) (zs := []) (World.ownsRow_made w #[] 0 (Nat.zero_le _) (by decide) rfl)

/-! ### Ids -/
set_option maxHeartbeats 4000000 in
set_option maxRecDepth 100000 in
theorem refids_any (v : Value) (rs : List Rcd) (w : World) (h : layG.Row w v rs) (hl : rs.length ≤ 100000) : Calls Tryz.prog 27 #[v] w (GivesRow (gIds rs) w) := by
  obtain ⟨p, cap, rfl, h1, hd⟩ := h.parts
  obtain ⟨n, hn⟩ : ∃ n, n = rs.length := ⟨_, rfl⟩
  rw [← hn] at h1 hd hl ⊢
  have HN := Lib.hid hn
  have HT : Hid (srt (idsG (rs.take n)) = gIds rs) := Lib.hid (by rw [hn, List.take_length]; rfl)
  have B0 := Lib.hid (Cmd.below_one w (.cells #[] 32))
  have R0 := Lib.hid (row_void w)
  clear h hn
  go_enter Tryz.func27, Tryz.ntmps27
  go_wp2_with fail
  go_loopw [3, 4] (fun o i wr => ∃ k : Nat, k ≤ n ∧ i = .int .i64 k ∧ Hid (Below w.heap.size w wr) ∧ Hid (RowAt wr o (srt (idsG (rs.take k))))) (fun _ i _ => n - (intOf i).toNat)
  case atStart => exact ⟨0, Nat.zero_le _, rfl, B0, R0⟩
  case round =>
    obtain ⟨k, hk, rfl, hbw, hrow⟩ := hrel
    have k0 : (0 : Int) ≤ k := by omega
    by_cases hkn : k < n
    · have kn : (k : Int) < n := by omega
      obtain ⟨B, off, rfl, HC⟩ := hd.resolve_left (by omega)
      have hkx : k < rs.length := by rw [← HN.out]; exact hkn
      obtain ⟨x, y, q, ds, cs, hx⟩ : ∃ x y q ds cs, layG.at rs k = ((x, y), q, ds, cs) := ⟨_, _, _, _, _, rfl⟩
      obtain ⟨p1, k1, p2, k2, hr, -, -⟩ := rcdAt (HC.out.on hbw.out) hkx hx
      have c0 := hr.c0
      have c1 := hr.c1
      have HS : Hid (srt (idsG (rs.take (k + 1))) = put (srt (idsG (rs.take k))) (x, y)) := Lib.hid (by rw [layG.take hkx, idsG_snoc, srt_snoc, hx])
      have HP := Lib.hid (put_any u3 (srt (idsG (rs.take k))) x y wr hrow.out (by have := srt_length (idsG (rs.take k)); rw [idsG_len, List.length_take] at this; omega))
      clear hr hx hkx hd
      go_wp2_with (first
        | (go_at_call 36; ((with_reducible refine HP.out.mono ?_); rintro e w1 ⟨u, rfl, hru, hb⟩; have HU := Lib.hid hru; have HB := Lib.hid hb; clear hru hb)))
      go_roundw
      case rel => exact ⟨k + 1, by omega, by go_num, Lib.hid (hbw.out.trans (HB.out.mono hbw.out.size)), Lib.hid (by rw [HS.out]; exact HU.out)⟩
      case measure => simp [intOf]; omega
    · obtain rfl : k = n := by omega
      have kn : ¬ (k : Int) < k := by omega
      clear hd
      go_wp2_with fail
      go_ret
      exact ⟨_, rfl, by rw [← HT.out]; exact hrow.out, hbw.out⟩

/-! ### Users -/
end Go.Proofs.YtomidcbpnaajeaaGreat.Gra

/- What the document's Missing of records gives (layer 15), and whether records are not too many. Conditions: the records lie in memory as their cells say; their Deps not more than 100000 together. -/
namespace Go.Proofs.YtomidcbpnaajeaaGreat.Gra
open Go.RowKit Cmd Bat Ids Rec Wid
set_option linter.unusedVariables false
set_option linter.unusedSimpArgs false

/-! ### Missing -/
/-- Of the first ones of one record's Deps, those that are not there. -/
def lackK (all : List Rcd) (ds : List Idn) (k : Nat) : List Idn := (ds.take k).filter fun d => !decide (d ∈ idsG all)
theorem lackK_step {all : List Rcd} {ds : List Idn} {k : Nat} (h : k < ds.length) : lackK all ds (k + 1) = lackK all ds k ++ if nth ds k ∈ idsG all then [] else [nth ds k] := by
  unfold lackK
  have e : nth ds k = ds[k] := by unfold nth; rw [List.getD_eq_getElem?_getD, List.getElem?_eq_getElem h]; rfl
  rw [List.take_succ_eq_append_getElem h, List.filter_append, e]
  congr 1
  by_cases hm : ds[k] ∈ idsG all
  · rw [if_pos hm]; simp [hm]
  · rw [if_neg hm]; simp [hm]
theorem lackK_all (all : List Rcd) (ds : List Idn) : lackK all ds ds.length = ds.filter fun d => !decide (d ∈ idsG all) := by unfold lackK; rw [List.take_length]
theorem lackK_len (all : List Rcd) (ds : List Idn) (k : Nat) : (lackK all ds k).length ≤ ds.length := by
  unfold lackK
  refine Nat.le_trans (List.length_filter_le _ _) ?_
  rw [List.length_take]; omega
theorem row2_of {w : World} {p : Option Addr} {n cap : Nat} {ds : List Idn} (h : RowAt w (.slice p n cap) ds) (hn : 0 < ds.length) : ∃ B off, p = some ⟨B, off, none⟩ ∧ Row2 w B off ds := by
  obtain ⟨p', cap', e, -, -, -, h3⟩ := h
  injection e with e1 _ _
  subst e1
  obtain ⟨B, off, rfl, hlt, hc⟩ := h3 (by rintro rfl; simp at hn)
  exact ⟨B, off, rfl, hlt, fun j hj => (hc j hj).1, fun j hj => (hc j hj).2⟩

/-! ### Few -/
def lowG (r : Rcd) : Bool := decide (r.2.2.1.length ≤ 20) && decide (r.2.2.2.length ≤ 20)
def fewG (rs : List Rcd) (most : Nat) : Bool := rs.all lowG && decide (rs.length ≤ most)
theorem few_not {rs : List Rcd} {most k : Nat} (hk : k < rs.length) (h : lowG (layG.at rs k) = false) : fewG rs most = false := by
  unfold fewG
  have : rs.all lowG = false := by
    rw [Bool.eq_false_iff]
    intro ha
    rw [List.all_eq_true] at ha
    rw [ha _ (layG.at_mem hk)] at h; cases h
  rw [this]; rfl
theorem few_yes {rs : List Rcd} {most : Nat} (h : ∀ j, j < rs.length → lowG (layG.at rs j) = true) : fewG rs most = decide (rs.length ≤ most) := by
  unfold fewG
  have : rs.all lowG = true := by
    rw [List.all_eq_true]
    intro r hr
    obtain ⟨j, hj, e⟩ := (Lay.mem (L := layG)).1 hr
    rw [← e]; exact h j hj
  rw [this]; rfl
theorem few_out {rs : List Rcd} {most : Nat} (h : fewG rs most = true) : rs.length ≤ most ∧ ∀ r ∈ rs, r.2.2.1.length ≤ 20 ∧ r.2.2.2.length ≤ 20 := by
  unfold fewG at h
  rw [Bool.and_eq_true, decide_eq_true_eq, List.all_eq_true] at h
  refine ⟨h.2, fun r hr => ?_⟩
  have := h.1 r hr
  unfold lowG at this
  rw [Bool.and_eq_true, decide_eq_true_eq, decide_eq_true_eq] at this
  exact this
theorem deps_few : ∀ {rs : List Rcd} {m : Nat}, (∀ r ∈ rs, r.2.2.1.length ≤ m) → (depsG rs).length ≤ rs.length * m
  | [], m, _ => by simp [depsG]
  | r :: rs, m, h => by
    have h1 := deps_few (rs := rs) (m := m) fun x hx => h x (List.mem_cons_of_mem _ hx)
    have h2 := h r List.mem_cons_self
    show (r.2.2.1 ++ depsG rs).length ≤ _
    rw [List.length_append, List.length_cons, Nat.succ_mul]; omega
set_option maxHeartbeats 4000000 in
set_option maxRecDepth 100000 in
theorem few_any (v : Value) (rs : List Rcd) (most : Nat) (hmost : most ≤ 1000000) (w : World) (h : layG.Row w v rs) : Calls Tryz.prog 5 #[v, .int .i64 most] w (RetBelow (.bool (fewG rs most)) w) := by
  obtain ⟨p, cap, rfl, h1, hd⟩ := h.parts
  obtain ⟨n, hn⟩ : ∃ n, n = rs.length := ⟨_, rfl⟩
  rw [← hn] at h1 hd ⊢
  have HN := Lib.hid hn
  have HF : Hid (∀ k, k < rs.length → lowG (layG.at rs k) = false → fewG rs most = false) := Lib.hid fun k h1 h2 => few_not h1 h2
  have HO : Hid ((∀ j, j < rs.length → lowG (layG.at rs j) = true) → fewG rs most = decide (n ≤ most)) := Lib.hid (by rw [hn]; exact few_yes)
  generalize fewG rs most = r at HF HO
  obtain ⟨mi, hmi⟩ : ∃ mi : Int, mi = most := ⟨_, rfl⟩
  rw [← hmi]
  have HMI : Hid (decide (n ≤ most) = decide ((n : Int) ≤ mi)) := Lib.hid (by rw [Bool.eq_iff_iff, decide_eq_true_eq, decide_eq_true_eq]; omega)
  clear h hn hmi
  go_enter Tryz.func5, Tryz.ntmps5
  go_wp2_with fail
  go_loopw [5] (fun i wr => ∃ k : Nat, k ≤ n ∧ i = .int .i64 k ∧ Hid (Below w.heap.size w wr) ∧ Hid (∀ j, j < k → lowG (layG.at rs j) = true)) (fun i _ => n - (intOf i).toNat)
  case atStart => exact ⟨0, Nat.zero_le _, rfl, Lib.hid (Below.refl _ _), Lib.hid fun j hj => absurd hj (Nat.not_lt_zero _)⟩
  case round =>
    obtain ⟨k, hk, rfl, hbw, hno⟩ := hrel
    have k0 : (0 : Int) ≤ k := by omega
    by_cases hkn : k < n
    · have kn : (k : Int) < n := by omega
      obtain ⟨B, off, rfl, HC⟩ := hd.resolve_left (by omega)
      have hkx : k < rs.length := by rw [← HN.out]; exact hkn
      obtain ⟨x, y, q, ds, cs, hx⟩ : ∃ x y q ds cs, layG.at rs k = ((x, y), q, ds, cs) := ⟨_, _, _, _, _, rfl⟩
      obtain ⟨p1, k1, p2, k2, hr, -, -⟩ := rcdAt (HC.out.on hbw.out) hkx hx
      obtain ⟨-, -, -, c3, c4⟩ := hr.five
      have hlo : lowG (layG.at rs k) = (decide (ds.length ≤ 20) && decide (cs.length ≤ 20)) := by rw [hx]; rfl
      have HFK := Lib.hid (HF.out k hkx)
      obtain ⟨l1, hl1⟩ : ∃ l, l = ds.length := ⟨_, rfl⟩
      obtain ⟨l2, hl2⟩ : ∃ l, l = cs.length := ⟨_, rfl⟩
      rw [← hl1] at c3 hlo
      rw [← hl2] at c4 hlo
      clear hr hx hkx hd hl1 hl2
      by_cases h20 : 20 < l1
      · have e1 : decide ((20 : Int) < l1) = true := decide_eq_true (by omega)
        have e2 : (20 : Int) < l1 := by omega
        have HZ : Hid (r = false) := Lib.hid (HFK.out (by rw [hlo, decide_eq_false (by omega)]; rfl))
        clear hlo h20
        go_wp2_with fail
        go_ret
        exact ⟨ret_bool HZ.out.symm, hbw.out⟩
      · have e1 : decide ((20 : Int) < l1) = false := decide_eq_false (by omega)
        have e2 : ¬ (20 : Int) < l1 := by omega
        rw [decide_eq_true (by omega : l1 ≤ 20), Bool.true_and] at hlo
        clear h20
        by_cases h21 : 20 < l2
        · have e3 : decide ((20 : Int) < l2) = true := decide_eq_true (by omega)
          have e4 : (20 : Int) < l2 := by omega
          have HZ : Hid (r = false) := Lib.hid (HFK.out (by rw [hlo]; exact decide_eq_false (by omega)))
          clear hlo h21
          go_wp2_with fail
          go_ret
          exact ⟨ret_bool HZ.out.symm, hbw.out⟩
        · have e3 : decide ((20 : Int) < l2) = false := decide_eq_false (by omega)
          have e4 : ¬ (20 : Int) < l2 := by omega
          have HZ : Hid (lowG (layG.at rs k) = true) := Lib.hid (by rw [hlo]; exact decide_eq_true (by omega))
          clear hlo h21
          go_wp2_with fail
          go_roundw
          case rel => exact ⟨k + 1, by omega, by go_num, hbw, Lib.hid fun j hj => by
            by_cases e : j = k
            · rw [e]; exact HZ.out
            · exact hno.out j (by omega)⟩
          case measure => simp [intOf]; omega
    · obtain rfl : k = n := by omega
      have kn : ¬ (k : Int) < k := by omega
      have HZ : Hid (r = decide ((k : Int) ≤ mi)) := Lib.hid (by rw [HO.out fun j hj => hno.out j (by rw [HN.out]; exact hj), HMI.out])
      clear hd
      go_wp2_with fail
      go_ret
      exact ⟨ret_bool HZ.out.symm, hbw.out⟩
end Go.Proofs.YtomidcbpnaajeaaGreat.Gra
