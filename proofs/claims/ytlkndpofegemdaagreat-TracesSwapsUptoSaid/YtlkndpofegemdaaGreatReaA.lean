/- What ids reach (layer 16, reach), plain: the list of all that some ids reach; which lists are whole, which records are closed. No condition but those in each statement. -/
import Derived.Test.YtlkndpofegemdaaGreatGraA
namespace Go.Proofs.YtlkndpofegemdaaGreat.Rea
open Go.RowKit Cmd Bat Ids Rec Wid Gra
set_option linter.unusedVariables false
set_option linter.unusedSimpArgs false

theorem dp_at {rs : List Rcd} {x : Idn} {k : Nat} (hk : k < rs.length) (h : (layG.at rs k).1 = x) (hn : ∀ j, j < k → (layG.at rs j).1 ≠ x) : dpG rs x = (layG.at rs k).2.2.1 := by
  have e : rs.find? (fun r => decide (r.1 = x)) = some (layG.at rs k) := by
    rw [List.find?_eq_some_iff_getElem]
    refine ⟨decide_eq_true h, k, hk, (layG.at_get hk).symm, fun j hj => ?_⟩
    have := hn j hj
    rw [layG.at_get (by omega)] at this
    simp [this]
  unfold dpG
  rw [e]
theorem dp_no {rs : List Rcd} {x : Idn} (h : x ∉ idsG rs) : dpG rs x = [] := by
  have e : rs.find? (fun r => decide (r.1 = x)) = none := by
    rw [List.find?_eq_none]
    intro r hr hd
    exact h (List.mem_map.2 ⟨r, hr, of_decide_eq_true hd⟩)
  unfold dpG
  rw [e]
theorem dp_sub {rs : List Rcd} {x d : Idn} (h : d ∈ dpG rs x) : d ∈ depsG rs := by
  unfold dpG at h
  cases hf : rs.find? (fun r => decide (r.1 = x)) with
  | none => rw [hf] at h; cases h
  | some r => rw [hf] at h; exact List.mem_flatMap.2 ⟨r, List.mem_of_find?_eq_some hf, h⟩
/-- An id reaches another one. -/
inductive Rch (rs : List Rcd) : Idn → Idn → Prop
  | here (x : Idn) : Rch rs x x
  | more {x y z : Idn} : Rch rs x y → z ∈ dpG rs y → Rch rs x z
theorem Rch.trans {rs : List Rcd} {x y z : Idn} (h : Rch rs x y) (k : Rch rs y z) : Rch rs x z := by
  induction k with
  | here => exact h
  | more _ hd ih => exact .more ih hd
open Classical in
/-- All that some ids reach, in order. -/
noncomputable def fromG (rs : List Rcd) (l : List Idn) : List Idn := srt ((l ++ depsG rs).filter fun z => decide (∃ a ∈ l, Rch rs a z))
theorem from_mem {rs : List Rcd} {l : List Idn} {z : Idn} : z ∈ fromG rs l ↔ ∃ a ∈ l, Rch rs a z := by
  classical
  unfold fromG
  rw [srt_mem, List.mem_filter, List.mem_append]
  constructor
  · rintro ⟨-, h⟩; exact of_decide_eq_true h
  · intro h
    refine ⟨?_, decide_eq_true h⟩
    obtain ⟨a, ha, hr⟩ := h
    cases hr with
    | here => exact .inl ha
    | more _ hd => exact .inr (dp_sub hd)
theorem from_rise (rs : List Rcd) (l : List Idn) : Rise (fromG rs l) := srt_rise _
theorem from_len (rs : List Rcd) (l : List Idn) : (fromG rs l).length ≤ l.length + (depsG rs).length := by
  unfold fromG
  refine Nat.le_trans (srt_length _) (Nat.le_trans (List.length_filter_le _ _) ?_)
  rw [List.length_append]; exact Nat.le_refl _
theorem from_is {rs : List Rcd} {l zs : List Idn} (h1 : Rise zs) (h2 : ∀ a ∈ l, a ∈ zs) (h3 : ∀ z ∈ zs, ∃ a ∈ l, Rch rs a z) (h4 : ∀ z ∈ zs, ∀ d ∈ dpG rs z, d ∈ zs) : zs = fromG rs l :=
  rise_eq h1 (from_rise _ _) fun z => by
    rw [from_mem]
    refine ⟨h3 z, ?_⟩
    rintro ⟨a, ha, hr⟩
    induction hr with
    | here => exact h2 a ha
    | more _ hd ih => exact h4 _ ih _ hd
theorem rise_nodupI {l : List Idn} (h : Rise l) : l.Nodup := by
  refine List.Pairwise.imp (fun {a b} hab e => ?_) h
  subst e
  rw [lt_irr] at hab; cases hab
theorem nodup_lenI : ∀ {a b : List Idn}, a.Nodup → (∀ x ∈ a, x ∈ b) → a.length ≤ b.length
  | [], b, _, _ => Nat.zero_le _
  | x :: a, b, h, hs => by
    obtain ⟨h1, h2⟩ := List.nodup_cons.1 h
    have hx := hs x List.mem_cons_self
    have := nodup_lenI (a := a) (b := b.erase x) h2 (fun y hy => (List.mem_erase_of_ne (fun e => h1 (by rw [← e]; exact hy))).2 (hs y (List.mem_cons_of_mem _ hy)))
    rw [List.length_erase_of_mem hx] at this
    have := List.length_pos_of_mem hx
    simp only [List.length_cons]; omega
theorem rise_all {a b : List Idn} (ha : Rise a) (hb : Rise b) (hs : ∀ x ∈ a, x ∈ b) (hl : b.length ≤ a.length) : a = b :=
  rise_eq ha hb fun x => ⟨hs x, fun hx => Classical.byContradiction fun hn => by
    have := nodup_lenI (a := a) (b := b.erase x) (rise_nodupI ha) (fun y hy => (List.mem_erase_of_ne (fun e => hn (by rw [← e]; exact hy))).2 (hs y hy))
    rw [List.length_erase_of_mem hx] at this
    have := List.length_pos_of_mem hx
    omega⟩
/-- How far the document's From has come: zs as the round began, ms: what there is now; the Deps of the first i are in it. -/
structure Grows (rs : List Rcd) (l zs ms : List Idn) (i : Nat) : Prop where
  rz : Rise zs
  rm : Rise ms
  all : ∀ a ∈ l, a ∈ zs
  sub : ∀ z ∈ zs, z ∈ ms
  ok : ∀ z ∈ ms, ∃ a ∈ l, Rch rs a z
  come : ∀ z ∈ zs.take i, ∀ d ∈ dpG rs z, d ∈ ms
theorem Grows.start (rs : List Rcd) (l : List Idn) : Grows rs l (srt l) (srt l) 0 :=
  ⟨srt_rise _, srt_rise _, fun a ha => (srt_mem _ _).2 ha, fun z hz => hz, fun z hz => ⟨z, (srt_mem _ _).1 hz, .here z⟩, fun z hz => by simp at hz⟩
theorem Grows.next {rs : List Rcd} {l zs ms : List Idn} {i : Nat} (g : Grows rs l zs ms i) : Grows rs l ms ms 0 :=
  ⟨g.rm, g.rm, fun a ha => g.sub a (g.all a ha), fun z hz => hz, g.ok, fun z hz => by simp at hz⟩
theorem Grows.len {rs : List Rcd} {l zs ms : List Idn} {i : Nat} (g : Grows rs l zs ms i) : zs.length ≤ ms.length ∧ ms.length ≤ l.length + (depsG rs).length :=
  ⟨nodup_lenI (rise_nodupI g.rz) g.sub, Nat.le_trans (nodup_lenI (rise_nodupI g.rm) fun z hz => from_mem.2 (g.ok z hz)) (from_len rs l)⟩
theorem Grows.put {rs : List Rcd} {l zs ms : List Idn} {i : Nat} (g : Grows rs l zs ms i) {z d : Idn} (hz : z ∈ zs) (hd : d ∈ dpG rs z) : Grows rs l zs (put ms d) i :=
  ⟨g.rz, put_rise g.rm, g.all, fun y hy => (put_mem _ _ _).2 (.inr (g.sub y hy)), fun y hy => by
    rcases (put_mem _ _ _).1 hy with rfl | h
    rotate_left
    · exact g.ok y h
    · obtain ⟨a, ha, hr⟩ := g.ok z (g.sub z hz)
      exact ⟨a, ha, .more hr hd⟩, fun y hy e he => (put_mem _ _ _).2 (.inr (g.come y hy e he))⟩
theorem Grows.step {rs : List Rcd} {l zs ms : List Idn} {i : Nat} (g : Grows rs l zs ms i) (hi : i < zs.length) (h : ∀ d ∈ dpG rs (nth zs i), d ∈ ms) : Grows rs l zs ms (i + 1) :=
  ⟨g.rz, g.rm, g.all, g.sub, g.ok, fun z hz => by
    rw [List.take_succ_eq_append_getElem hi, List.mem_append, List.mem_singleton] at hz
    rcases hz with hz | rfl
    · exact g.come z hz
    · have e : nth zs i = zs[i] := by unfold nth; rw [List.getD_eq_getElem?_getD, List.getElem?_eq_getElem hi]; rfl
      rw [← e]; exact h⟩
theorem Grows.done {rs : List Rcd} {l zs ms : List Idn} {i : Nat} (g : Grows rs l zs ms i) (hi : zs.length ≤ i) (hl : ms.length = zs.length) : zs = fromG rs l := by
  have e := rise_all g.rz g.rm g.sub (by omega)
  refine from_is g.rz g.all (fun z hz => g.ok z (g.sub z hz)) fun z hz d hd => ?_
  rw [e]
  exact g.come z (by rw [List.take_of_length_le hi]; exact hz) d hd

/-! ### Whole, closed -/
open Classical in
noncomputable def wholeG (rs : List Rcd) (l : List Idn) : Bool := decide (∀ z ∈ fromG rs l, z ∈ idsG rs ∧ z ∈ l)
open Classical in
noncomputable def openG (rs : List Rcd) (x : Idn) : Bool := decide (∀ z ∈ fromG rs [x], z ∈ idsG rs)
noncomputable def closedG (rs : List Rcd) : List Idn := srt ((idsG rs).filter fun x => openG rs x)
theorem open_iff {rs : List Rcd} {x : Idn} : openG rs x = true ↔ ∀ z, Rch rs x z → z ∈ idsG rs := by
  classical
  unfold openG
  rw [decide_eq_true_iff]
  exact ⟨fun h z hz => h z (from_mem.2 ⟨x, List.mem_singleton.2 rfl, hz⟩), fun h z hz => by
    obtain ⟨a, ha, hr⟩ := from_mem.1 hz
    rw [List.mem_singleton.1 ha] at hr
    exact h z hr⟩
theorem closed_mem {rs : List Rcd} {x : Idn} : x ∈ closedG rs ↔ ∀ z, Rch rs x z → z ∈ idsG rs := by
  unfold closedG
  rw [srt_mem, List.mem_filter, open_iff]
  exact ⟨fun h => h.2, fun h => ⟨h x (.here x), h⟩⟩
theorem whole_iff {rs : List Rcd} {l : List Idn} : wholeG rs l = true ↔ ∀ a ∈ l, ∀ z, Rch rs a z → z ∈ idsG rs ∧ z ∈ l := by
  classical
  unfold wholeG
  rw [decide_eq_true_iff]
  exact ⟨fun h a ha z hz => h z (from_mem.2 ⟨a, ha, hz⟩), fun h z hz => by
    obtain ⟨a, ha, hr⟩ := from_mem.1 hz
    exact h a ha z hr⟩
theorem closed_whole (rs : List Rcd) : wholeG rs (closedG rs) = true :=
  whole_iff.2 fun a ha z hz => ⟨closed_mem.1 ha z hz, closed_mem.2 fun y hy => closed_mem.1 ha y (hz.trans hy)⟩
theorem whole_closed {rs : List Rcd} {l : List Idn} (h : wholeG rs l = true) {x : Idn} (hx : x ∈ l) : x ∈ closedG rs :=
  closed_mem.2 fun z hz => (whole_iff.1 h x hx z hz).1
end Go.Proofs.YtlkndpofegemdaaGreat.Rea

/- What the document's From gives (layer 16, reach): all that some ids reach. Conditions: the rows lie in memory as their cells say; the ids and all Deps together are not more than 90000. -/
namespace Go.Proofs.YtlkndpofegemdaaGreat.Rea
open Go.RowKit Cmd Bat Ids Rec Wid Gra
set_option linter.unusedVariables false
set_option linter.unusedSimpArgs false

def lenOf : Value → Nat
  | .slice _ n _ => n
  | _ => 0
end Go.Proofs.YtlkndpofegemdaaGreat.Rea

/- What the document's Whole and Closed give (layer 16, reach). Conditions: the rows lie in memory as their cells say; the ids and all Deps together are not more than 80000. -/
namespace Go.Proofs.YtlkndpofegemdaaGreat.Rea
open Go.RowKit Cmd Bat Ids Rec Wid Gra
set_option linter.unusedVariables false
set_option linter.unusedSimpArgs false

theorem nth_mem {l : List Idn} {k : Nat} (h : k < l.length) : nth l k ∈ l := by unfold nth; rw [List.getD_eq_getElem?_getD, List.getElem?_eq_getElem h]; exact List.getElem_mem h
theorem take_nth {l : List Idn} {k : Nat} (h : k < l.length) : l.take (k + 1) = l.take k ++ [nth l k] := by
  rw [List.take_succ_eq_append_getElem h]; unfold nth; rw [List.getD_eq_getElem?_getD, List.getElem?_eq_getElem h]; rfl
theorem whole_no {rs : List Rcd} {l : List Idn} {z : Idn} (h : z ∈ fromG rs l) (hn : ¬ (z ∈ idsG rs ∧ z ∈ l)) : wholeG rs l = false := by
  cases hw : wholeG rs l with
  | false => rfl
  | true =>
    obtain ⟨a, ha, hr⟩ := from_mem.1 h
    exact absurd (whole_iff.1 hw a ha z hr) hn
theorem whole_yes {rs : List Rcd} {l : List Idn} (h : ∀ z ∈ fromG rs l, z ∈ idsG rs ∧ z ∈ l) : wholeG rs l = true := whole_iff.2 fun a ha z hr => h z (from_mem.2 ⟨a, ha, hr⟩)
/-! ### Closed -/
theorem open_no {rs : List Rcd} {x z : Idn} (h : z ∈ fromG rs [x]) (hn : z ∉ idsG rs) : openG rs x = false := by
  cases hw : openG rs x with
  | false => rfl
  | true =>
    obtain ⟨a, ha, hr⟩ := from_mem.1 h
    rw [List.mem_singleton.1 ha] at hr
    exact absurd (open_iff.1 hw z hr) hn
theorem open_yes {rs : List Rcd} {x : Idn} (h : ∀ z ∈ fromG rs [x], z ∈ idsG rs) : openG rs x = true := open_iff.2 fun z hr => h z (from_mem.2 ⟨x, List.mem_singleton.2 rfl, hr⟩)
def inAll (rs : List Rcd) (zs : List Idn) : Bool := zs.all fun z => decide (z ∈ idsG rs)
theorem in_snoc (rs : List Rcd) (zs : List Idn) (z : Idn) : inAll rs (zs ++ [z]) = (inAll rs zs && decide (z ∈ idsG rs)) := by unfold inAll; rw [List.all_append]; simp
theorem in_open (rs : List Rcd) (x : Idn) : inAll rs (fromG rs [x]) = openG rs x := by
  cases h : inAll rs (fromG rs [x]) with
  | true =>
    refine (open_yes fun z hz => ?_).symm
    unfold inAll at h
    rw [List.all_eq_true] at h
    exact of_decide_eq_true (h z hz)
  | false =>
    unfold inAll at h
    rw [List.all_eq_false] at h
    obtain ⟨z, hz, hd⟩ := h
    exact (open_no hz (fun hm => hd (decide_eq_true hm))).symm
/-- What is closed of the first ones. -/
noncomputable def closL (rs : List Rcd) (k : Nat) : List Idn := srt ((idsG (rs.take k)).filter fun x => openG rs x)
theorem clos_len (rs : List Rcd) (k : Nat) : (closL rs k).length ≤ k := by
  unfold closL
  refine Nat.le_trans (srt_length _) (Nat.le_trans (List.length_filter_le _ _) ?_)
  rw [idsG_len, List.length_take]; omega
theorem clos_step {rs : List Rcd} {k : Nat} (hk : k < rs.length) {x : Idn} (hx : (layG.at rs k).1 = x) : closL rs (k + 1) = if openG rs x then put (closL rs k) x else closL rs k := by
  unfold closL
  rw [layG.take hk, idsG_snoc, List.filter_append, hx]
  cases h : openG rs x with
  | true => simp [h, srt_snoc]
  | false => simp [h]
theorem one_row (w : World) (x y : Int) : RowAt (w.alloc (.cells #[.int .i64 x, .int .i64 y] 43)) (.slice (some ⟨w.heap.size, 0, none⟩) 1 1) [(x, y)] := by
  have h := heap_alloc_new w (.cells #[.int .i64 x, .int .i64 y] 43)
  refine ⟨some ⟨w.heap.size, 0, none⟩, 1, rfl, Nat.le_refl _, by omega, (fun e => by cases e), fun _ => ⟨w.heap.size, 0, rfl, by simp, fun j hj => ?_⟩⟩
  have hj0 : j = 0 := by simp at hj; exact hj
  subst hj0
  constructor
  · show World.cell? _ ⟨w.heap.size, 0, none⟩ = some (.int .i64 x)
    simp only [World.cell?]; rw [h]; rfl
  · show World.cell? _ ⟨w.heap.size, 1, none⟩ = some (.int .i64 y)
    simp only [World.cell?]; rw [h]; rfl
end Go.Proofs.YtlkndpofegemdaaGreat.Rea
