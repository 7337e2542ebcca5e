/- The steps of a way in memory (layer 17, comps): rows of the call's own whose elements are an id and a slice of those that are open. Conditions: those in each statement. -/
import Derived.Test.YtjokejcokgeeiaaGreatSls
import Derived.Test.YtjokejcokgeeiaaGreatApp
import Derived.Test.YtjokejcokgeeiaaGreatSetA
import Derived.Laws.OwnMore
import Derived.Test.YtjokejcokgeeiaaGreatCpsK
namespace Go.Proofs.YtjokejcokgeeiaaGreat.Cps
open Go.RowKit Cmd Bat Ids Rec Wid Gra
set_option linter.unusedVariables false
set_option linter.unusedSimpArgs false

/-- An id, the slice of those that are open, and what it reads as. -/
abbrev Stp := Idn × Slc × List Idn
def layStp : Lay Stp := ⟨((0, 0), (none, 0, 0), []), fun o j => o + j * 3, fun w b o x => w.cell? ⟨b, o, none⟩ = some (.int .i64 x.1.1) ∧ w.cell? ⟨b, o + 1, none⟩ = some (.int .i64 x.1.2) ∧ w.cell? ⟨b, o + 2, none⟩ = some (sliceOf x.2.1),
  fun {w w' b o x} hb h ⟨h0, h1, h2⟩ => ⟨(h.cell (p := ⟨b, o, none⟩) hb).trans h0, (h.cell (p := ⟨b, o + 1, none⟩) hb).trans h1, (h.cell (p := ⟨b, o + 2, none⟩) hb).trans h2⟩⟩
theorem stp_at {a b c : Value} {w : World} {g o : Nat} (h0 : w.cell? ⟨g, o, none⟩ = some a) (h1 : w.cell? ⟨g, o + 1, none⟩ = some b) (h2 : w.cell? ⟨g, o + 2, none⟩ = some c) : ∀ i u, [a, b, c][i]? = some u → w.cell? ⟨g, o + i, none⟩ = some u
  | 0, u, hu => by injection hu with hu; subst hu; exact h0
  | 1, u, hu => by injection hu with hu; subst hu; exact h1
  | 2, u, hu => by injection hu with hu; subst hu; exact h2
  | i + 3, u, hu => by simp at hu
def wdStp : Wd Stp where
  L := layStp
  enc x := [.int .i64 x.1.1, .int .i64 x.1.2, sliceOf x.2.1]
  c := 3
  cpos := by decide
  pos _ _ := rfl
  len _ := rfl
  one x u hu := by
    simp only [List.mem_cons, List.not_mem_nil, or_false] at hu
    rcases hu with rfl | rfl | rfl <;> rfl
  lies h := ⟨h 0 _ rfl, h 1 _ rfl, h 2 _ rfl⟩
  cells h := stp_at h.1 h.2.1 h.2.2
theorem wtStp : Wt wdStp 141 140 (.agg #[.int .i64 0, .int .i64 0, .slice none 0 0]) 40 := ⟨Tryz.underlying141, by kernel_rfl, by kernel_rfl, by kernel_rfl, by decide⟩

/-! ### Rows of the call's own, whatever their elements -/
section
variable {α : Type} {D : Wd α} {e : TypeId} {w : World} {base : Nat}
theorem wd_take (qs : List α) (k : Nat) (hk : k ≤ qs.length) : (D.flat qs).take (k * D.c) = D.flat (qs.take k) := by
  have h : D.flat qs = D.flat (qs.take k) ++ D.flat (qs.drop k) := by rw [← Wd.flat_app, List.take_append_drop]
  have hl : (D.flat (qs.take k)).length = k * D.c := by rw [Wd.flat_len, List.length_take]; congr 1; omega
  rw [h, ← hl, List.take_left']
  rfl
/-- The first ones of a row of the call's own are one. -/
theorem wd_cut {p : Option Addr} {n cap : Nat} {qs : List α} (h : D.Own e w base (.slice p n cap) qs) (k : Nat) (hk : k ≤ qs.length) : D.Own e w base (.slice (cutw p cap) k cap) (qs.take k) := by
  have hl : (qs.take k).length = k := by rw [List.length_take]; omega
  unfold Wd.Own at h ⊢
  rw [hl]
  refine ⟨by rw [Wd.flat_len, hl], ?_⟩
  rcases h.2 with ⟨e1, h0⟩ | ⟨g, c', cur, e1, hb, hg, hn, hm, hs, ht⟩
  · injection e1 with e1 e2 e3
    subst e1; subst e3
    left
    exact ⟨by unfold cutw; rw [if_pos rfl]; congr; omega, by omega⟩
  · injection e1 with e1 e2 e3
    subst e1; subst e3
    refine .inr ⟨g, cap, cur, ?_, hb, hg, by omega, hm, hs, ?_⟩
    · unfold cutw; split
      · rfl
      · simp [Addr.add_lit]
    · rw [← wd_take qs k hk, ← ht, List.take_take]
      congr 1
      have := Nat.mul_le_mul_right D.c hk
      omega
theorem wd_ptr {p : Option Addr} {n cap : Nat} {qs : List α} (h : D.Own e w base (.slice p n cap) qs) (hz : 0 < qs.length) : ∃ g, p = some ⟨g, 0, none⟩ ∧ n = qs.length ∧ base ≤ g ∧ g < w.heap.size ∧ qs.length ≤ cap ∧ cap ≤ 9223372036854775807 := by
  have hlt := World.ownsRow.lt h
  rcases h.2 with ⟨e1, h0⟩ | ⟨g, c', cur, e1, hb, hg, hn, hm, hs, ht⟩
  · omega
  · injection e1 with e1 e2 e3
    subst e1; subst e2; subst e3
    exact ⟨g, rfl, rfl, hb, (hlt g rfl).2, hn, by unfold maxLen at hm; omega⟩
theorem wd_shape {v : Value} {qs : List α} (h : D.Own e w base v qs) : ∃ p cap, v = .slice p qs.length cap := by
  rcases h.2 with ⟨rfl, h0⟩ | ⟨g, c', cur, e1, -⟩
  · exact ⟨none, 0, by rw [h0]⟩
  · exact ⟨_, _, e1⟩
end

/-! ### The last step -/
section
variable {w : World} {base g n cap : Nat} {qs : List Stp} {x : Idn} {q : Slc} {os : List Idn}
theorem stp_flat (qs : List Stp) (x : Idn) (q : Slc) (os : List Idn) : wdStp.flat (qs ++ [(x, q, os)]) = wdStp.flat qs ++ [.int .i64 x.1, .int .i64 x.2, sliceOf q] := by rw [Wd.flat_app]; rfl
theorem stp_len (qs : List Stp) : (wdStp.flat qs).length = qs.length * 3 := Wd.flat_len _ qs
theorem stp_last (h : wdStp.Own 140 w base (.slice (some ⟨g, 0, none⟩) n cap) (qs ++ [(x, q, os)])) :
    w.cell? ⟨g, qs.length * 3, none⟩ = some (.int .i64 x.1) ∧ w.cell? ⟨g, qs.length * 3 + 1, none⟩ = some (.int .i64 x.2) ∧ w.cell? ⟨g, qs.length * 3 + 2, none⟩ = some (sliceOf q) ∧ (∀ j, w.frozen? ⟨g, j, none⟩ = false) := by
  obtain ⟨g', e', rfl, -⟩ := wd_ptr h (by simp)
  have hn : (qs ++ [(x, q, os)]).length = qs.length + 1 := by simp
  have h' : w.ownsRow base 140 3 (.slice (some ⟨g, 0, none⟩) (qs ++ [(x, q, os)]).length cap) (qs ++ [(x, q, os)]).length (wdStp.flat qs ++ [.int .i64 x.1, .int .i64 x.2, sliceOf q]) := by rw [← stp_flat qs x q os]; exact h
  rw [hn] at h'
  have hl := stp_len qs
  refine ⟨?_, ?_, ?_, fun j => h'.frozenAt j⟩
  · rw [h'.cellAt _ (by omega), List.getElem?_append_right (by omega), hl, Nat.sub_self]; rfl
  · rw [h'.cellAt _ (by omega), List.getElem?_append_right (by omega), hl, Nat.add_sub_cancel_left]; rfl
  · rw [h'.cellAt _ (by omega), List.getElem?_append_right (by omega), hl, Nat.add_sub_cancel_left]; rfl
/-- A store of another slice into the last step. -/
theorem stp_store (h : wdStp.Own 140 w base (.slice (some ⟨g, 0, none⟩) n cap) (qs ++ [(x, q, os)])) (q' : Slc) (os' : List Idn) :
    wdStp.Own 140 (w.setCell ⟨g, qs.length * 3 + 2, none⟩ (sliceOf q')) base (.slice (some ⟨g, 0, none⟩) n cap) (qs ++ [(x, q', os')]) ∧ w.grownBy (w.setCell ⟨g, qs.length * 3 + 2, none⟩ (sliceOf q')) (some g) := by
  obtain ⟨g', e', rfl, -⟩ := wd_ptr h (by simp)
  have hn : (qs ++ [(x, q, os)]).length = qs.length + 1 := by simp
  have hn' : (qs ++ [(x, q', os')]).length = qs.length + 1 := by simp
  have h' : w.ownsRow base 140 3 (.slice (some ⟨g, 0, none⟩) (qs ++ [(x, q, os)]).length cap) (qs ++ [(x, q, os)]).length (wdStp.flat qs ++ [.int .i64 x.1, .int .i64 x.2, sliceOf q]) := by rw [← stp_flat qs x q os]; exact h
  rw [hn] at h'
  have hl := stp_len qs
  obtain ⟨r1, r2⟩ := h'.stored (qs.length * 3 + 2) (sliceOf q')
  refine ⟨?_, r2⟩
  unfold Wd.Own
  rw [hn, hn', stp_flat]
  rw [List.set_append_right _ _ (by omega), hl, Nat.add_sub_cancel_left] at r1
  exact r1
end

/-! ### Rows of ids elsewhere -/
/-- A row of ids stays where another block turns. -/
theorem rowat_far {w w' : World} {v : Value} {zs : List Idn} {row : Option Nat} (h : RowAt w v zs) (hg : w.grownBy w' row) (hn : ∀ b, v.ownBlock = some b → row ≠ some b) : RowAt w' v zs := by
  obtain ⟨p, cap, rfl, h1, h2, h0, h3⟩ := h
  refine ⟨p, cap, rfl, h1, h2, h0, fun hz => ?_⟩
  obtain ⟨B, off, rfl, hlt, hc⟩ := h3 hz
  have e : w'.heap[B]? = w.heap[B]? := hg.block B hlt (fun e => hn B rfl e.symm)
  exact ⟨B, off, rfl, Nat.lt_of_lt_of_le hlt hg.size, fun j hj => ⟨(World.cell?_of_block (w := w) (a := ⟨B, off + j * 2, none⟩) e).trans (hc j hj).1, (World.cell?_of_block (w := w) (a := ⟨B, off + j * 2 + 1, none⟩) e).trans (hc j hj).2⟩⟩
theorem cut1 (p : Option Addr) (n cap : Nat) (hn : 1 ≤ n) (w : World) : (Instr.slice 38 (.slice p n cap) (some (.int .i64 1)) none none).run Tryz.prog w = .ok (.slice (cutl p 1 cap 2) (n - 1) (cap - 1)) w := by
  rw [run_slice_l w _ _ _ _ (by kernel_rfl) _ _ (by omega) (by omega)]
  have hs : (sizeOf (Tryz.prog.elem 38)).run Tryz.prog w = .ok 2 w := by kernel_rfl
  rw [hs]
  show Result.ok (sliced p (Int.toNat 1) n cap 2) w = _
  simp [sliced, cutl]
theorem cutl_block (p : Option Addr) (l cap c : Nat) : ∀ m k, (Value.slice (cutl p l cap c) m k).ownBlock = (Value.slice p m k).ownBlock := by
  intro m k
  cases p with
  | none => unfold cutl; split <;> rfl
  | some a =>
    unfold cutl
    split
    · rfl
    · show some (a.add (l * c)).block = some a.block
      unfold Addr.add; split <;> rfl
theorem cutw_block (p : Option Addr) (cap : Nat) : ∀ m k, (Value.slice (cutw p cap) m k).ownBlock = (Value.slice p m k).ownBlock := by
  intro m k
  cases p with
  | none => unfold cutw; split <;> rfl
  | some a =>
    unfold cutw
    split
    · rfl
    · show some (a.add 0).block = some a.block
      unfold Addr.add; split <;> rfl
theorem rowat_drop {w : World} {p : Option Addr} {n cap : Nat} {y : Idn} {os : List Idn} (h : RowAt w (.slice p n cap) (y :: os)) : RowAt w (.slice (cutl p 1 cap 2) (n - 1) (cap - 1)) os := by
  obtain ⟨p', cap', e, h1, h2, h0, h3⟩ := h
  injection e with e1 e2 e3
  subst e1; subst e2; subst e3
  obtain ⟨B, off, rfl, hlt, hc⟩ := h3 (by simp)
  rw [List.length_cons] at h1 ⊢
  refine ⟨_, _, by rw [Nat.add_sub_cancel], by omega, by omega, fun e => ?_, fun hz => ?_⟩
  · unfold cutl at e; split at e <;> cases e
  · have h5 : 0 < os.length := List.length_pos_iff.2 hz
    refine ⟨B, off + 1 * 2, ?_, hlt, fun j hj => ?_⟩
    · unfold cutl; rw [if_neg (by omega)]; simp [Addr.add_lit]
    · have := hc (j + 1) (by simp; omega)
      have e1 : off + (j + 1) * 2 = off + 1 * 2 + j * 2 := by omega
      rw [e1] at this
      exact this
/-- The first one of a row. -/
theorem rowat_head {w : World} {p : Option Addr} {n cap : Nat} {y : Idn} {os : List Idn} (h : RowAt w (.slice p n cap) (y :: os)) : ∃ B off, p = some ⟨B, off, none⟩ ∧ n = os.length + 1 ∧ n ≤ cap ∧ cap ≤ 9223372036854775807 ∧ w.cell? ⟨B, off, none⟩ = some (.int .i64 y.1) ∧ w.cell? ⟨B, off + 1, none⟩ = some (.int .i64 y.2) := by
  obtain ⟨p', cap', e, h1, h2, h0, h3⟩ := h
  injection e with e1 e2 e3
  subst e1; subst e2; subst e3
  obtain ⟨B, off, rfl, hlt, hc⟩ := h3 (by simp)
  have := hc 0 (by simp)
  simp only [Nat.zero_mul, Nat.add_zero] at this
  exact ⟨B, off, rfl, by simp, h1, h2, this⟩
theorem rowat_nil {w : World} {p : Option Addr} {n cap : Nat} (h : RowAt w (.slice p n cap) []) : n = 0 := by
  obtain ⟨p', cap', e, -⟩ := h
  injection e
theorem rowat_len {w : World} {p : Option Addr} {n cap : Nat} {os : List Idn} (h : RowAt w (.slice p n cap) os) : n = os.length := by
  obtain ⟨p', cap', e, -⟩ := h
  injection e
end Go.Proofs.YtjokejcokgeeiaaGreat.Cps

/- What the developers' tree gives (layer 17, comps): what is gone along next from one id that is left. Conditions: those in each statement. -/
namespace Go.Proofs.YtjokejcokgeeiaaGreat.Cps
open Go.RowKit Cmd Bat Ids Rec Wid Gra
set_option linter.unusedVariables false
set_option linter.unusedSimpArgs false

/-! ### Plain: how much is still to be done -/
def stw (q : Stp) : Idn × List Idn := (q.1, q.2.2)
def todoL (nx : Idn → List Idn) (L : List Idn) : Nat := (L.map fun x => (nx x).length + 2).sum
def todoW (ws : List (Idn × List Idn)) : Nat := (ws.map fun w => w.2.length + 1).sum
theorem todo_del (nx : Idn → List Idn) {y : Idn} : ∀ {L : List Idn}, L.Nodup → y ∈ L → todoL nx (del L y) + ((nx y).length + 2) = todoL nx L
  | x :: L, hn, hy => by
    obtain ⟨h1, h2⟩ := List.nodup_cons.1 hn
    by_cases e : x = y
    · subst e
      have e2 : del (x :: L) x = L := by
        unfold del
        rw [List.filter_cons_of_neg (by simp)]
        exact List.filter_eq_self.2 fun z hz => decide_eq_true fun e => h1 (e ▸ hz)
      rw [e2]; unfold todoL; rw [List.map_cons, List.sum_cons]; omega
    · have hyL := (List.mem_cons.1 hy).resolve_left fun e2 => e e2.symm
      have ih := todo_del nx h2 hyL
      have e2 : del (x :: L) y = x :: del L y := by
        unfold del
        rw [List.filter_cons_of_pos (by simpa using e)]
      rw [e2]
      unfold todoL at ih ⊢
      rw [List.map_cons, List.sum_cons, List.map_cons, List.sum_cons]; omega
theorem todoW_snoc (ws : List (Idn × List Idn)) (w : Idn × List Idn) : todoW (ws ++ [w]) = todoW ws + (w.2.length + 1) := by unfold todoW; rw [List.map_append, List.sum_append]; rfl
theorem came_len {nx : Idn → List Idn} {L0 : List Idn} {r : Idn} {L : List Idn} {ws : List (Idn × List Idn)} {gone : List Idn} (h : Came nx L0 r L ws gone) (hn : L0.Nodup) : L.Nodup ∧ L.length + ws.length + gone.length = L0.length := by
  induction h with
  | start hr =>
    refine ⟨hn.sublist List.filter_sublist, ?_⟩
    have := del_len (x := r) hn
    rw [if_pos hr] at this
    simp only [List.length_cons, List.length_nil]; omega
  | pop _ ih =>
    refine ⟨ih.1, ?_⟩
    have := ih.2
    simp only [List.length_append, List.length_cons, List.length_nil] at this ⊢; omega
  | skip _ _ ih =>
    refine ⟨ih.1, ?_⟩
    have := ih.2
    simp only [List.length_append, List.length_cons, List.length_nil] at this ⊢; omega
  | @push L ws x y os gone _ hy ih =>
    refine ⟨ih.1.sublist List.filter_sublist, ?_⟩
    have := ih.2
    have h2 := del_len (x := y) ih.1
    rw [if_pos hy] at h2
    simp only [List.length_append, List.length_cons, List.length_nil] at this ⊢; omega
theorem stw_snoc (qs : List Stp) (q : Stp) : (qs ++ [q]).map stw = qs.map stw ++ [(q.1, q.2.2)] := by rw [List.map_append]; rfl

/-! ### Memory -/
theorem grown_lowT {w w' : World} (r : Option Nat) (hb : Below w.heap.size w w') : w.grownBy w' r := ⟨hb.os, hb.tape, hb.output, hb.size, fun k hk _ => hb.block k hk⟩
/-- What stands in memory between two steps. -/
structure Trm (gs ms base : Nat) (w1 : World) (vg vw : Value) (L gone : List Idn) (qs : List Stp) (wr : World) : Prop where
  low : gs < base ∧ ms < base ∧ base = w1.heap.size
  set : SetP wr gs ms L
  grown : w1.grownBy wr (some ms)
  own : Owns wr base vg gone
  way : wdStp.Own 140 wr base vw qs
  item : ∀ q ∈ qs, RowAt wr (sliceOf q.2.1) q.2.2 ∧ ∀ b, (sliceOf q.2.1).ownBlock = some b → b < wr.heap.size ∧ vg.ownBlock ≠ some b ∧ vw.ownBlock ≠ some b
theorem own_otherS {w : World} {base base' : Nat} {u v : Value} {c : List Idn} {qs : List Stp} (h : Owns w base u c) (k : wdStp.Own 140 w base' v qs) : (u.ownBlock = none ∨ u.ownBlock ≠ v.ownBlock) ∧ (v.ownBlock = none ∨ v.ownBlock ≠ u.ownBlock) := by
  rcases h.2 with ⟨rfl, -⟩ | ⟨g, cap, cur, rfl, -, hg, -⟩
  · refine ⟨.inl rfl, ?_⟩
    rcases k.2 with ⟨rfl, -⟩ | ⟨g', cap', cur', rfl, -⟩
    · exact .inl rfl
    · exact .inr (by intro e; cases e)
  · rcases k.2 with ⟨rfl, -⟩ | ⟨g', cap', cur', rfl, -, hg', -⟩
    · exact ⟨.inr (by intro e; cases e), .inl rfl⟩
    · have hne : g ≠ g' := fun e => by
        subst e
        rw [hg] at hg'
        injection hg' with e
        injection e with e1 e2
        exact absurd e2 (by decide)
      exact ⟨.inr fun e => hne (by injection e), .inr fun e => hne (by injection e with e; exact e.symm)⟩
theorem own_n (p : Option Addr) (m k m2 k2 : Nat) : (Value.slice p m k).ownBlock = (Value.slice p m2 k2).ownBlock := by cases p <;> rfl
theorem setp_far {w w' : World} {gs ms : Nat} {L : List Idn} {row : Option Nat} (h : SetP w gs ms L) (hg : w.grownBy w' row) (h1 : row ≠ some gs) (h2 : row ≠ some ms) : SetP w' gs ms L :=
  ⟨(World.cell?_of_block (w := w) (a := ⟨gs, 0, none⟩) (hg.block gs h.lt (fun e => h1 e.symm))).trans h.cell, Nat.lt_of_lt_of_le h.lt hg.size, h.set.block (hg.block ms h.set.lt (fun e => h2 e.symm))⟩
section
variable {gs ms base : Nat} {w1 : World} {vg vw : Value} {L gone : List Idn} {qs : List Stp} {wr wr' : World}
theorem Trm.below (T : Trm gs ms base w1 vg vw L gone qs wr) (hb : Below wr.heap.size wr wr') : Trm gs ms base w1 vg vw L gone qs wr' :=
  ⟨T.low, T.set.on hb, T.grown.andThen (grown_lowT none hb) (fun j hj => by cases hj), own_below T.own hb, T.way.below hb, fun q hq => ⟨(T.item q hq).1.on hb, fun b e => by
    obtain ⟨h1, h2⟩ := (T.item q hq).2 b e
    exact ⟨Nat.lt_of_lt_of_le h1 hb.size, h2⟩⟩⟩
theorem Trm.vglt (T : Trm gs ms base w1 vg vw L gone qs wr) {b : Nat} (e : vg.ownBlock = some b) : base ≤ b ∧ b < wr.heap.size := World.ownsRow.lt T.own b e
theorem Trm.vwlt (T : Trm gs ms base w1 vg vw L gone qs wr) {b : Nat} (e : vw.ownBlock = some b) : base ≤ b ∧ b < wr.heap.size := World.ownsRow.lt T.way b e
theorem Trm.pop {p : Option Addr} {n cap : Nat} {x : Idn} {q : Slc} {w2 : World} {vg' : Value} (T : Trm gs ms base w1 vg (.slice p n cap) L gone (qs ++ [(x, q, [])]) wr) (ho : Owns w2 base vg' (gone ++ [x])) (hg : wr.grownBy w2 vg.ownBlock) (hv : vg'.ownBlock = vg.ownBlock ∨ vg'.ownBlock = some wr.heap.size) :
    Trm gs ms base w1 vg' (.slice (cutw p cap) qs.length cap) L (gone ++ [x]) qs w2 := by
  have hcut := wd_cut T.way qs.length (by simp)
  rw [List.take_left'] at hcut
  · have hd := own_otherS T.own T.way
    have hne : vg.ownBlock = none ∨ (Value.slice p n cap).ownBlock ≠ vg.ownBlock := hd.1.imp id fun e => e.symm
    have hlow : ∀ b, vg.ownBlock = some b → base ≤ b := fun b e => (T.vglt e).1
    refine ⟨T.low, setp_far T.set hg (fun e => by have := hlow _ e; have := T.low; omega) (fun e => by have := hlow _ e; have := T.low; omega), T.grown.andThen hg (fun j hj => ?_), ho, ?_, fun r hr => ?_⟩
    · exact .inl (by have := hlow _ hj; have := T.low; omega)
    · refine World.ownsRow.kept hcut hg ?_
      rw [cutw_block p cap qs.length cap, own_n p qs.length cap n cap]
      rcases hd.2 with e | e
      · exact .inl e
      · exact .inr e
    · obtain ⟨h1, h2⟩ := T.item r (List.mem_append_left _ hr)
      refine ⟨rowat_far h1 hg (fun b e => (h2 b e).2.1), fun b e => ?_⟩
      obtain ⟨h3, h4, h5⟩ := h2 b e
      refine ⟨Nat.lt_of_lt_of_le h3 hg.size, fun e2 => ?_, fun e2 => ?_⟩
      · rcases hv with hv | hv
        · exact h4 (hv ▸ e2)
        · rw [hv] at e2; injection e2 with e2; omega
      · rw [cutw_block p cap qs.length cap, own_n p qs.length cap n cap] at e2
        exact h5 e2
  · rfl
theorem Trm.store {g n cap : Nat} {x y : Idn} {pq : Option Addr} {nq cq : Nat} {os : List Idn} (T : Trm gs ms base w1 vg (.slice (some ⟨g, 0, none⟩) n cap) L gone (qs ++ [(x, (pq, nq, cq), y :: os)]) wr) :
    Trm gs ms base w1 vg (.slice (some ⟨g, 0, none⟩) n cap) L gone (qs ++ [(x, (cutl pq 1 cq 2, nq - 1, cq - 1), os)]) (wr.setCell ⟨g, qs.length * 3 + 2, none⟩ (.slice (cutl pq 1 cq 2) (nq - 1) (cq - 1))) := by
  obtain ⟨h1, h2⟩ := stp_store T.way (cutl pq 1 cq 2, nq - 1, cq - 1) os
  have hg : base ≤ g := (T.vwlt rfl).1
  have hd := own_otherS T.own T.way
  have far : ∀ q ∈ qs ++ [(x, (pq, nq, cq), y :: os)], ∀ b, (sliceOf q.2.1).ownBlock = some b → some g ≠ some b := fun q hq b e e2 => ((T.item q hq).2 b e).2.2 e2
  refine ⟨T.low, setp_far T.set h2 (fun e => by injection e with e; have := T.low; omega) (fun e => by injection e with e; have := T.low; omega), T.grown.andThen h2 (fun j hj => ?_), World.ownsRow.kept T.own h2 hd.1, h1, fun q hq => ?_⟩
  · injection hj with hj; subst hj; exact .inl (by have := T.low; omega)
  · rcases List.mem_append.1 hq with hq | hq
    · obtain ⟨r1, r2⟩ := T.item q (List.mem_append_left _ hq)
      exact ⟨rowat_far r1 h2 (far q (List.mem_append_left _ hq)), fun b e => ⟨Nat.lt_of_lt_of_le (r2 b e).1 h2.size, (r2 b e).2⟩⟩
    · rw [List.mem_singleton] at hq; subst hq
      obtain ⟨r1, r2⟩ := T.item (x, (pq, nq, cq), y :: os) (by simp)
      have e1 : ∀ b, (sliceOf (cutl pq 1 cq 2, nq - 1, cq - 1)).ownBlock = some b → (sliceOf (pq, nq, cq)).ownBlock = some b := fun b e => by
        have e' : (Value.slice (cutl pq 1 cq 2) (nq - 1) (cq - 1)).ownBlock = some b := e
        rw [cutl_block pq 1 cq 2, own_n pq _ _ nq cq] at e'
        exact e'
      refine ⟨rowat_far (rowat_drop r1) h2 (fun b e => far (x, (pq, nq, cq), y :: os) (by simp) b (e1 b e)), fun b e => ?_⟩
      obtain ⟨h3, h4⟩ := r2 b (e1 b e)
      exact ⟨Nat.lt_of_lt_of_le h3 h2.size, h4⟩
theorem Trm.turn {y : Idn} (T : Trm gs ms base w1 vg vw L gone qs wr) (ht : Turns gs ms (del L y) wr wr') : Trm gs ms base w1 vg vw (del L y) gone qs wr' := by
  have hm := T.set.set.isMap
  refine ⟨T.low, ht.set, T.grown.andThen ht.grown (fun j hj => .inr hj), World.ownsRow.kept T.own ht.grown ?_, World.ownsRow.kept T.way ht.grown ?_, fun q hq => ?_⟩
  · refine .inr fun e => ?_
    have := (T.vglt e).1; have := T.low; omega
  · refine .inr fun e => ?_
    have := (T.vwlt e).1; have := T.low; omega
  · obtain ⟨r1, r2⟩ := T.item q hq
    exact ⟨RowAt.grown r1 ht.grown hm, fun b e => ⟨Nat.lt_of_lt_of_le (r2 b e).1 ht.grown.size, (r2 b e).2⟩⟩
/-- One more step, whose row lies in new memory. -/
theorem Trm.push {w2 : World} {vw' : Value} {y : Idn} {q : Slc} {os : List Idn} {B : Nat} (T : Trm gs ms base w1 vg vw L gone qs wr) (hB : ∀ b, vg.ownBlock = some b → b < B) (hB' : ∀ b, vw.ownBlock = some b → b < B) (hq : Owns wr B (sliceOf q) os)
    (ho : wdStp.Own 140 w2 base vw' (qs ++ [(y, q, os)])) (hg : wr.grownBy w2 vw.ownBlock) (hv : vw'.ownBlock = vw.ownBlock ∨ vw'.ownBlock = some wr.heap.size) :
    Trm gs ms base w1 vg vw' L gone (qs ++ [(y, q, os)]) w2 := by
  have hd := own_otherS T.own T.way
  have hlow : ∀ b, vw.ownBlock = some b → base ≤ b := fun b e => (T.vwlt e).1
  have hql := World.ownsRow.lt hq
  refine ⟨T.low, setp_far T.set hg (fun e => by have := hlow _ e; have := T.low; omega) (fun e => by have := hlow _ e; have := T.low; omega), T.grown.andThen hg (fun j hj => ?_), World.ownsRow.kept T.own hg hd.1, ho, fun r hr => ?_⟩
  · exact .inl (by have := hlow _ hj; have := T.low; omega)
  · rcases List.mem_append.1 hr with hr | hr
    · obtain ⟨r1, r2⟩ := T.item r hr
      refine ⟨rowat_far r1 hg (fun b e => (r2 b e).2.2), fun b e => ?_⟩
      obtain ⟨h3, h4, h5⟩ := r2 b e
      refine ⟨Nat.lt_of_lt_of_le h3 hg.size, h4, fun e2 => ?_⟩
      rcases hv with hv | hv
      · exact h5 (hv ▸ e2)
      · rw [hv] at e2; injection e2 with e2; omega
    · rw [List.mem_singleton] at hr; subst hr
      have far : ∀ b, (sliceOf q).ownBlock = some b → vw.ownBlock ≠ some b := fun b e e2 => by
        have := (hql b e).1; have := hB' b e2; omega
      refine ⟨rowat_far hq.row hg far, fun b e => ⟨Nat.lt_of_lt_of_le (hql b e).2 hg.size, fun e2 => ?_, fun e2 => ?_⟩⟩
      · have := (hql b e).1; have := hB b e2; omega
      · rcases hv with hv | hv
        · exact far b e (hv ▸ e2)
        · rw [hv] at e2; injection e2 with e2
          have := (hql b e).2; omega
end
end Go.Proofs.YtjokejcokgeeiaaGreat.Cps
