/- What the program's Has gives (layer 3, ident), by the library's search with a predicate. Condition: the list lies in memory as its cells say. -/
import Derived.Test.YthcejcffnjhomaaGreatIdA
import Derived.Test.YthcejcffnjhomaaGreatShelfG
namespace Go.Proofs.YthcejcffnjhomaaGreat.Ids
open Go.RowKit Go.Lib
set_option linter.unusedVariables false

theorem hasfn (a b : Int) (B : Nat) (w : World) (hB : B < w.heap.size) (h0 : w.cell? ⟨B, 0, none⟩ = some (.int .i64 a)) (h1 : w.cell? ⟨B, 1, none⟩ = some (.int .i64 b)) :
    PredBelow Tryz.prog 77 #[.pointer (some ⟨B, 0, none⟩)] (fun x : Idn => .agg (ids x).toArray) (fun x => decide (x = (a, b))) w := fun W x hb => by
  have c0 : W.cell? ⟨B, 0, none⟩ = some (.int .i64 a) := (hb.cell (p := ⟨B, 0, none⟩) hB).trans h0
  have c1 : W.cell? ⟨B, 1, none⟩ = some (.int .i64 b) := (hb.cell (p := ⟨B, 1, none⟩) hB).trans h1
  have hBW : B < W.heap.size := Nat.lt_of_lt_of_le hB hb.size
  have hne : B ≠ W.heap.size := by omega
  have HB := Lib.hid hb
  obtain ⟨x, y⟩ := x
  show Calls Tryz.prog 77 #[.agg #[.int .i64 x, .int .i64 y], .pointer (some ⟨B, 0, none⟩)] W _
  have hd : (x == a && y == b) = decide ((x, y) = (a, b)) := by
    rw [Bool.eq_iff_iff, Bool.and_eq_true, beq_iff_eq, beq_iff_eq, decide_eq_true_eq, Prod.mk.injEq]
  have hq : ∀ w, (binOp .eql 41 (.agg #[.int .i64 x, .int .i64 y]) (.agg #[.int .i64 a, .int .i64 b])).run Tryz.prog w = .ok (.bool (decide ((x, y) = (a, b)))) w := fun w => by rw [eql_id, hd]
  obtain ⟨r, hr⟩ : ∃ r, decide ((x, y) = (a, b)) = r := ⟨_, rfl⟩
  rw [hr] at hq
  have HR := Lib.hid hr
  clear hd h0 h1 hb hr
  go_enter Tryz.func77, Tryz.ntmps77
  go_wp2
  go_ret
  exact ⟨ret_bool HR.out.symm, HB.out.alloc HB.out.size _⟩

theorem index_none (p : Option Addr) (cap : Nat) (g : Value) (w : World) : Calls Tryz.prog 71 #[.slice p 0 cap, g] w fun e w' => e = .returned (.int .i64 (-1)) ∧ w = w' := by
  go_enter Tryz.func71, Tryz.ntmps71
  go_wp2
  go_loopw [8] (fun i wr => i = .int .i64 0 ∧ wr = w) (fun _ _ => 0)
  case atStart => exact ⟨rfl, rfl⟩
  case round =>
    obtain ⟨rfl, rfl⟩ := hrel
    go_wp2
    go_ret
    exact ⟨rfl, rfl⟩
theorem contains_none (p : Option Addr) (cap : Nat) (g : Value) (w : World) : Calls Tryz.prog 76 #[.slice p 0 cap, g] w fun e w' => e = .returned (.bool false) ∧ w = w' := by
  go_enter Tryz.func76, Tryz.ntmps76
  go_wp2_with (go_at_call 71; refine (index_none _ _ _ _).mono ?_; rintro e w' ⟨rfl, rfl⟩)
  go_ret
  exact ⟨rfl, rfl⟩

set_option maxHeartbeats 1000000 in
theorem has_any (v : Value) (zs : List Idn) (a b : Int) (w : World) (h : RowAt w v zs) : Calls Tryz.prog 45 #[v, .agg #[.int .i64 a, .int .i64 b]] w fun e w' => e = .returned (.bool (decide ((a, b) ∈ zs))) ∧ Below w.heap.size w w' := by
  obtain ⟨p, cap, rfl, h1, h2, -, h3⟩ := h
  by_cases hz : zs = []
  · subst hz
    clear h3
    go_enter Tryz.func45, Tryz.ntmps45
    go_wp2_with (go_at_call 76; refine (contains_none _ _ _ _).mono ?_; rintro e w' ⟨rfl, rfl⟩)
    go_ret
    exact ⟨rfl, below_one _ _⟩
  · obtain ⟨B, off, rfl, hlt, hc⟩ := h3 hz
    have hbx := Boxed.start w a b
    have eg : ∀ args w, (callFunc 77 args).run Tryz.prog w = .ok (.enter 77 args) w := enters_of Tryz.func77 (by kernel_rfl) rfl
    have hcon := AnyQ.slices_ContainsFunc Tryz.hasId 2 Tryz.isAgg41 Tryz.sizeOf41 ids (fun _ => rfl) (fun x : Idn => decide (x = (a, b))) 77 #[.pointer (some ⟨w.heap.size, 0, none⟩)] eg B off zs.length cap zs (w.alloc (cells a b))
      (hasfn a b w.heap.size _ hbx.lt hbx.fst hbx.snd) (Nat.le_refl _) (by omega) (Nat.lt_trans hlt hbx.lt) (fun j hj i u hi => by
        have hj2 := hc j hj
        rw [← nth_bang] at hj2
        refine Lib.cell?_alloc_some _ ?_
        generalize zs[j]! = y at hi hj2
        match i, hi with
        | 0, hi => simp [ids] at hi; rw [← hi]; exact hj2.1
        | 1, hi => simp [ids] at hi; rw [← hi]; exact hj2.2
        | i + 2, hi => simp [ids] at hi)
    change Calls Tryz.prog 76 _ _ _ at hcon
    have hr : ((zs.take zs.length).any fun x => decide (x = (a, b))) = decide ((a, b) ∈ zs) := by
      rw [List.take_length, Bool.eq_iff_iff, List.any_eq_true, decide_eq_true_eq]
      exact ⟨fun ⟨x, hx, e⟩ => by rw [decide_eq_true_eq] at e; exact e ▸ hx, fun hm => ⟨_, hm, decide_eq_true rfl⟩⟩
    rw [hr] at hcon
    have hcon := Lib.hid hcon
    obtain ⟨r, hr2⟩ : ∃ r, decide ((a, b) ∈ zs) = r := ⟨_, rfl⟩
    rw [hr2] at hcon ⊢
    obtain ⟨n, hn⟩ : ∃ n, zs.length = n := ⟨_, rfl⟩
    rw [hn] at hcon h1 ⊢
    clear hr hc hbx h3 hz eg hr2
    go_enter Tryz.func45, Tryz.ntmps45
    go_wp2_with (go_at_call 76; refine hcon.out.mono ?_; rintro e w' ⟨rfl, hb⟩; have HB := Lib.hid hb; clear hb)
    go_ret
    exact ⟨rfl, (below_one w (cells a b)).trans (HB.out.mono (by simp))⟩
end Go.Proofs.YthcejcffnjhomaaGreat.Ids
