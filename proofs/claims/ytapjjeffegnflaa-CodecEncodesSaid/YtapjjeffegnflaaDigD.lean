/- What Open gives; the statements' small play (layer 10, digest). Conditions: the bytes lie in memory as their cells say, and are not more than 100000. -/
import Derived.Test.YtapjjeffegnflaaDigC
import Derived.Lib.SlBytesConst
namespace Go.Proofs.Ytapjjeffegnflaa.Dig
open Go.RowKit Cmd Bat Wir
set_option linter.unusedVariables false

/-- A row of the call's own, and an error. -/
def GivesOpn (r : List UInt8 × Nat) (w : World) (e : Ending) (w' : World) : Prop := ∃ v, e = .returned (.tuple #[v, .int .i64 (r.2 : Int)]) ∧ OwnB w' w.heap.size v r.1 ∧ Below w.heap.size w w'
/-- The two results that the deferred function may write. -/
abbrev two (w : World) : World := (w.alloc (.cells #[.slice none 0 0] 29)).alloc (.cells #[.int .i64 0] 30)
theorem two_below (w : World) : Below w.heap.size w (two w) := (below_one w _).alloc (by simp) _
set_option maxHeartbeats 2000000 in
set_option maxRecDepth 100000 in
theorem open_short (p : Option Addr) (n cap : Nat) (w : World) (hc : n ≤ cap) (hm : cap ≤ 9223372036854775807) (h8 : n < 8) (zs : List UInt8) (hn : zs.length = n) (h : layB.Row w (.slice p n cap) zs) : Calls Try.prog 23 #[.slice p n cap] w (GivesOpn ([], 4) w) := by
  have hmf : ∀ (fn : Fn) (first cap : Array Value) (w : World), (Instr.makeFunc fn first cap).run Try.prog w = .ok (.func fn first cap) w := fun _ _ _ _ => rfl
  have CP : Hid (Calls Try.prog 46 #[.slice p n cap] (two w) (noEnd (two w))) := Lib.hid (parts_short p n cap (two w) hc hm h8 zs hn (h.on (two_below w)))
  unfold two at CP
  clear h
  go_enter_defers Try.func23, Try.ntmps23
  go_wp2_with (first
    | (go_at_call 46; (with_reducible refine CP.out.mono ?_); rintro e w1 ⟨rfl, rfl⟩))
  refine leaves_cons (f := 45) (args := #[.pointer (some ⟨w.heap.size, 0, none⟩), .pointer (some ⟨w.heap.size + 1, 0, none⟩)]) (by simp) (by simp [go_sem]) ?_
  refine (catch_panicking ⟨w.heap.size, 0, none⟩ ⟨w.heap.size + 1, 0, none⟩ 4 [] _ (.slice none 0 0) (.int .i64 0) ?_ ?_ ?_ ?_ ⟨_, _, _, rfl⟩ ⟨_, rfl⟩).mono ?_
  · simp [go_sem]
  · simp [go_sem]
  · simp [go_sem]
  · simp [go_sem]
  rintro e u' w'' ⟨rfl, rfl, rfl⟩
  simp [Leaves, settle, results, Try.results23, go_sem]
  exact ⟨_, rfl, World.ownsRow_nil _ _ _ _, (below_one w _).alloc (by simp) _⟩
/-- What parts gave lies in the first of them. -/
abbrev put1 (w : World) (V : Value) : World := (w.alloc (.cells #[V] 29)).alloc (.cells #[.int .i64 0] 30)
theorem put1_below (w : World) (V : Value) : Below w.heap.size w (put1 w V) := (below_one w _).alloc (by simp) _
set_option maxHeartbeats 2000000 in
set_option maxRecDepth 100000 in
theorem open_bad (p : Option Addr) (n cap k : Nat) (w : World) (hc : n ≤ cap) (hm : cap ≤ 9223372036854775807) (h8 : n = k + 8) (zs : List UInt8) (hn : zs.length = n) (h : layB.Row w (.slice p n cap) zs) (hd : ¬ un (zs.drop k) = dg (zs.take k)) : Calls Try.prog 23 #[.slice p n cap] w (GivesOpn ([], 21) w) := by
  have hmf : ∀ (fn : Fn) (first cap : Array Value) (w : World), (Instr.makeFunc fn first cap).run Try.prog w = .ok (.func fn first cap) w := fun _ _ _ _ => rfl
  have CP : Hid (Calls Try.prog 46 #[.slice p n cap] (two w) fun e w' => e = retP (.slice p k cap) (un (zs.drop k)) ∧ (two w) = w') := Lib.hid (parts_long p n cap k (two w) hc hm h8 zs hn (h.on (two_below w)))
  have hr := row_cut h 0 k cap (Nat.zero_le _) (by omega) (by omega) hm
  rw [cutq_none, List.drop_zero, Nat.sub_zero, Nat.sub_zero] at hr
  have CO := Lib.hid (of_any _ _ (put1 w (.slice p k cap)) (hr.on (put1_below w _)))
  unfold two retP at CP
  unfold put1 at CO
  have hne : ((un (zs.drop k) : Int) != (dg (zs.take k) : Int)) = true := by rw [bne_iff_ne]; omega
  have hne2 : ¬ (un (zs.drop k) : Int) = (dg (zs.take k) : Int) := by omega
  generalize un (zs.drop k) = s at CP hne hne2
  generalize dg (zs.take k) = d at CO hne hne2
  clear h hr hd h8 hn
  go_enter_defers Try.func23, Try.ntmps23
  go_wp2_with (first
    | (go_at_call 46; (with_reducible refine CP.out.mono ?_); rintro e w1 ⟨rfl, rfl⟩)
    | (go_at_call 39; (with_reducible refine CO.out.mono ?_); rintro e w1 ⟨rfl, rfl⟩))
  refine leaves_cons (f := 45) (args := #[.pointer (some ⟨w.heap.size, 0, none⟩), .pointer (some ⟨w.heap.size + 1, 0, none⟩)]) (by simp) (by simp [go_sem]) ?_
  refine (catch_idle ⟨w.heap.size, 0, none⟩ ⟨w.heap.size + 1, 0, none⟩ _).mono ?_
  rintro e u' w'' ⟨rfl, rfl, rfl⟩
  simp [Leaves, settle, results, Try.results23, go_sem]
  exact ⟨_, rfl, World.ownsRow_nil _ _ _ _, (below_one w _).alloc (by simp) _⟩
theorem own_store {w : World} {base : Nat} {v : Value} {zs : List UInt8} (h : OwnB w base v zs) {p : Addr} (hp : p.block < base) (x : Value) : OwnB (w.setCell p x) base v zs :=
  World.ownsRow.kept h (row := some p.block) ⟨rfl, rfl, rfl, by simp [World.setCell], fun k hk hne => Below.heap_setCell w p x k (fun e => hne (by rw [e]))⟩ (by
    cases hv : v.ownBlock with
    | none => exact .inl rfl
    | some j =>
      refine .inr fun e => ?_
      injection e with e
      have := World.ownsRow.lt h j hv
      omega)
set_option maxHeartbeats 2000000 in
set_option maxRecDepth 100000 in
theorem open_ok (p : Option Addr) (n cap k : Nat) (w : World) (hc : n ≤ cap) (hm : cap ≤ 9223372036854775807) (hl : n ≤ 100000) (h8 : n = k + 8) (zs : List UInt8) (hn : zs.length = n) (h : layB.Row w (.slice p n cap) zs) (hd : un (zs.drop k) = dg (zs.take k)) : Calls Try.prog 23 #[.slice p n cap] w (GivesOpn (zs.take k, 0) w) := by
  have hmf : ∀ (fn : Fn) (first cap : Array Value) (w : World), (Instr.makeFunc fn first cap).run Try.prog w = .ok (.func fn first cap) w := fun _ _ _ _ => rfl
  have CP : Hid (Calls Try.prog 46 #[.slice p n cap] (two w) fun e w' => e = retP (.slice p k cap) (un (zs.drop k)) ∧ (two w) = w') := Lib.hid (parts_long p n cap k (two w) hc hm h8 zs hn (h.on (two_below w)))
  have hr := row_cut h 0 k cap (Nat.zero_le _) (by omega) (by omega) hm
  rw [cutq_none, List.drop_zero, Nat.sub_zero, Nat.sub_zero] at hr
  have CO := Lib.hid (of_any _ _ (put1 w (.slice p k cap)) (hr.on (put1_below w _)))
  have CC := Lib.hid (clone_any _ _ (put1 w (.slice p k cap)) (hr.on (put1_below w _)) (by rw [List.length_take]; omega))
  have HB1 := Lib.hid (put1_below w (.slice p k cap))
  have l1 : Hid (w.heap.size < (put1 w (.slice p k cap)).heap.size) := Lib.hid (by simp; omega)
  have l2 : Hid (w.heap.size + 1 < (put1 w (.slice p k cap)).heap.size) := Lib.hid (by simp)
  have e1 : Hid ((put1 w (.slice p k cap)).cell? ⟨w.heap.size, 0, none⟩ = some (.slice p k cap)) := Lib.hid (by simp [go_sem])
  have e2 : Hid ((put1 w (.slice p k cap)).cell? ⟨w.heap.size + 1, 0, none⟩ = some (.int .i64 0)) := Lib.hid (by simp [go_sem])
  have z1 : Hid ((put1 w (.slice p k cap)).frozen? ⟨w.heap.size, 0, none⟩ = false) := Lib.hid (by simp [go_sem])
  have z2 : Hid ((put1 w (.slice p k cap)).frozen? ⟨w.heap.size + 1, 0, none⟩ = false) := Lib.hid (by simp [go_sem])
  unfold two retP at CP
  unfold put1 at CO CC HB1 l1 l2 e1 e2 z1 z2
  rw [hd] at CP
  generalize dg (zs.take k) = d at CO CP
  generalize zs.take k = ys at CC ⊢
  clear h hr hd h8 hn
  go_enter_defers Try.func23, Try.ntmps23
  go_wp2_with (first
    | (go_at_call 46; (with_reducible refine CP.out.mono ?_); rintro e w1 ⟨rfl, rfl⟩)
    | (go_at_call 39; (with_reducible refine CO.out.mono ?_); rintro e w1 ⟨rfl, rfl⟩)
    | (go_at_call 47; (with_reducible refine CC.out.mono ?_); rintro e w3 ⟨u, rfl, ho, hb⟩; obtain ⟨q, m, rfl, -, -⟩ := own_len ho; have HO := Lib.hid ho; have HB := Lib.hid hb; have c1 := (hb.cell l1.out).trans e1.out; have c2 := (hb.cell l2.out).trans e2.out; have f1 := (hb.frozen l1.out).trans z1.out; have f2 := (hb.frozen l2.out).trans z2.out; clear ho hb))
  refine leaves_cons (f := 45) (args := #[.pointer (some ⟨w.heap.size, 0, none⟩), .pointer (some ⟨w.heap.size + 1, 0, none⟩)]) (by simp) (by simp [go_sem]) ?_
  refine (catch_idle ⟨w.heap.size, 0, none⟩ ⟨w.heap.size + 1, 0, none⟩ _).mono ?_
  rintro e u' w'' ⟨rfl, rfl, rfl⟩
  simp [Leaves, settle, results, Try.results23, go_sem, c1, c2]
  exact ⟨_, rfl, own_mono (own_store (own_store HO.out l1.out _) l2.out _) HB1.out.size, ((HB1.out.trans (HB.out.mono HB1.out.size)).setCell (Nat.le_refl _) _).setCell (Nat.le_succ _) _⟩
set_option maxRecDepth 100000 in
/-- Open. -/
theorem open_any (v : Value) (zs : List UInt8) (w : World) (h : layB.Row w v zs) (hl : zs.length ≤ 100000) : Calls Try.prog 23 #[v] w (GivesOpn (opn zs) w) := by
  have h' := h
  obtain ⟨p, cap, rfl, h1, h2, -⟩ := h
  by_cases h8 : zs.length < 8
  · rw [opn_short h8]; exact open_short p zs.length cap w h1 h2 h8 zs rfl h'
  · obtain ⟨k, hk⟩ : ∃ k, zs.length = k + 8 := ⟨zs.length - 8, by omega⟩
    have e : zs.length - 8 = k := by omega
    by_cases hd : un (zs.drop k) = dg (zs.take k)
    · rw [opn_ok h8 (by rw [e]; exact hd), e]; exact open_ok p zs.length cap k w h1 h2 hl hk zs rfl h' hd
    · rw [opn_bad h8 (by rw [e]; exact hd)]; exact open_bad p zs.length cap k w h1 h2 hk zs rfl h' hd

/-! ### The statements' play -/
/-- A row that a constant's conversion laid. -/
theorem lit_row (w : World) (zs : List UInt8) (n : Nat) (hn : zs.length = n) (hm : n ≤ 9223372036854775807) (C : Array Value) (hC : C = (zs.map encB).toArray) (fr : Nat × Nat) : layB.Row (w.alloc (.cells C 5 fr)) (.slice (some ⟨w.heap.size, 0, none⟩) n n) zs := by
  subst hn hC
  refine ⟨_, _, rfl, Nat.le_refl _, hm, fun _ => ⟨w.heap.size, 0, rfl, by simp, fun j hj => ?_⟩⟩
  show (w.alloc (.cells (zs.map encB).toArray 5 fr)).cell? ⟨w.heap.size, 0 + j, none⟩ = _
  rw [World.cell?_alloc_mark, Nat.zero_add, List.getElem?_toArray, List.getElem?_map, List.getElem?_eq_getElem hj, layB.at_get hj]
  rfl
theorem dg_a : dg [97] = 12638187200555641996 := by unfold dg; rw [dig_cons, dig_nil]; unfold dstep; decide
/-- What Open gives, its value written out. -/
def GivesOw (zs : List UInt8) (n : Nat) (w : World) (e : Ending) (w' : World) : Prop := ∃ p cap, e = .returned (.tuple #[.slice p n cap, .int .i64 0]) ∧ layB.Row w' (.slice p n cap) zs ∧ Below w.heap.size w w'
theorem opn_row {zs : List UInt8} {r : List UInt8 × Nat} {n : Nat} {w : World} {e : Ending} {w' : World} (h : GivesOpn r w e w') (hr : r = (zs, 0)) (hn : zs.length = n) : GivesOw zs n w e w' := by
  subst hr hn
  obtain ⟨u, rfl, ho, hb⟩ := h
  obtain ⟨p, cap, rfl, h1, h2⟩ := own_len ho
  exact ⟨p, cap, rfl, rowB ho, hb⟩
end Go.Proofs.Ytapjjeffegnflaa.Dig
