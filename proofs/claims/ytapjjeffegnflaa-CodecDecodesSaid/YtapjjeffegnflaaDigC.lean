/- What bytes.Clone, Seal, parts and the deferred function of Open give (layer 10, digest). Conditions: the bytes lie in memory as their cells say, and are not more than 100000. -/
import Derived.Test.YtapjjeffegnflaaDigB
import Derived.Test.YtapjjeffegnflaaWirF
import Derived.Recover
import Derived.Lib.SliceRun
namespace Go.Proofs.Ytapjjeffegnflaa.Dig
open Go.RowKit Cmd Bat Wir
set_option linter.unusedVariables false

/-! ### bytes.Clone -/
theorem made_none (w : World) : OwnB (w.alloc (.cells #[] 5)) w.heap.size (.slice (some ⟨w.heap.size, 0, none⟩) 0 0) [] := World.ownsRow_made w #[] 0 (Nat.le_refl _) (by decide) rfl
set_option maxHeartbeats 1000000 in
set_option maxRecDepth 100000 in
theorem clone_any (v : Value) (zs : List UInt8) (w : World) (h : layB.Row w v zs) (hl : zs.length ≤ 100000) : Calls Try.prog 47 #[v] w (GivesB zs w) := by
  have q22 : ∀ (w : World) (a : Option Addr) (n c n' c' : Nat), (binOp .eql 29 (.slice a n c) (.slice none n' c')).run Try.prog w = .ok (.bool a.isNone) w := fun w a n c n' c' => Lib.run_eql_slice_nil w _ _ a n c n' c' Try.underlying29
  have h' := h
  obtain ⟨p, cap, rfl, h1, h2, h3⟩ := h'
  cases p with
  | none =>
    have hz : zs = [] := Classical.byContradiction fun hz => by obtain ⟨_, _, e, _⟩ := h3 hz; cases e
    subst hz
    clear h h3
    go_enter Try.func47, Try.ntmps47
    go_wp2
    go_ret
    exact ⟨_, rfl, World.ownsRow_nil _ _ _ _, Below.refl _ _⟩
  | some ad =>
    have HR := Lib.hid (h.on (below_one w (.cells #[] 5)))
    have HO := Lib.hid (made_none w)
    have HL : Hid (([] : List UInt8).length + zs.length ≤ 1000000) := Lib.hid (by rw [List.length_nil]; omega)
    have hs := alloc_le (Nat.le_refl w.heap.size) (.cells #[] 5)
    have HB := Lib.hid (below_one w (.cells #[] 5))
    obtain ⟨n, hn⟩ : ∃ n, n = zs.length := ⟨_, rfl⟩
    rw [← hn] at HR ⊢
    clear h h3 hn
    go_enter Try.func47, Try.ntmps47
    go_wp2_with (first
      | (at_builtin; refine wp_rows rfl _ _ rfl w.heap.size _ [] rfl HO.out hs _ zs rfl HR.out HL.out ?_; intro v1 w3 HO1 HB1))
    go_ret
    exact ⟨_, rfl, HO1.out, HB.out.trans HB1.out⟩

/-! ### Seal -/
set_option maxHeartbeats 1000000 in
set_option maxRecDepth 100000 in
theorem seal_any (v : Value) (zs : List UInt8) (w : World) (h : layB.Row w v zs) (hl : zs.length ≤ 100000) : Calls Try.prog 17 #[v] w (GivesB (sealt zs) w) := by
  have C1 := Lib.hid (of_any v zs w h)
  have hd := dg_lt zs
  have C2 := Lib.hid (eight_any v zs (dg zs) w h hl hd)
  have HE : Hid (zs ++ big (dg zs) = sealt zs) := Lib.hid rfl
  rw [HE.out] at C2
  generalize dg zs = d at C1 C2
  clear HE h
  go_enter Try.func17, Try.ntmps17
  go_wp2_with (first
    | (go_at_call 39; (with_reducible refine C1.out.mono ?_); rintro e w1 ⟨rfl, rfl⟩)
    | (go_at_call 38; (with_reducible refine C2.out.mono ?_); rintro e w1 ⟨u, rfl, ho, hb⟩; have HO := Lib.hid ho; have HB := Lib.hid hb; clear ho hb))
  go_ret
  exact ⟨_, rfl, HO.out, HB.out⟩

/-! ### parts -/
def noEnd (w : World) (e : Ending) (w' : World) : Prop := e = .panicked [{ v := .iface 30 (.int .i64 4), recovered := false }] ∧ w = w'
set_option maxHeartbeats 1000000 in
set_option maxRecDepth 100000 in
theorem parts_short (p : Option Addr) (n cap : Nat) (w : World) (hc : n ≤ cap) (hm : cap ≤ 9223372036854775807) (h8 : n < 8) (zs : List UInt8) (hn : zs.length = n) (h : layB.Row w (.slice p n cap) zs) : Calls Try.prog 46 #[.slice p n cap] w (noEnd w) := by
  have k1 : (n : Int) < 8 := by omega
  have C1 := Lib.hid (geteight_any _ zs w h)
  rw [show eightOf zs = (0, 4) by unfold eightOf; rw [if_pos (by omega)]] at C1
  unfold ret2 at C1
  go_enter Try.func46, Try.ntmps46
  go_wp2_with (first
    | (go_at_call 67; (with_reducible refine C1.out.mono ?_); rintro e w1 ⟨rfl, rfl⟩))
  exact ⟨rfl, rfl, rfl⟩
def retP (V : Value) (s : Nat) : Ending := .returned (.tuple #[V, .int .u64 (s : Int)])
theorem cutq_none (p : Option Addr) (m : Nat) : cutq p 0 m = p := by
  unfold cutq; split
  · rfl
  · cases p <;> simp [Addr.add]
theorem cutq_on (p : Option Addr) (l m : Nat) (h : l < m) : cutq p l m = p.map (·.add l) := by unfold cutq; rw [if_neg (by omega)]
set_option maxHeartbeats 1000000 in
set_option maxRecDepth 100000 in
theorem parts_long (p : Option Addr) (n cap k : Nat) (w : World) (hc : n ≤ cap) (hm : cap ≤ 9223372036854775807) (h8 : n = k + 8) (zs : List UInt8) (hn : zs.length = n) (h : layB.Row w (.slice p n cap) zs) : Calls Try.prog 46 #[.slice p n cap] w fun e w' => e = retP (.slice p k cap) (un (zs.drop k)) ∧ w = w' := by
  have hr := row_cut h k zs.length cap (by omega) (by omega) (by omega) hm
  rw [List.take_length, hn] at hr
  have C1 := Lib.hid (geteight_any _ _ w hr)
  have hl : (zs.drop k).length = 8 := by rw [List.length_drop]; omega
  rw [show eightOf (zs.drop k) = (un (zs.drop k), 0) by unfold eightOf; rw [if_neg (by omega), List.take_of_length_le (by omega)]] at C1
  unfold ret2 at C1
  unfold retP
  generalize un (zs.drop k) = s at C1 ⊢
  have h1 : (n : Int) - 8 = k := by omega
  have k0 : (0 : Int) ≤ k := by omega
  have kc : k ≤ cap := by omega
  have kn : k ≤ n := by omega
  have k1 : (k : Int) ≤ 9223372036854775807 := by omega
  by_cases hk : k = 0
  · subst hk
    rw [cutq_none, Nat.sub_zero, Nat.sub_zero] at C1
    obtain rfl : n = 8 := by omega
    clear h hr hl hn h8
    go_enter Try.func46, Try.ntmps46
    go_wp2_with (first
      | (go_at_call 67; (with_reducible refine C1.out.mono ?_); rintro e w1 ⟨rfl, rfl⟩))
    go_ret2
    exact ⟨rfl, rfl⟩
  · have h2 : 0 < k := by omega
    have h3 : (0 : Int) < k := by omega
    rw [cutq_on p k cap (by omega)] at C1
    clear h hr hl hn h8 hk
    go_enter Try.func46, Try.ntmps46
    go_wp2_with (first
      | (go_at_call 67; (with_reducible refine C1.out.mono ?_); rintro e w1 ⟨rfl, rfl⟩))
    go_ret2
    exact ⟨rfl, rfl⟩

/-! ### The deferred function -/
theorem is_errno (k : Int) (w : World) : (Instr.typeAssert (.iface 30 (.int .i64 k)) 20 30 true).run Try.prog w = .ok (.tuple #[.int .i64 k, .bool true]) w := by kernel_rfl
theorem no_errno (w : World) : (Instr.typeAssert .nilIface 20 30 true).run Try.prog w = .ok (.tuple #[.int .i64 0, .bool false]) w := by kernel_rfl
set_option maxHeartbeats 1000000 in
set_option maxRecDepth 100000 in
theorem catch_panicking (p q : Addr) (k : Int) (older : List PanicEntry) (w : World) (x y : Value) (hp : w.cell? p = some x) (hpz : w.frozen? p = false) (hq : (w.setCell p (.slice none 0 0)).cell? q = some y) (hqz : (w.setCell p (.slice none 0 0)).frozen? q = false) (hx : ∃ a n c, x = .slice a n c) (hy : ∃ m, y = .int .i64 m) :
    CallsD Try.prog 45 #[.pointer (some p), .pointer (some q)] (.panicking ({ v := .iface 30 (.int .i64 k), recovered := false } :: older)) w fun e u' w' =>
      e = .returned (.tuple #[]) ∧ u' = .panicking ({ v := .iface 30 (.int .i64 k), recovered := true } :: older) ∧ w' = (w.setCell p (.slice none 0 0)).setCell q (.int .i64 k) := by
  obtain ⟨m, rfl⟩ := hy
  obtain ⟨a, n, c, rfl⟩ := hx
  refine callsD_of_wpS Try.func45 rfl fun c₀ cs hu => ?_
  rw [Try.ntmps45]
  show Code.wpS _ _ _ { tmps := #[.pointer (some p), .pointer (some q), undef, undef, undef, undef, undef, undef, undef, undef, undef], defers := [] } _ _
  apply wpS_seq
  apply wpS_region
  simp [wpOpsS, go_sem, recoverD, hu, Exit.thenS, is_errno]
  apply wpS_seq
  apply wpS_region
  simp [wpOpsS, go_sem, Exit.thenS]
  refine wpS_cond (t := true) (by simp [Act.eval]) ?_
  simp only [if_true]
  apply wpS_region
  simp [wpOpsS, go_sem, hp, hpz, hq, hqz, bodyPostS, results, Try.results45]
theorem catch_idle (p q : Addr) (w : World) :
    CallsD Try.prog 45 #[.pointer (some p), .pointer (some q)] .returning w fun e u' w' => e = .returned (.tuple #[]) ∧ u' = .returning ∧ w' = w := by
  refine callsD_of_wpS Try.func45 rfl fun c₀ cs hu => ?_
  rw [Try.ntmps45]
  show Code.wpS _ _ _ { tmps := #[.pointer (some p), .pointer (some q), undef, undef, undef, undef, undef, undef, undef, undef, undef], defers := [] } _ _
  apply wpS_seq
  apply wpS_region
  simp [wpOpsS, go_sem, recoverD, hu, Exit.thenS, no_errno]
  apply wpS_seq
  apply wpS_region
  simp [wpOpsS, go_sem, Exit.thenS]
  refine wpS_cond (t := false) (by simp [Act.eval]) ?_
  simp only [Bool.false_eq_true, if_false]
  refine wpS_of_wp (wp_skip ?_)
  cases c₀
  simp_all [bodyPostS, results, Try.results45]
end Go.Proofs.Ytapjjeffegnflaa.Dig
