/- Whether two records are the same (layer 8, record): slices.Equal at ids, the program's Same and the document's. Conditions: the lists lie in memory as their cells say; for the document's numbers' words of 64 bits. -/
import Derived.Test.YtimkkelnakamkaaRecC
namespace Go.Proofs.Ytimkkelnakamkaa.Rec
open Go.RowKit Cmd Bat Ids
set_option linter.unusedVariables false

theorem RowAt.parts {w : World} {v : Value} {zs : List Idn} (h : RowAt w v zs) : ∃ (p : Option Addr) (cap : Nat), v = .slice p zs.length cap ∧ zs.length ≤ 9223372036854775807 ∧ (zs.length = 0 ∨ ∃ B off, p = some ⟨B, off, none⟩ ∧ Hid (Row2 w B off zs)) := by
  obtain ⟨p, cap, rfl, h1, h2, -, h3⟩ := h
  refine ⟨p, cap, rfl, by omega, ?_⟩
  by_cases hz : zs = []
  · left; rw [hz]; rfl
  · right
    obtain ⟨B, off, rfl, hlt, hc⟩ := h3 hz
    exact ⟨B, off, rfl, Lib.hid ⟨hlt, fun j hj => (hc j hj).1, fun j hj => (hc j hj).2⟩⟩


def rSame (a b q : Int) (ds : List Idn) (cs : List Cmdn) (a' b' q' : Int) (ds' : List Idn) (cs' : List Cmdn) : Bool := decide ((a, b) = (a', b')) && decide (q = q') && decide (ds = ds') && bSame cs cs'
set_option maxHeartbeats 2000000 in
theorem refsame_r (a b q : Int) (v u : Value) (a' b' q' : Int) (v' u' : Value) (ds ds' : List Idn) (cs cs' : List Cmdn) (w : World) (h : RowAt w v ds) (g : layC.Row w u cs) (h' : RowAt w v' ds') (g' : layC.Row w u' cs') (hw : ∀ x ∈ cs, wfC x) (hw' : ∀ x ∈ cs', wfC x) :
    Calls Try.prog 16 #[.agg #[.int .i64 a, .int .i64 b, .int .i64 q, v, u], .agg #[.int .i64 a', .int .i64 b', .int .i64 q', v', u']] w (RetBelow (.bool (rSame a b q ds cs a' b' q' ds' cs')) w) := by
  have C1 : Hid (∀ W, Below w.heap.size w W → Calls Try.prog 17 #[v, v'] W (RetBelow (.bool (decide (ds = ds'))) W)) := Lib.hid fun W hb => (Ids.same_any v v' ds ds' W (h.on hb) (h'.on hb)).mono fun e w' h => h
  have C2 : Hid (∀ W, Below w.heap.size w W → Calls Try.prog 30 #[u, u'] W (RetBelow (.bool (bSame cs cs')) W)) := Lib.hid fun W hb => refbsame_any u u' cs cs' W (g.on hb) (g'.on hb) hw hw'
  have hv : ∃ p n cap, v = .slice p n cap := by obtain ⟨p, cap, e, _⟩ := h; exact ⟨p, _, cap, e⟩
  have hv' : ∃ p n cap, v' = .slice p n cap := by obtain ⟨p, cap, e, _⟩ := h'; exact ⟨p, _, cap, e⟩
  have hu : ∃ p n cap, u = .slice p n cap := by obtain ⟨p, cap, e, _⟩ := g; exact ⟨p, _, cap, e⟩
  have hu' : ∃ p n cap, u' = .slice p n cap := by obtain ⟨p, cap, e, _⟩ := g'; exact ⟨p, _, cap, e⟩
  obtain ⟨p1, n1, k1, rfl⟩ := hv
  obtain ⟨p2, n2, k2, rfl⟩ := hv'
  obtain ⟨p3, n3, k3, rfl⟩ := hu
  obtain ⟨p4, n4, k4, rfl⟩ := hu'
  have HT := Lib.hid (Two8.start 35 w a b q (.slice p1 n1 k1) (.slice p3 n3 k3) a' b' q' (.slice p2 n2 k2) (.slice p4 n4 k4))
  unfold cellsR at HT
  have HE : Hid (rSame a b q ds cs a' b' q' ds' cs' = (decide ((a, b) = (a', b')) && decide (q = q') && decide (ds = ds') && bSame cs cs')) := Lib.hid rfl
  have hi : ∀ w, (binOp .eql 24 (.agg #[.int .i64 a, .int .i64 b]) (.agg #[.int .i64 a', .int .i64 b'])).run Try.prog w = .ok (.bool (decide ((a, b) = (a', b')))) w := fun w => by
    rw [eql_id, show (a == a' && b == b') = decide ((a, b) = (a', b')) by rw [Bool.eq_iff_iff]; simp]
  have hq : (q == q') = decide (q = q') := by rw [Bool.eq_iff_iff]; simp
  generalize decide ((a, b) = (a', b')) = x1 at hi HE
  generalize decide (q = q') = x2 at hq HE
  generalize decide (ds = ds') = x3 at C1 HE
  generalize bSame cs cs' = x4 at C2 HE
  generalize rSame a b q ds cs a' b' q' ds' cs' = r at HE
  have HC1 := Lib.hid (C1.out _ HT.out.a.below)
  clear h g h' g' hw hw'
  cases x1
  · go_enter Try.func16, Try.ntmps16
    go_wp2
    go_ret
    exact ⟨ret_bool (by rw [HE.out]; rfl), HT.out.a.below⟩
  · cases x2
    · go_enter Try.func16, Try.ntmps16
      go_wp2
      go_ret
      exact ⟨ret_bool (by rw [HE.out]; rfl), HT.out.a.below⟩
    · cases x3
      · go_enter Try.func16, Try.ntmps16
        go_wp2_with (first
          | (go_at_call 17; (with_reducible refine HC1.out.mono ?_); rintro e w1 ⟨rfl, hb⟩; have H1 := Lib.hid (HT.out.on hb); clear hb))
        go_ret
        exact ⟨ret_bool (by rw [HE.out]; rfl), H1.out.a.below⟩
      · go_enter Try.func16, Try.ntmps16
        go_wp2_with (first
          | (go_at_call 17; (with_reducible refine HC1.out.mono ?_); rintro e w1 ⟨rfl, hb⟩; have H1 := Lib.hid (HT.out.on hb); clear hb; have q4 := H1.out.a.c4; have q5 := H1.out.b.c4; have HC2 := Lib.hid (C2.out _ H1.out.a.below))
          | (go_at_call 30; (with_reducible refine HC2.out.mono ?_); rintro e w2 ⟨rfl, hb⟩; have H2 := Lib.hid (H1.out.on hb); clear hb))
        go_ret
        exact ⟨ret_bool (by rw [HE.out]; rfl), H2.out.a.below⟩
theorem rsame_self (a b q : Int) (ds : List Idn) (cs : List Cmdn) : rSame a b q ds cs a b q ds cs = true := by
  unfold rSame
  rw [decide_eq_true rfl, decide_eq_true rfl, decide_eq_true rfl, bsame_yes rfl fun j hj => by unfold Bat.same cSame; simp [same]]
  rfl
end Go.Proofs.Ytimkkelnakamkaa.Rec
