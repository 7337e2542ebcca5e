/- What the statement's function of layer 10 (digest) on opening wants: what is opened, its value written out; one byte of a row of the call's own changed. Conditions: those in each statement. -/
import Derived.Test.YtapjjeffegnflaaDigE
namespace Go.Proofs.Ytapjjeffegnflaa.Dig
open Go.RowKit Cmd Bat Wir
set_option linter.unusedVariables false

/-- What Open gives, its value written out. -/
def GivesOx (zs : List UInt8) (n e : Nat) (w : World) (E : Ending) (w' : World) : Prop := ∃ p cap, E = .returned (.tuple #[.slice p n cap, .int .i64 (e : Int)]) ∧ layB.Row w' (.slice p n cap) zs ∧ Below w.heap.size w w'
theorem opn_out {zs : List UInt8} {r : List UInt8 × Nat} {n k : Nat} {w : World} {e : Ending} {w' : World} (h : GivesOpn r w e w') (hr : r = (zs, k)) (hn : zs.length = n) : GivesOx zs n k w e w' := by
  subst hr hn
  obtain ⟨u, rfl, ho, hb⟩ := h
  obtain ⟨p, cap, rfl, h1, h2⟩ := own_len ho
  exact ⟨p, cap, rfl, rowB ho, hb⟩
/-- What Open says. -/
def GivesE (e : Nat) (w : World) (E : Ending) (w' : World) : Prop := ∃ p n cap, E = .returned (.tuple #[.slice p n cap, .int .i64 (e : Int)]) ∧ Below w.heap.size w w'
theorem opn_err' {r : List UInt8 × Nat} {k : Nat} {w : World} {e : Ending} {w' : World} (h : GivesOpn r w e w') (hr : r.2 = k) : GivesE k w e w' := by
  subst hr
  obtain ⟨u, rfl, ho, hb⟩ := h
  obtain ⟨p, cap, rfl, h1, h2⟩ := own_len ho
  exact ⟨p, _, cap, rfl, hb⟩
/-- A row of the call's own, of one byte or more. -/
def GivesG (zs : List UInt8) (n : Nat) (w : World) (e : Ending) (w' : World) : Prop := ∃ g cap, e = .returned (.slice (some ⟨g, 0, none⟩) n cap) ∧ OwnB w' w.heap.size (.slice (some ⟨g, 0, none⟩) n cap) zs ∧ n ≤ cap ∧ Below w.heap.size w w'
theorem gives_g {zs : List UInt8} {n : Nat} {w : World} {e : Ending} {w' : World} (h : GivesB zs w e w') (hn : zs.length = n) (h0 : 0 < n) : GivesG zs n w e w' := by
  subst hn
  obtain ⟨u, rfl, ho, hb⟩ := h
  have ho' := ho
  rcases ho'.2 with ⟨-, h⟩ | ⟨g, cap, cur, rfl, -, -, hc, -⟩
  · omega
  · exact ⟨g, cap, rfl, ho, hc, hb⟩
theorem own_get {w : World} {base g n cap : Nat} {zs : List UInt8} (h : OwnB w base (.slice (some ⟨g, 0, none⟩) n cap) zs) (hn : zs.length = n) {i : Nat} (hi : i < n) {c : UInt8} (hc : layB.at zs i = c) : w.cell? ⟨g, i, none⟩ = some (.int .u8 (c.toNat : Int)) ∧ w.frozen? ⟨g, i, none⟩ = false := by
  subst hn hc
  have h1 := World.ownsRow.cellAt h i (by omega)
  rw [List.getElem?_map, List.getElem?_eq_getElem hi] at h1
  rw [layB.at_get hi]
  exact ⟨h1, World.ownsRow.frozenAt h i⟩
theorem own_set {w : World} {base g n cap : Nat} {zs : List UInt8} (h : OwnB w base (.slice (some ⟨g, 0, none⟩) n cap) zs) (hn : zs.length = n) (i : Nat) (c : UInt8) (x : Int) (hx : x = c.toNat) : layB.Row (w.setCell ⟨g, i, none⟩ (.int .u8 x)) (.slice (some ⟨g, 0, none⟩) n cap) (zs.set i c) := by
  subst hn hx
  have h1 := (World.ownsRow.stored h i (.int .u8 (c.toNat : Int))).1
  have e : (zs.map encB).set i (.int .u8 (c.toNat : Int)) = (zs.set i c).map encB := by rw [List.map_set]; rfl
  rw [e] at h1
  have : OwnB (w.setCell ⟨g, i, none⟩ (.int .u8 (c.toNat : Int))) base (.slice (some ⟨g, 0, none⟩) zs.length cap) (zs.set i c) := by
    unfold OwnB; rw [List.length_set]; exact h1
  have h2 := rowB this
  exact h2
theorem set_below {B : Nat} {a w : World} {base g n cap : Nat} {zs : List UInt8} (h : Below B a w) (ho : OwnB w base (.slice (some ⟨g, 0, none⟩) n cap) zs) (hb : B ≤ base) (i : Nat) (u : Value) : Below B a (w.setCell ⟨g, i, none⟩ u) :=
  h.setCell (Nat.le_trans hb (World.ownsRow.lt ho g rfl).1) u
theorem rem_run (a n : Nat) (h : 0 < n) : (a : Int).tmod (n : Int) = ((a % n : Nat) : Int) := by
  rw [Int.tmod_eq_emod_of_nonneg (by omega), Int.natCast_emod]
theorem add_byte (c : UInt8) (by' : Nat) : ∃ d : UInt8, IntKind.u8.wrap ((c.toNat : Int) + by') = (d.toNat : Int) ∧ (by' < 256 → (d = c ↔ by' = 0)) := by
  refine ⟨UInt8.ofNat (c.toNat + by'), by rw [← byte_wrap, Int.natCast_add], fun h => ?_⟩
  have hc := byte_lt c
  constructor
  · intro e
    have := congrArg UInt8.toNat e
    rw [ofNat_toNat] at this
    omega
  · rintro rfl
    exact byte_eq (by rw [ofNat_toNat]; omega)
/-! ### What is cut of the argument -/
set_option maxRecDepth 100000 in
theorem slice_from_run (o : Oper) (a : Act) (w : World) (x l : Operand) (v : Value) (ho : o.op = .slice 29 x (some l) none none) (hr : (Instr.slice 29 (a.eval x) (some (a.eval l)) none none).run Try.prog w = .ok v w) : (execOp a.eval o).run Try.prog w = .ok (.value v) w := by
  have h2 : (Instr.sliceAt 29 (a.eval x) (some (a.eval l)) none none).run Try.prog w = .ok v w := by
    have hu : Try.prog.underlying 29 = some (.slice (Try.prog.elem 29)) := by kernel_rfl
    rw [run_sliceAt_slice (h := hu)]; exact hr
  simp [execOp, ho, h2, Result.andThen]
theorem good_opn {zs : List UInt8} {k : Nat} (hk : zs.length = k + 8) (hd : zs.drop k = big (dg (zs.take k))) : opn zs = (zs.take k, 0) := by
  have e : zs.length - 8 = k := by omega
  rw [opn_ok (by omega) (by rw [e, hd, un_big (dg_lt _)]), e]
theorem bad_opn {zs : List UInt8} {k : Nat} (hk : zs.length = k + 8) (hd : ¬ zs.drop k = big (dg (zs.take k))) : opn zs = ([], 21) := by
  have e : zs.length - 8 = k := by omega
  have hl : (zs.drop k).length = 8 := by rw [List.length_drop]; omega
  exact opn_bad (by omega) (by rw [e]; intro h; exact hd (by rw [← h, big_of_un hl]))
end Go.Proofs.Ytapjjeffegnflaa.Dig
