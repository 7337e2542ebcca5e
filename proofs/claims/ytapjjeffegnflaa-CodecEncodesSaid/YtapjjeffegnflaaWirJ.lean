/- What the statement's function of layer 9 (wire) on a number and a text wants: three rows of the call's own that lie apart, what is got of them. Conditions: those in each statement. -/
import Derived.Test.YtapjjeffegnflaaWirG
namespace Go.Proofs.Ytapjjeffegnflaa.Wir
open Go.RowKit Cmd Bat
set_option linter.unusedVariables false

/-- A new row of the call's own, its value written out. -/
def GivesO (zs : List UInt8) (n : Nat) (w : World) (e : Ending) (w' : World) : Prop := ∃ p cap, e = .returned (.slice p n cap) ∧ OwnB w' w.heap.size (.slice p n cap) zs ∧ Below w.heap.size w w'
theorem gives_own {zs : List UInt8} {n : Nat} {w : World} {e : Ending} {w' : World} (h : GivesB zs w e w') (hn : zs.length = n) : GivesO zs n w e w' := by
  subst hn
  obtain ⟨u, rfl, ho, hb⟩ := h
  obtain ⟨p, cap, rfl, h1, h2⟩ := own_len ho
  exact ⟨p, cap, rfl, ho, hb⟩
/-- A row lies in a block of its own number or later: what is written into an elder row leaves it. -/
theorem own_apart {w w1 w' : World} {b1 b2 : Nat} {u v : Value} {xs ys : List UInt8} (h1 : OwnB w1 b1 u xs) (hb : w1.heap.size ≤ b2) (h2 : OwnB w b2 v ys) (hg : w.grownBy w' u.ownBlock) : OwnB w' b2 v ys := by
  refine World.ownsRow.kept h2 hg ?_
  cases hv : v.ownBlock with
  | none => exact .inl rfl
  | some k =>
    right
    cases hu : u.ownBlock with
    | none => simp
    | some j =>
      have e1 := (World.ownsRow.lt h1 j hu).2
      have e2 := (World.ownsRow.lt h2 k hv).1
      intro e
      injection e with e
      omega
theorem cut_own {W : World} {base : Nat} {v : Value} {zs r : List UInt8} {L : Nat} (hL : L = zs.length) (h : OwnB W base v ((zs ++ r) ++ zs)) : ∃ V, (∀ w, (Instr.slice 29 v (some (.int .i64 L)) none none).run Try.prog w = .ok V w) ∧ layB.Row W V (r ++ zs) := by
  subst hL
  have hr := rowB h
  obtain ⟨p, cap, rfl, h1, h2⟩ := own_len h
  have e1 : ((zs ++ r) ++ zs).length = zs.length + (r ++ zs).length := by rw [List.append_assoc, List.length_append]
  refine ⟨_, fun w => cut_from p _ cap zs.length (by omega) w, ?_⟩
  have := row_cut hr zs.length ((zs ++ r) ++ zs).length cap (by omega) (Nat.le_refl _) h1 h2
  rw [List.take_length, List.append_assoc, List.drop_left] at this
  rw [List.append_assoc]
  exact this
theorem text_own {W : World} {base : Nat} {p : Option Addr} {n cap : Nat} {zs : List UInt8} (h : OwnB W base (.slice p n cap) zs) : (convert 29 9 (.slice p n cap)).run Try.prog W = .ok (.string (str zs)) W := text_run (rowB h)
theorem sum_run (a b : List UInt8) (h : a.length + b.length ≤ 1000000) (w : World) : (Op.stringOp .add (str a) (str b)).run Try.prog w = .ok (.string (str (a ++ b))) w := by
  rw [run_string_add_sum w _ _ (by rw [str_size, str_size]; omega), str_append]
theorem gt_txt {s : List UInt8} (hs : s.length ≤ 1000) (r : List UInt8) : gtext (txt s ++ r) 1000 = (s, (txt s).length, 0) := by
  have e1 : txt s ++ r = enc s.length ++ (s ++ r) := by unfold txt; rw [List.append_assoc]
  have e2 : (txt s).length = (enc s.length).length + s.length := by unfold txt; rw [List.length_append]
  have hr := rd_of_enc (n := s.length) (by omega) (s ++ r)
  have e3 : ((enc s.length ++ (s ++ r)).take ((enc s.length).length + s.length)).drop (enc s.length).length = s := by rw [← List.append_assoc, ← List.length_append, List.take_left, List.drop_left]
  rw [e1, gt_ok hr (by omega) (by rw [List.length_append, List.length_append]; omega), e2, e3]
theorem eight_big {n : Nat} (h : n < 18446744073709551616) (r : List UInt8) : eightOf (big n ++ r) = (n, 0) := by
  have h8 := big_len n
  unfold eightOf
  rw [if_neg (by rw [List.length_append]; omega), List.take_append_of_le_length (by omega), List.take_of_length_le (by omega), un_big h]
end Go.Proofs.Ytapjjeffegnflaa.Wir
