/- What Check, Writes, Conflict and Same of layer 6 (cmd) give, and the document's Right, Same and Conflict, for any commands. Condition: a number's word of 64 bits. -/
import Derived.Test.YtimkkelnakamkaaCmdB
namespace Go.Proofs.Ytimkkelnakamkaa.Cmd
open Go.RowKit F64 Go.Lib
set_option linter.unusedVariables false

def cErr (k : Int) (s : List UInt8) (v : Nat) : Int := if cRight k s v then 0 else 12
def cWrites (k : Int) (s : List UInt8) (v : Nat) : Bool := cRight k s v && decide (k ≠ 1)
def cConf (k : Int) (s : List UInt8) (v : Nat) (k' : Int) (s' : List UInt8) (v' : Nat) : Bool := cRight k s v && cRight k' s' v' && decide (s = s') && (decide (k ≠ 1) || decide (k' ≠ 1))
def cSame (k : Int) (s : List UInt8) (v : Nat) (k' : Int) (s' : List UInt8) (v' : Nat) : Bool := decide (k = k') && decide (s = s') && same v v'

theorem check_any (k : Int) (s : List UInt8) (v : Nat) (w : World) (hv : v < 18446744073709551616) : Calls Try.prog 78 #[.agg #[.int .i64 k, .string (str s), .float .f64 v]] w (RetBelow (.int .i64 (cErr k s v)) w) := by
  have HB := Lib.hid (Boxed.start w k s v)
  have HK := Lib.hid (iskey_any s)
  have HM := Lib.hid (fun w => may_any k v w hv)
  have HE : Hid (cErr k s v = if (isKeyL s && mayV k v) = true then 0 else 12) := Lib.hid rfl
  clear hv
  generalize isKeyL s = x at HK HE
  generalize mayV k v = y at HM HE
  cases x
  · go_enter Try.func78, Try.ntmps78
    go_wp2_with (first
      | (go_at_call 86; (with_reducible refine (HK.out _).mono ?_); rintro e w' ⟨rfl, rfl⟩))
    go_ret
    exact ⟨ret_int HE.out.symm, HB.out.below⟩
  · cases y
    all_goals
      go_enter Try.func78, Try.ntmps78
      go_wp2_with (first
        | (go_at_call 86; (with_reducible refine (HK.out _).mono ?_); rintro e w' ⟨rfl, rfl⟩)
        | (go_at_call 87; (with_reducible refine (HM.out _).mono ?_); rintro e w' ⟨rfl, rfl⟩))
      go_ret
      exact ⟨ret_int HE.out.symm, HB.out.below⟩

theorem right_any (k : Int) (s : List UInt8) (v : Nat) (w : World) (hv : v < 18446744073709551616) (hl : (s.length : Int) ≤ 9223372036854775807) : Calls Try.prog 53 #[.agg #[.int .i64 k, .string (str s), .float .f64 v]] w (RetBelow (.bool (cRight k s v)) w) := by
  have HB := Lib.hid (Boxed.start w k s v)
  have HK := Lib.hid (fun w => refkey_any s w hl)
  have HM := Lib.hid (fun w => ref_kind_any v w hv)
  have hz := kind_zero hv
  have HE : Hid (cRight k s v = (isKeyL s && mayV k v)) := Lib.hid rfl
  have key : (k = 1 ∧ mayV k v = decide (v = 0)) ∨ (k = 3 ∧ mayV k v = decide (v = 0)) ∨ (k = 2 ∧ mayV k v = true) ∨ (k = 4 ∧ mayV k v = true) ∨ ((k == 1) = false ∧ (k == 3) = false ∧ (k == 2) = false ∧ (k == 4) = false ∧ mayV k v = false) := by
    unfold mayV
    simp only [beq_eq_false_iff_ne, decide_eq_true_eq, decide_eq_false_iff_not, decide_eq_decide]
    omega
  clear hv hl
  generalize isKeyL s = x at HK HE
  generalize mayV k v = y at HE key
  cases x
  · clear key
    go_enter Try.func53, Try.ntmps53
    go_wp2_with (first
      | (go_at_call 63; (with_reducible refine (HK.out _).mono ?_); rintro e w' ⟨rfl, rfl⟩))
    go_ret
    exact ⟨ret_bool HE.out.symm, HB.out.below⟩
  · rcases key with ⟨rfl, hm⟩ | ⟨rfl, hm⟩ | ⟨rfl, hm⟩ | ⟨rfl, hm⟩ | ⟨h1, h3, h2, h4, hm⟩
    all_goals
      have HQ := Lib.hid hm
      clear hm
      go_enter Try.func53, Try.ntmps53
      go_wp2_with (first
        | (go_at_call 63; (with_reducible refine (HK.out _).mono ?_); rintro e w' ⟨rfl, rfl⟩)
        | (go_at_call 64; (with_reducible refine (HM.out _).mono ?_); rintro e w' ⟨rfl, rfl⟩))
      go_ret
      exact ⟨ret_bool (by rw [HE.out, HQ.out]; rfl), HB.out.below⟩

theorem err_cases (k : Int) (s : List UInt8) (v : Nat) : (cRight k s v = true ∧ cErr k s v = 0) ∨ (cRight k s v = false ∧ cErr k s v = 12) := by
  unfold cErr
  cases cRight k s v
  · exact .inr ⟨rfl, rfl⟩
  · exact .inl ⟨rfl, rfl⟩

/-- Two boxes of the call's own. -/
structure Two (w : World) (k : Int) (s : List UInt8) (v : Nat) (k' : Int) (s' : List UInt8) (v' : Nat) (W : World) : Prop where
  a : Boxed w w.heap.size k s v W
  b : Boxed w (w.heap.size + 1) k' s' v' W
theorem Two.start (w : World) (k : Int) (s : List UInt8) (v : Nat) (k' : Int) (s' : List UInt8) (v' : Nat) : Two w k s v k' s' v' ((w.alloc (cells k s v)).alloc (cells k' s' v')) := by
  have h1 := (Boxed.start w k s v).on (below_one _ (cells k' s' v'))
  have h2 := Boxed.next (below_one w (cells k s v)) k' s' v'
  have e : (w.alloc (cells k s v)).heap.size = w.heap.size + 1 := by simp
  rw [e] at h2
  exact ⟨h1, h2⟩
theorem Two.on {w W W' : World} {k k' : Int} {s s' : List UInt8} {v v' : Nat} (h : Two w k s v k' s' v' W) (hb : Below W.heap.size W W') : Two w k s v k' s' v' W' := ⟨h.a.on hb, h.b.on hb⟩


theorem str_dec (s s' : List UInt8) : ((str s).toList == (str s').toList) = decide (s = s') := by rw [str_beq, Bool.eq_iff_iff]; simp
theorem int_dec (k k' : Int) : (k == k') = decide (k = k') := by rw [Bool.eq_iff_iff]; simp
theorem refsame_c (k : Int) (s : List UInt8) (v : Nat) (k' : Int) (s' : List UInt8) (v' : Nat) (w : World) (hv : v < 18446744073709551616) (hv' : v' < 18446744073709551616) :
    Calls Try.prog 43 #[.agg #[.int .i64 k, .string (str s), .float .f64 v], .agg #[.int .i64 k', .string (str s'), .float .f64 v']] w (RetBelow (.bool (cSame k s v k' s' v')) w) := by
  have HT := Lib.hid (Two.start w k s v k' s' v')
  have HS := Lib.hid (fun w => ref_same_any v v' w hv hv')
  have HE : Hid (cSame k s v k' s' v' = (decide (k = k') && decide (s = s') && same v v')) := Lib.hid rfl
  have hk := int_dec k k'
  have he := str_dec s s'
  clear hv hv'
  generalize decide (k = k') = x at hk HE
  generalize decide (s = s') = y at he HE
  cases x <;> cases y
  all_goals
    go_enter Try.func43, Try.ntmps43
    go_wp2_with (first
      | (go_at_call 58; (with_reducible refine (HS.out _).mono ?_); rintro e w1 ⟨rfl, rfl⟩))
    go_ret
    exact ⟨ret_bool (by rw [HE.out]; rfl), HT.out.a.below⟩
def rConf (k : Int) (s : List UInt8) (k' : Int) (s' : List UInt8) : Bool := decide (s = s') && (decide (k ≠ 1) || decide (k' ≠ 1))

end Go.Proofs.Ytimkkelnakamkaa.Cmd
