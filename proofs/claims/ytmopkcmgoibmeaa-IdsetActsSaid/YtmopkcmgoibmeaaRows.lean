/-
  No cell of these rows narrows 'for every input' (looked for: loops, veiled, ifaces, maps, wideKeys, modest, calm, conditions, laid).
  DERIVED. THE GIVEN ROWS OF THIS SEAT. 2 by the template 'for every input the law returns true; each argument reads behind the call as it read before'; 0 by the template 'total and deterministic' (their statements: YtmopkcmgoibmeaaTotals.lean).
  GIVEN WITH THE SEED: the statements are not yours to turn. If you find one false, say at which input.
  Laid BY PROGRAM, IN A SANDBOX (cutbox-rows.mjs): the forced cells as the released guide's own fill.sh prints them over the translation 5270c6e1bf66cabb… (all of the seat's roots in one cut). By AI agents, Wed Nov 11 2026. No macro, syntax, notation, axiom, sorry.
-/
import Derived.Test.YtmopkcmgoibmeaaChecked
import GoSem.Claim
import GoSem.ClaimJoined
import GoSem.ClaimMapViews
import Derived.JoinedTies
import Derived.KernelRfl
namespace Go.Proofs.Ytmopkcmgoibmeaa
/- THE CELL 'sum', in the pinned program and in every row, IS THE sha256 OF THE DUMP (.gsa) THAT YtmopkcmgoibmeaaProg.lean LOADS. Nothing in Lean hashes anything: it is a label: what it is worth is what the hold of that sum in a sandbox is worth. -/
noncomputable def Try.pinned : Pinned := { name := "ytmopkcmgoibmeaa", sum := "5270c6e1bf66cabbcba19f30e2b21acfef2ef650e3dc54a9fd9af1b9fb1ea6d1", checked := Try.checked }
namespace Rows
def none {H : Type} : Left H := { results := [], args := [] }

/-- 'cortegelaw04.IdsetActs': WHATEVER THE INPUT: true; the input reads as it did. -/
def idsetActsSpec : ChangeSpec := { name := "idsetActs", fn := fun _ => fun
  | [d1, d2] => { results := [.lit (.bool true)], args := [d1, d2] }
  | _ => none }
def idsetActsRow : OpenClaim := { program := "ytmopkcmgoibmeaa", sum := "5270c6e1bf66cabbcba19f30e2b21acfef2ef650e3dc54a9fd9af1b9fb1ea6d1", func := "cortege/cortegelaw04.IdsetActs", spec := "idsetActs", unfollowed := true, recurses := true, plainKeys := false, apart := false }
def IdsetActsSaid : Prop := idsetActsRow.holds Try.pinned (OpenSpec.ofChange idsetActsSpec)

/-- ITS FALSE NEIGHBOUR: 'it returns false'. Refute it at one input. -/
def idsetActsWrong : ChangeSpec := { name := "idsetActs", fn := fun _ => fun
  | [d1, d2] => { results := [.lit (.bool false)], args := [d1, d2] }
  | _ => none }
def IdsetActsWrongFalsely : Prop := idsetActsRow.holds Try.pinned (OpenSpec.ofChange idsetActsWrong)

/-- 'cortegelaw04.IdsetMinus': WHATEVER THE INPUT: true; the input reads as it did. -/
def idsetMinusSpec : ChangeSpec := { name := "idsetMinus", fn := fun _ => fun
  | [d1, d2] => { results := [.lit (.bool true)], args := [d1, d2] }
  | _ => none }
def idsetMinusRow : OpenClaim := { program := "ytmopkcmgoibmeaa", sum := "5270c6e1bf66cabbcba19f30e2b21acfef2ef650e3dc54a9fd9af1b9fb1ea6d1", func := "cortege/cortegelaw04.IdsetMinus", spec := "idsetMinus", unfollowed := true, recurses := true, plainKeys := false, apart := false }
def IdsetMinusSaid : Prop := idsetMinusRow.holds Try.pinned (OpenSpec.ofChange idsetMinusSpec)

/-- ITS FALSE NEIGHBOUR: 'it returns false'. Refute it at one input. -/
def idsetMinusWrong : ChangeSpec := { name := "idsetMinus", fn := fun _ => fun
  | [d1, d2] => { results := [.lit (.bool false)], args := [d1, d2] }
  | _ => none }
def IdsetMinusWrongFalsely : Prop := idsetMinusRow.holds Try.pinned (OpenSpec.ofChange idsetMinusWrong)

/- THE SECOND FORM. 'bulk': how many values and letters a reading holds, each counted each time it is reached (what is shared counts as often as it is met; a slice's spare places count too). A statement '..UptoSaid' is the law's where the arguments, and the package variables that the reading takes, are together of bulk at most 1048576: NARROWER than '..Said'. Prove '..Said' where nothing that the law and all that it calls make is longer than what came in: it says more and counts as full. Else prove '..UptoSaid'. A law counts once. -/
mutual
def uptoBulk {H : Type} : DataW H → Nat
  | .lit (.string bytes) => bytes.length + 1
  | .lit _ => 1
  | .nil => 1
  | .ptr d => uptoBulk d + 1
  | .slice elems spare => uptoBulkAll elems + uptoBulkAll spare + 1
  | .agg parts => uptoBulkAll parts + 1
  | .iface _ d => uptoBulk d + 1
  | .map entries => uptoBulkEntries entries + 1
  | .held _ => 1
def uptoBulkAll {H : Type} : List (DataW H) → Nat
  | [] => 0
  | d :: r => uptoBulk d + uptoBulkAll r
def uptoBulkEntries {H : Type} : List (Lit × DataW H) → Nat
  | [] => 0
  | x :: r => uptoBulkEntry x + uptoBulkEntries r
def uptoBulkEntry {H : Type} : Lit × DataW H → Nat
  | (.string bytes, d) => bytes.length + uptoBulk d + 1
  | (_, d) => uptoBulk d + 1
 end
def uptoSmall : (H : Type) → List (DataW H) → Bool := fun _ ds => decide (uptoBulkAll ds ≤ 1048576)
def OpenSpec.upto (s : _root_.Go.ChangeSpec) : _root_.Go.OpenSpec := { _root_.Go.OpenSpec.ofChange s with cond := some uptoSmall }

/-- 'cortegelaw04.IdsetActs', WHERE WHAT IT READS IS OF BULK AT MOST 1048576: true; the input reads as it did. -/
def idsetActsUptoRow : OpenClaim := { program := "ytmopkcmgoibmeaa", sum := "5270c6e1bf66cabbcba19f30e2b21acfef2ef650e3dc54a9fd9af1b9fb1ea6d1", func := "cortege/cortegelaw04.IdsetActs", spec := "idsetActs", unfollowed := true, recurses := true, plainKeys := false, apart := false, narrowed := true }
def IdsetActsUptoSaid : Prop := idsetActsUptoRow.holds Try.pinned (OpenSpec.upto idsetActsSpec)

/-- 'cortegelaw04.IdsetMinus', WHERE WHAT IT READS IS OF BULK AT MOST 1048576: true; the input reads as it did. -/
def idsetMinusUptoRow : OpenClaim := { program := "ytmopkcmgoibmeaa", sum := "5270c6e1bf66cabbcba19f30e2b21acfef2ef650e3dc54a9fd9af1b9fb1ea6d1", func := "cortege/cortegelaw04.IdsetMinus", spec := "idsetMinus", unfollowed := true, recurses := true, plainKeys := false, apart := false, narrowed := true }
def IdsetMinusUptoSaid : Prop := idsetMinusUptoRow.holds Try.pinned (OpenSpec.upto idsetMinusSpec)

end Rows
end Go.Proofs.Ytmopkcmgoibmeaa
