/-
  No cell of these rows narrows 'for every input' (looked for: loops, veiled, ifaces, maps, wideKeys, modest, calm, conditions, laid).
  DERIVED. THE GIVEN ROWS OF THIS SEAT. 3 by the template 'for every input the law returns true; each argument reads behind the call as it read before'; 0 by the template 'total and deterministic' (their statements: YtacgmhnalbbgbaaTotals.lean).
  GIVEN WITH THE SEED: the statements are not yours to turn. If you find one false, say at which input.
  Laid BY PROGRAM, IN A SANDBOX (cutbox-rows.mjs): the forced cells as the released guide's own fill.sh prints them over the translation 9758c78f7f5ba028… (all of the seat's roots in one cut). By AI agents, Wed Nov 11 2026. No macro, syntax, notation, axiom, sorry.
-/
import Derived.Test.YtacgmhnalbbgbaaChecked
import GoSem.Claim
import GoSem.ClaimJoined
import GoSem.ClaimMapViews
import Derived.JoinedTies
import Derived.KernelRfl
namespace Go.Proofs.Ytacgmhnalbbgbaa
/- THE CELL 'sum', in the pinned program and in every row, IS THE sha256 OF THE DUMP (.gsa) THAT YtacgmhnalbbgbaaProg.lean LOADS. Nothing in Lean hashes anything: it is a label: what it is worth is what the hold of that sum in a sandbox is worth. -/
noncomputable def Try.pinned : Pinned := { name := "ytacgmhnalbbgbaa", sum := "9758c78f7f5ba028600883a8367f57b0dcc764184602f45c18261f5d5e835331", checked := Try.checked }
namespace Rows
def none {H : Type} : Left H := { results := [], args := [] }

/-- 'cortegelaw13.VaultApplies': WHATEVER THE INPUT: true; the input reads as it did. -/
def vaultAppliesSpec : ChangeSpec := { name := "vaultApplies", fn := fun _ => fun
  | [d1, d2, d3] => { results := [.lit (.bool true)], args := [d1, d2, d3] }
  | _ => none }
def vaultAppliesRow : OpenClaim := { program := "ytacgmhnalbbgbaa", sum := "9758c78f7f5ba028600883a8367f57b0dcc764184602f45c18261f5d5e835331", func := "cortege/cortegelaw13.VaultApplies", spec := "vaultApplies", inPlace := ["math.Float64frombits", "math.Float64bits"], unfollowed := true, recurses := true, apart := false }
def VaultAppliesSaid : Prop := vaultAppliesRow.holds Try.pinned (OpenSpec.ofChange vaultAppliesSpec)

/-- ITS FALSE NEIGHBOUR: 'it returns false'. Refute it at one input. -/
def vaultAppliesWrong : ChangeSpec := { name := "vaultApplies", fn := fun _ => fun
  | [d1, d2, d3] => { results := [.lit (.bool false)], args := [d1, d2, d3] }
  | _ => none }
def VaultAppliesWrongFalsely : Prop := vaultAppliesRow.holds Try.pinned (OpenSpec.ofChange vaultAppliesWrong)

/-- 'cortegelaw13.VaultSwaps': WHATEVER THE INPUT: true; the input reads as it did. -/
def vaultSwapsSpec : ChangeSpec := { name := "vaultSwaps", fn := fun _ => fun
  | [d1, d2, d3] => { results := [.lit (.bool true)], args := [d1, d2, d3] }
  | _ => none }
def vaultSwapsRow : OpenClaim := { program := "ytacgmhnalbbgbaa", sum := "9758c78f7f5ba028600883a8367f57b0dcc764184602f45c18261f5d5e835331", func := "cortege/cortegelaw13.VaultSwaps", spec := "vaultSwaps", inPlace := ["math.Float64frombits", "math.Float64bits"], unfollowed := true, recurses := true, apart := false }
def VaultSwapsSaid : Prop := vaultSwapsRow.holds Try.pinned (OpenSpec.ofChange vaultSwapsSpec)

/-- ITS FALSE NEIGHBOUR: 'it returns false'. Refute it at one input. -/
def vaultSwapsWrong : ChangeSpec := { name := "vaultSwaps", fn := fun _ => fun
  | [d1, d2, d3] => { results := [.lit (.bool false)], args := [d1, d2, d3] }
  | _ => none }
def VaultSwapsWrongFalsely : Prop := vaultSwapsRow.holds Try.pinned (OpenSpec.ofChange vaultSwapsWrong)

/-- 'cortegelaw13.VaultSame': WHATEVER THE INPUT: true; the input reads as it did. -/
def vaultSameSpec : ChangeSpec := { name := "vaultSame", fn := fun _ => fun
  | [d1, d2] => { results := [.lit (.bool true)], args := [d1, d2] }
  | _ => none }
def vaultSameRow : OpenClaim := { program := "ytacgmhnalbbgbaa", sum := "9758c78f7f5ba028600883a8367f57b0dcc764184602f45c18261f5d5e835331", func := "cortege/cortegelaw13.VaultSame", spec := "vaultSame", inPlace := ["math.Float64frombits", "math.Float64bits"], unfollowed := true, recurses := true, apart := false }
def VaultSameSaid : Prop := vaultSameRow.holds Try.pinned (OpenSpec.ofChange vaultSameSpec)

/-- ITS FALSE NEIGHBOUR: 'it returns false'. Refute it at one input. -/
def vaultSameWrong : ChangeSpec := { name := "vaultSame", fn := fun _ => fun
  | [d1, d2] => { results := [.lit (.bool false)], args := [d1, d2] }
  | _ => none }
def VaultSameWrongFalsely : Prop := vaultSameRow.holds Try.pinned (OpenSpec.ofChange vaultSameWrong)

/- THE SECOND FORM. 'bulk': how many values and letters a reading holds, each counted each time it is reached (what is shared counts as often as it is met; a slice's spare places count too). A statement '..UptoSaid' is the law's where the arguments, and the package variables that the reading takes, are together of bulk at most 1048576: NARROWER than '..Said'. Prove '..Said' where nothing that the law and all that it calls make is longer than what came in: it says more and counts as full. Else prove '..UptoSaid'. A law counts once. -/
mutual
def uptoBulk {H : Type} : DataW H → Nat
  | .lit (.string bytes) => bytes.length + 1
  | .lit _ => 1
  | .nil => 1
  | .ptr d => uptoBulk d + 1
  | .slice elems spare => uptoBulkAll elems + uptoBulkAll spare + 1
  | .agg parts => uptoBulkAll parts + 1
  | .iface _ d => uptoBulk d + 1
  | .map entries => uptoBulkEntries entries + 1
  | .held _ => 1
def uptoBulkAll {H : Type} : List (DataW H) → Nat
  | [] => 0
  | d :: r => uptoBulk d + uptoBulkAll r
def uptoBulkEntries {H : Type} : List (Lit × DataW H) → Nat
  | [] => 0
  | x :: r => uptoBulkEntry x + uptoBulkEntries r
def uptoBulkEntry {H : Type} : Lit × DataW H → Nat
  | (.string bytes, d) => bytes.length + uptoBulk d + 1
  | (_, d) => uptoBulk d + 1
 end
def uptoSmall : (H : Type) → List (DataW H) → Bool := fun _ ds => decide (uptoBulkAll ds ≤ 1048576)
def OpenSpec.upto (s : _root_.Go.ChangeSpec) : _root_.Go.OpenSpec := { _root_.Go.OpenSpec.ofChange s with cond := some uptoSmall }

/-- 'cortegelaw13.VaultApplies', WHERE WHAT IT READS IS OF BULK AT MOST 1048576: true; the input reads as it did. -/
def vaultAppliesUptoRow : OpenClaim := { program := "ytacgmhnalbbgbaa", sum := "9758c78f7f5ba028600883a8367f57b0dcc764184602f45c18261f5d5e835331", func := "cortege/cortegelaw13.VaultApplies", spec := "vaultApplies", inPlace := ["math.Float64frombits", "math.Float64bits"], unfollowed := true, recurses := true, apart := false, narrowed := true }
def VaultAppliesUptoSaid : Prop := vaultAppliesUptoRow.holds Try.pinned (OpenSpec.upto vaultAppliesSpec)

/-- 'cortegelaw13.VaultSwaps', WHERE WHAT IT READS IS OF BULK AT MOST 1048576: true; the input reads as it did. -/
def vaultSwapsUptoRow : OpenClaim := { program := "ytacgmhnalbbgbaa", sum := "9758c78f7f5ba028600883a8367f57b0dcc764184602f45c18261f5d5e835331", func := "cortege/cortegelaw13.VaultSwaps", spec := "vaultSwaps", inPlace := ["math.Float64frombits", "math.Float64bits"], unfollowed := true, recurses := true, apart := false, narrowed := true }
def VaultSwapsUptoSaid : Prop := vaultSwapsUptoRow.holds Try.pinned (OpenSpec.upto vaultSwapsSpec)

/-- 'cortegelaw13.VaultSame', WHERE WHAT IT READS IS OF BULK AT MOST 1048576: true; the input reads as it did. -/
def vaultSameUptoRow : OpenClaim := { program := "ytacgmhnalbbgbaa", sum := "9758c78f7f5ba028600883a8367f57b0dcc764184602f45c18261f5d5e835331", func := "cortege/cortegelaw13.VaultSame", spec := "vaultSame", inPlace := ["math.Float64frombits", "math.Float64bits"], unfollowed := true, recurses := true, apart := false, narrowed := true }
def VaultSameUptoSaid : Prop := vaultSameUptoRow.holds Try.pinned (OpenSpec.upto vaultSameSpec)

end Rows
end Go.Proofs.Ytacgmhnalbbgbaa
