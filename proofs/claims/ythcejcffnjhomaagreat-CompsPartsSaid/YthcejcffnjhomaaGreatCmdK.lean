/- Plain facts on commands (layer 6, cmd): which may be. No condition but those in each statement. -/
import Derived.Test.YthcejcffnjhomaaGreatChecked
namespace Go.Proofs.YthcejcffnjhomaaGreat.Cmd

/-- A key's bytes; a key; which number a kind may have; a command that may be. -/
def keyByte (c : UInt8) : Bool := decide (97 ≤ c.toNat ∧ c.toNat ≤ 122) || decide (48 ≤ c.toNat ∧ c.toNat ≤ 57)
def isKeyL (s : List UInt8) : Bool := decide (1 ≤ s.length ∧ s.length ≤ 12) && s.all keyByte
def mayV (k : Int) (v : Nat) : Bool := decide (k = 2 ∨ k = 4 ∨ ((k = 1 ∨ k = 3) ∧ v = 0))
def cRight (k : Int) (s : List UInt8) (v : Nat) : Bool := isKeyL s && mayV k v
theorem right_parts {k : Int} {s : List UInt8} {v : Nat} (h : cRight k s v = true) : isKeyL s = true ∧ mayV k v = true := by
  unfold cRight at h; rwa [Bool.and_eq_true] at h
theorem key_parts {s : List UInt8} (h : isKeyL s = true) : 1 ≤ s.length ∧ s.length ≤ 12 ∧ ∀ c ∈ s, keyByte c = true := by
  unfold isKeyL at h
  rw [Bool.and_eq_true, decide_eq_true_eq, List.all_eq_true] at h
  exact ⟨h.1.1, h.1.2, h.2⟩
theorem kb_no_blank {c : UInt8} (h : keyByte c = true) : c.toNat ≠ 32 := by
  unfold keyByte at h
  rw [Bool.or_eq_true, decide_eq_true_eq, decide_eq_true_eq] at h
  omega
theorem kinds {k : Int} {v : Nat} (h : mayV k v = true) : (k = 1 ∧ v = 0) ∨ k = 2 ∨ (k = 3 ∧ v = 0) ∨ k = 4 := by
  unfold mayV at h; rw [decide_eq_true_eq] at h; omega
theorem may_num {k : Int} (v : Nat) (h : k = 2 ∨ k = 4) : mayV k v = true := by unfold mayV; rw [decide_eq_true_eq]; omega
end Go.Proofs.YthcejcffnjhomaaGreat.Cmd
