/- A record's bytes, plain; what the document's Bytes and Text (layer 9) give of an int that is not below 0, and of a key. Conditions: those in each statement. -/
import Derived.Test.YtapjjeffegnflaaCodA
import Derived.Test.YtapjjeffegnflaaRecC
import Derived.Test.YtapjjeffegnflaaDigE
import Derived.Test.YtapjjeffegnflaaWirJ
namespace Go.Proofs.Ytapjjeffegnflaa.Cod
open Go.RowKit F64 Cmd Bat Ids Rec Wir Dig
set_option linter.unusedVariables false

/-! ### Plain -/
def encI (x : Int) : List UInt8 := enc x.toNat
def idB (x : Idn) : List UInt8 := encI x.1 ++ encI x.2
def hasV (k : Int) : Bool := k == 2 || k == 4
def cmdB (c : Cmdn) : List UInt8 := (encI c.1 ++ txt c.2.1) ++ (if hasV c.1 then big (canon c.2.2) else [])
def headB (a b q : Int) (n : Nat) : List UInt8 := ((encI a ++ encI b) ++ encI q) ++ enc n
def depsB (ds : List Idn) : List UInt8 := (ds.map idB).flatten
def cmdsB (cs : List Cmdn) : List UInt8 := (cs.map cmdB).flatten
/-- A record's bytes, ahead of their digest. -/
def recB (a b q : Int) (ds : List Idn) (cs : List Cmdn) : List UInt8 := ((headB a b q ds.length ++ depsB ds) ++ enc cs.length) ++ cmdsB cs
theorem depsB_snoc (ds : List Idn) (x : Idn) : depsB (ds ++ [x]) = depsB ds ++ idB x := by unfold depsB; simp
theorem cmdsB_snoc (cs : List Cmdn) (x : Cmdn) : cmdsB (cs ++ [x]) = cmdsB cs ++ cmdB x := by unfold cmdsB; simp
def okN (x : Int) : Prop := 0 ≤ x ∧ x < 9223372036854775808
/-- Which records' bytes are told here. -/
structure Fine (a b q : Int) (ds : List Idn) (cs : List Cmdn) : Prop where
  a : okN a
  b : okN b
  q : okN q
  deps : ds.length ≤ 100
  cmds : cs.length ≤ 100
  ids : ∀ x ∈ ds, okN x.1 ∧ okN x.2
  cms : ∀ x ∈ cs, okN x.1 ∧ x.2.1.length ≤ 1000 ∧ x.2.2 < 18446744073709551616
theorem u64_of {x : Int} (h0 : 0 ≤ x) (h1 : x < 9223372036854775808) : IntKind.u64.wrap x = x := by rw [IntKind.wrap_u64]; omega
theorem encI_len {x : Int} (h : okN x) : (encI x).length ≤ 10 := enc_len (by have := h.1; have := h.2; omega)
theorem idB_len {x : Idn} (h : okN x.1 ∧ okN x.2) : (idB x).length ≤ 20 := by
  have h1 := encI_len h.1; have h2 := encI_len h.2
  unfold idB; rw [List.length_append]; omega
theorem cmdB_len {x : Cmdn} (h : okN x.1 ∧ x.2.1.length ≤ 1000 ∧ x.2.2 < 18446744073709551616) : (cmdB x).length ≤ 1030 := by
  have h1 := encI_len h.1
  have h2 := enc_len (n := x.2.1.length) (by omega)
  unfold cmdB txt
  rw [List.length_append, List.length_append, List.length_append]
  split
  · rw [big_len]; omega
  · simp; omega
theorem flat_le {α : Type} (f : α → List UInt8) (n : Nat) : ∀ l : List α, (∀ x ∈ l, (f x).length ≤ n) → (l.map f).flatten.length ≤ l.length * n
  | [], _ => by simp
  | x :: l, h => by
    have h1 := h x (by simp)
    have h2 := flat_le f n l (fun y hy => h y (by simp [hy]))
    rw [List.map_cons, List.flatten_cons, List.length_append, List.length_cons, Nat.add_mul]
    omega
theorem headB_len {a b q : Int} {n : Nat} (ha : okN a) (hb : okN b) (hq : okN q) (hn : n ≤ 100) : (headB a b q n).length ≤ 40 := by
  have h1 := encI_len ha; have h2 := encI_len hb; have h3 := encI_len hq; have h4 := enc_len (n := n) (by omega)
  unfold headB; simp only [List.length_append]; omega

/-! ### The document's Bytes and Text of what a record has -/
set_option maxRecDepth 100000 in
theorem bytes_i (x : Int) (w : World) (h0 : 0 ≤ x) (h1 : x < 9223372036854775808) : Calls Try.prog 26 #[.int .u64 x] w (GivesB (encI x) w) := by
  have := bytes_any x.toNat w (by omega)
  rw [Int.toNat_of_nonneg h0] at this
  exact this
set_option maxRecDepth 100000 in
theorem text_i (s : List UInt8) (w : World) (h : s.length ≤ 1000) : Calls Try.prog 27 #[.string (str s)] w (GivesB (txt s) w) := text_any s w (by omega)

/-! ### The lists' places -/
theorem ids_parts {w : World} {p : Option Addr} {cap : Nat} {ds : List Idn} (h : RowAt w (.slice p ds.length cap) ds) : ds.length = 0 ∨ ∃ B off, p = some ⟨B, off, none⟩ ∧ Row2 w B off ds := by
  obtain ⟨p', cap', e, -, -, -, h3⟩ := h
  injection e with e1 e2 e3
  subst e1
  by_cases hz : ds = []
  · left; rw [hz]; rfl
  · right
    obtain ⟨B, off, rfl, hlt, hc⟩ := h3 hz
    exact ⟨B, off, rfl, hlt, fun j hj => (hc j hj).1, fun j hj => (hc j hj).2⟩
theorem cmds_parts {w : World} {p : Option Addr} {cap : Nat} {cs : List Cmdn} (h : layC.Row w (.slice p cs.length cap) cs) : cs.length = 0 ∨ ∃ B off, p = some ⟨B, off, none⟩ ∧ layC.In w B off cs := by
  obtain ⟨p', cap', e, -, -, h3⟩ := h
  injection e with e1 e2 e3
  subst e1
  by_cases hz : cs = []
  · left; rw [hz]; rfl
  · right
    obtain ⟨B, off, rfl, hi⟩ := h3 hz
    exact ⟨B, off, rfl, hi⟩
theorem nth_mem' {ds : List Idn} {k : Nat} (h : k < ds.length) : nth ds k ∈ ds := by
  unfold nth; rw [List.getD_eq_getElem?_getD, List.getElem?_eq_getElem h]; exact List.getElem_mem h
theorem depsB_take {ds : List Idn} {k : Nat} (h : k < ds.length) : depsB (ds.take (k + 1)) = depsB (ds.take k) ++ idB (nth ds k) := by
  rw [List.take_succ_eq_append_getElem h, depsB_snoc]; unfold nth; rw [List.getD_eq_getElem?_getD, List.getElem?_eq_getElem h]; rfl
theorem cmdsB_take {cs : List Cmdn} {k : Nat} (h : k < cs.length) : cmdsB (cs.take (k + 1)) = cmdsB (cs.take k) ++ cmdB (layC.at cs k) := by
  rw [layC.take h, cmdsB_snoc]
theorem depsB_len {ds : List Idn} (h : ∀ x ∈ ds, okN x.1 ∧ okN x.2) (hl : ds.length ≤ 100) (k : Nat) : (depsB (ds.take k)).length ≤ 2000 := by
  have h1 := flat_le idB 20 (ds.take k) fun x hx => idB_len (h x (List.mem_of_mem_take hx))
  have h2 : (ds.take k).length ≤ ds.length := by rw [List.length_take]; omega
  have : (ds.take k).length * 20 ≤ 100 * 20 := Nat.mul_le_mul_right _ (by omega)
  unfold depsB; omega
theorem cmdsB_len {cs : List Cmdn} (h : ∀ x ∈ cs, okN x.1 ∧ x.2.1.length ≤ 1000 ∧ x.2.2 < 18446744073709551616) (hl : cs.length ≤ 100) (k : Nat) : (cmdsB (cs.take k)).length ≤ 103000 := by
  have h1 := flat_le cmdB 1030 (cs.take k) fun x hx => cmdB_len (h x (List.mem_of_mem_take hx))
  have h2 : (cs.take k).length ≤ cs.length := by rw [List.length_take]; omega
  have : (cs.take k).length * 1030 ≤ 100 * 1030 := Nat.mul_le_mul_right _ (by omega)
  unfold cmdsB; omega
/-- What is put so far. -/
def midB (a b q : Int) (ds : List Idn) (n k : Nat) : List UInt8 := headB a b q n ++ depsB (ds.take k)
def endB (a b q : Int) (ds : List Idn) (cs : List Cmdn) (k : Nat) : List UInt8 := (midB a b q ds ds.length ds.length ++ enc cs.length) ++ cmdsB (cs.take k)
theorem mid_step {a b q : Int} {ds : List Idn} {n k : Nat} (h : k < ds.length) {x y : Int} (e : nth ds k = (x, y)) : (midB a b q ds n k ++ encI x) ++ encI y = midB a b q ds n (k + 1) := by
  unfold midB; rw [depsB_take h, e]; unfold idB; simp only [List.append_assoc]
theorem end_step {a b q : Int} {ds : List Idn} {cs : List Cmdn} {k : Nat} (h : k < cs.length) {x : Int} {s : List UInt8} {f : Nat} (e : layC.at cs k = (x, s, f)) :
    (hasV x = false → (endB a b q ds cs k ++ encI x) ++ txt s = endB a b q ds cs (k + 1)) ∧ (hasV x = true → ((endB a b q ds cs k ++ encI x) ++ txt s) ++ big (canon f) = endB a b q ds cs (k + 1)) := by
  unfold endB; rw [cmdsB_take h, e]; unfold cmdB
  constructor <;> intro hv <;> rw [hv] <;> simp
theorem mid_start (a b q : Int) (ds : List Idn) : ((encI a ++ encI b) ++ encI q) ++ encI (ds.length : Int) = midB a b q ds ds.length 0 := by
  unfold midB headB depsB encI; simp
theorem end_start (a b q : Int) (ds : List Idn) (cs : List Cmdn) : midB a b q ds ds.length ds.length ++ encI (cs.length : Int) = endB a b q ds cs 0 := by
  unfold endB cmdsB encI; simp
theorem end_all (a b q : Int) (ds : List Idn) (cs : List Cmdn) : endB a b q ds cs cs.length = recB a b q ds cs := by
  unfold endB midB recB; rw [List.take_length, List.take_length]
theorem Fine.midLen {a b q : Int} {ds : List Idn} {cs : List Cmdn} (h : Fine a b q ds cs) (k : Nat) : (midB a b q ds ds.length k).length ≤ 3000 := by
  have h1 := headB_len h.a h.b h.q h.deps
  have h2 := depsB_len h.ids h.deps k
  unfold midB; rw [List.length_append]; omega
theorem Fine.endLen {a b q : Int} {ds : List Idn} {cs : List Cmdn} (h : Fine a b q ds cs) (k : Nat) : (endB a b q ds cs k).length ≤ 110000 := by
  have h1 := h.midLen ds.length
  have h2 := cmdsB_len h.cms h.cmds k
  have h3 := enc_len (n := cs.length) (by have := h.cmds; omega)
  unfold endB; rw [List.length_append, List.length_append]; omega
theorem Fine.id {a b q : Int} {ds : List Idn} {cs : List Cmdn} (h : Fine a b q ds cs) {k : Nat} (hk : k < ds.length) {x y : Int} (e : nth ds k = (x, y)) : okN x ∧ okN y := by
  have := h.ids _ (nth_mem' hk); rw [e] at this; exact this
theorem Fine.cm {a b q : Int} {ds : List Idn} {cs : List Cmdn} (h : Fine a b q ds cs) {k : Nat} (hk : k < cs.length) {x : Int} {s : List UInt8} {f : Nat} (e : layC.at cs k = (x, s, f)) : okN x ∧ s.length ≤ 1000 ∧ f < 18446744073709551616 := by
  have := h.cms _ (layC.at_mem hk); rw [e] at this; exact this
end Go.Proofs.Ytapjjeffegnflaa.Cod
