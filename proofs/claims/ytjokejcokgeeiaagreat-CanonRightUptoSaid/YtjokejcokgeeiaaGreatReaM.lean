/- What the developers' graph answers, of nil too, as reach asks it; what reached and follow hand out; From (layer 16, reach). Conditions: those in each statement. -/
import Derived.Test.YtjokejcokgeeiaaGreatReaI
import Derived.Test.YtjokejcokgeeiaaGreatReaA
import Derived.Test.YtjokejcokgeeiaaGreatGraG
import Derived.Test.YtjokejcokgeeiaaGreatSetA
import Derived.Test.YtjokejcokgeeiaaGreatGrbA
namespace Go.Proofs.YtjokejcokgeeiaaGreat.Rea
open Go.RowKit Cmd Bat Ids Rec Wid Gra Sqm Cps Go.Shelf
set_option linter.unusedVariables false
set_option linter.unusedSimpArgs false

/-! ### Plain -/
theorem deps_len {rs : List Rcd} (h : Lot rs ∧ gErr rs = 0) : (depsG rs).length ≤ 16000 := by
  have key : ∀ l : List Rcd, (∀ r ∈ l, r.2.2.1.length ≤ 16) → (depsG l).length ≤ l.length * 16 := fun l => by
    induction l with
    | nil => intro _; exact Nat.le_refl _
    | cons r t ih =>
      intro hh
      have h1 := hh r List.mem_cons_self
      have h2 := ih fun x hx => hh x (List.mem_cons_of_mem _ hx)
      show (r.2.2.1 ++ depsG t).length ≤ _
      rw [List.length_append, List.length_cons]; omega
  have h1 := key rs fun r hr => (lot_ok h.2 hr).2
  have h2 := h.1.few
  omega
theorem deps_wf {rs : List Rcd} (h : Lot rs) : ∀ x ∈ depsG rs, wfId x := fun x hx => by
  obtain ⟨r, hr, hm⟩ := List.mem_flatMap.1 hx
  exact (h.wf r hr).deps x hm

/-! ### What a graph answers -/
/-- A record is told: its Deps in a row of the call's own. -/
def GivesD (ds : List Idn) (w : World) (E : Ending) (w' : World) : Prop :=
  ∃ (a b q : Int) (p : Option Addr) (n c : Nat) (p' : Option Addr) (n' c' : Nat) (ok : Bool), E = .returned (.tuple #[.agg #[.int .i64 a, .int .i64 b, .int .i64 q, .slice p n c, .slice p' n' c'], .bool ok]) ∧ Owns w' w.heap.size (.slice p n c) ds ∧ Below w.heap.size w w'
/-- What is asked of a graph, or of nil, from a world on. -/
structure Asks (gp : Option Addr) (rs : List Rcd) (w : World) : Prop where
  lot : Lot rs ∧ gErr rs = 0
  ids : ∀ W, Below w.heap.size w W → Calls Tryz.prog 78 #[.pointer gp] W (GivesRow (gIds rs) W)
  miss : ∀ W, Below w.heap.size w W → Calls Tryz.prog 80 #[.pointer gp] W (GivesRow (gMiss rs) W)
  recd : ∀ W (a b : Int), Below w.heap.size w W → wfId (a, b) → Calls Tryz.prog 62 #[.pointer gp, .agg #[.int .i64 a, .int .i64 b]] W (GivesD (dpG rs (a, b)) W)
  users : ∀ W (a b : Int), Below w.heap.size w W → wfId (a, b) → Calls Tryz.prog 49 #[.pointer gp, .agg #[.int .i64 a, .int .i64 b]] W (GivesOwned (gUsers rs (a, b)) W)
theorem Asks.on {gp : Option Addr} {rs : List Rcd} {w w' : World} (A : Asks gp rs w) (hb : Below w.heap.size w w') : Asks gp rs w' where
  lot := A.lot
  ids := fun W h => A.ids W (hb.trans (h.mono hb.size))
  miss := fun W h => A.miss W (hb.trans (h.mono hb.size))
  recd := fun W a b h => A.recd W a b (hb.trans (h.mono hb.size))
  users := fun W a b h => A.users W a b (hb.trans (h.mono hb.size))
theorem given_no {w w' : World} {E : Ending} (h : RetBelow (.tuple #[zeroRec, .bool false]) w E w') : GivesD [] w E w' := ⟨0, 0, 0, none, 0, 0, none, 0, 0, false, h.1, World.ownsRow_nil _ _ _ _, h.2⟩
theorem recd_graph {G : Nat → Nat → List Rcd → World → Prop} (HG : Graphs G) {N g : Nat} {rs : List Rcd} {W : World} (h : G N g rs W) (a b : Int) (hw : wfId (a, b)) : Calls Tryz.prog 62 #[gptr g, .agg #[.int .i64 a, .int .i64 b]] W (GivesD (dpG rs (a, b)) W) := by
  cases hf : rs.find? (fun r => decide (r.1 = (a, b))) with
  | none =>
    have hn : (a, b) ∉ idsG rs := fun hm => by
      obtain ⟨r, hr, e⟩ := List.mem_map.1 hm
      have := List.find?_eq_none.1 hf r hr
      simp only [decide_eq_true_eq] at this
      exact this e
    rw [dp_no hn]
    exact (HG.recN h a b hw hn).mono fun _ _ h1 => given_no h1
  | some r =>
    have hr := List.mem_of_find?_eq_some hf
    have e : r.1 = (a, b) := by
      have := List.find?_some hf
      simpa using this
    have hd : dpG rs (a, b) = r.2.2.1 := by unfold dpG; rw [hf]
    rw [hd]
    refine (HG.recY h a b hw r hr e).mono fun E w' h0 => ?_
    obtain ⟨v, u, rfl, h1, ⟨p', c', rfl, -⟩, h3⟩ := h0
    obtain ⟨p, n, c, rfl⟩ := own_is h1
    exact ⟨_, _, _, p, n, c, p', _, c', true, rfl, h1, h3⟩
theorem Asks.graph {G : Nat → Nat → List Rcd → World → Prop} (HG : Graphs G) {N g : Nat} {rs : List Rcd} {w : World} (h : G N g rs w) : Asks (some ⟨g, 0, none⟩) rs w :=
  have up : ∀ {W}, Below w.heap.size w W → G N g rs W := fun hb => HG.on h (hb.mono (HG.le h))
  { lot := HG.lot h
    ids := fun W hb => HG.ids (up hb)
    miss := fun W hb => HG.miss (up hb)
    recd := fun W a b hb hw => recd_graph HG (up hb) a b hw
    users := fun W a b hb hw => HG.usersO (up hb) a b hw }
theorem Asks.nil {G : Nat → Nat → List Rcd → World → Prop} (HG : Graphs G) (w : World) : Asks none [] w where
  lot := ⟨⟨fun x hx => (by cases hx), by decide, fun r hr => (by cases hr)⟩, by decide⟩
  ids := fun W _ => HG.nids W
  miss := fun W _ => HG.nmiss W
  recd := fun W a b _ _ => (HG.nrec W a b).mono fun _ _ h => given_no h
  users := fun W a b _ _ => HG.nusersO W a b

/-! ### follow, reached -/
abbrev flw (bl bn : Nat) : Value := .func (.func 107) #[] #[.pointer (some ⟨bl, 0, none⟩), .pointer (some ⟨bn, 0, none⟩)]
theorem follow_any (p : Option Addr) (n c fn : Nat) (bs lb : Array Value) (w : World) : Calls Tryz.prog 79 #[.slice p n c, .func (.func fn) bs lb] w fun E w' => E = .returned (flw w.heap.size (w.heap.size + 1)) ∧ w' = (w.alloc (.cells #[.slice p n c] 38)).alloc (.cells #[.func (.func fn) bs lb] 81) := by
  go_enter Tryz.func79, Tryz.ntmps79
  go_wp2
  go_ret
  exact ⟨by simp, rfl⟩

/-! ### From -/
end Go.Proofs.YtjokejcokgeeiaaGreat.Rea

/- What the developers' Path and Whole give (layer 16, reach). Conditions: those in each statement. -/
namespace Go.Proofs.YtjokejcokgeeiaaGreat.Rea
open Go.RowKit Cmd Bat Ids Rec Wid Gra Sqm Cps Go.Shelf
set_option linter.unusedVariables false
set_option linter.unusedSimpArgs false
attribute [local go_sem] Oper.semAt_some

/-! ### Whole -/
/-- What Whole's loop has ahead of it, under B. -/
structure Whl (w : World) (gp : Option Addr) (l : List Idn) (sb gs ms : Nat) (V : World) : Prop where
  below : Below w.heap.size w V
  g : Go.Boxed V w.heap.size 27 (.pointer gp)
  r : Go.Boxed V (w.heap.size + 1) 4 (.bool false)
  s : Go.Boxed V sb 120 (.pointer (some ⟨gs, 0, none⟩))
  set : SetP V gs ms (srt l)
theorem Whl.on {w : World} {gp : Option Addr} {l : List Idn} {sb gs ms : Nat} {V W : World} {B : Nat} (h : Whl w gp l sb gs ms V) (hB : B = V.heap.size) (hb : Below B V W) : Whl w gp l sb gs ms W := by
  subst hB
  exact ⟨h.below.trans (hb.mono h.below.size), (hb.block _ h.g.lt).trans h.g, (hb.block _ h.r.lt).trans h.r, (hb.block _ h.s.lt).trans h.s, h.set.on hb⟩
end Go.Proofs.YtjokejcokgeeiaaGreat.Rea
