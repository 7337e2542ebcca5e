/- A heap of numbers (container/heap, as canon uses it), plain: a row in which no element is smaller than the one it stands below; one is put in, the smallest one is taken out. No condition but those in each statement. -/
import Derived.Test.YtjokejcokgeeiaaGreatApp
import Derived.Test.YtjokejcokgeeiaaGreatReg
import Derived.Test.YtjokejcokgeeiaaGreatTreA
import Derived.Deep.QuietTactic
import Derived.BigQuiet
namespace Go.Proofs.YtjokejcokgeeiaaGreat.Can
open Go.RowKit Cmd Bat Ids Rec Wid Cps
set_option linter.unusedVariables false
set_option linter.unusedSimpArgs false

/-! ### Plain -/
/-- Of the first n no element is smaller than the one it stands below. -/
def Hpy (xs : List Nat) (n : Nat) : Prop := ∀ j, 0 < j → j < n → xs.getD ((j - 1) / 2) 0 ≤ xs.getD j 0
def swp (xs : List Nat) (i j : Nat) : List Nat := (xs.set i (xs.getD j 0)).set j (xs.getD i 0)
theorem swp_len (xs : List Nat) (i j : Nat) : (swp xs i j).length = xs.length := by unfold swp; rw [List.length_set, List.length_set]
theorem getD_at {xs : List Nat} {i : Nat} (h : i < xs.length) : xs.getD i 0 = xs[i] := by rw [List.getD_eq_getElem?_getD, List.getElem?_eq_getElem h]; rfl
theorem swp_perm {xs : List Nat} {i j : Nat} (hi : i < xs.length) (hj : j < xs.length) : (swp xs i j).Perm xs := by
  unfold swp
  rw [getD_at hi, getD_at hj]
  exact List.set_set_perm hi hj
theorem swp_at {xs : List Nat} {i j : Nat} (hi : i < xs.length) (hj : j < xs.length) (k : Nat) : (swp xs i j).getD k 0 = if k = j then xs.getD i 0 else if k = i then xs.getD j 0 else xs.getD k 0 := by
  unfold swp
  rw [List.getD_eq_getElem?_getD, List.getElem?_set, List.length_set]
  by_cases e : j = k
  · subst e; rw [if_pos rfl, if_pos hj, if_pos rfl]; rfl
  · rw [if_neg e, if_neg (fun h => e h.symm), List.getElem?_set]
    by_cases e2 : i = k
    · subst e2; rw [if_pos rfl, if_pos hi, if_pos rfl]; rfl
    · rw [if_neg e2, if_neg (fun h => e2 h.symm), ← List.getD_eq_getElem?_getD]
/-- The smallest one stands first. -/
theorem Hpy.min {xs : List Nat} {n : Nat} (h : Hpy xs n) : ∀ k, k < n → xs.getD 0 0 ≤ xs.getD k 0 := fun k => by
  induction k using Nat.strongRecOn with
  | ind k ih =>
    intro hk
    by_cases h0 : k = 0
    · subst h0; exact Nat.le_refl _
    · have h1 := h k (by omega) hk
      have h2 := ih ((k - 1) / 2) (by omega) (by omega)
      omega
/-- All is in order but at j, which may be too small. -/
structure Upy (xs : List Nat) (n j : Nat) : Prop where
  lt : j < n
  low : ∀ k, 0 < k → k < n → k ≠ j → xs.getD ((k - 1) / 2) 0 ≤ xs.getD k 0
  up : 0 < j → ∀ k, 0 < k → k < n → (k - 1) / 2 = j → xs.getD ((j - 1) / 2) 0 ≤ xs.getD k 0
theorem Upy.done {xs : List Nat} {n j : Nat} (h : Upy xs n j) (hd : j = 0 ∨ xs.getD ((j - 1) / 2) 0 ≤ xs.getD j 0) : Hpy xs n := fun k h0 hk => by
  by_cases e : k = j
  · subst e; exact hd.resolve_left (by omega)
  · exact h.low k h0 hk e
theorem Upy.step {xs : List Nat} {n j : Nat} (h : Upy xs n j) (h0 : 0 < j) (hn : n ≤ xs.length) (hlt : xs.getD j 0 < xs.getD ((j - 1) / 2) 0) : Upy (swp xs ((j - 1) / 2) j) n ((j - 1) / 2) := by
  have hj := h.lt
  obtain ⟨i, hi⟩ : ∃ i, i = (j - 1) / 2 := ⟨_, rfl⟩
  rw [← hi] at hlt ⊢
  have hil : i < xs.length := by omega
  have hjl : j < xs.length := by omega
  refine ⟨by omega, fun k hk0 hkn hki => ?_, fun hi0 k hk0 hkn hki => ?_⟩
  · rw [swp_at hil hjl, swp_at hil hjl]
    by_cases e : k = j
    · subst e
      rw [if_pos rfl, if_neg (by omega), if_pos (by omega)]; omega
    · rw [if_neg e, if_neg hki]
      have h1 := h.low k hk0 hkn e
      by_cases e2 : (k - 1) / 2 = j
      · rw [if_pos e2]
        have := h.up h0 k hk0 hkn e2
        rw [← hi] at this; exact this
      · rw [if_neg e2]
        by_cases e3 : (k - 1) / 2 = i
        · rw [if_pos e3]; rw [e3] at h1; omega
        · rw [if_neg e3]; exact h1
  · rw [swp_at hil hjl, swp_at hil hjl]
    have h1 := h.low i hi0 (by omega) (by omega)
    rw [if_neg (by omega), if_neg (by omega)]
    by_cases e : k = j
    · subst e; rw [if_pos rfl]; exact h1
    · rw [if_neg e, if_neg (by omega)]
      have h2 := h.low k hk0 hkn e
      rw [hki] at h2; omega
/-- One more at the end. -/
theorem Hpy.snoc {xs : List Nat} (h : Hpy xs xs.length) (x : Nat) : Upy (xs ++ [x]) (xs.length + 1) xs.length := by
  have e : ∀ k, k < xs.length → (xs ++ [x]).getD k 0 = xs.getD k 0 := fun k hk => by rw [List.getD_eq_getElem?_getD, List.getElem?_append_left hk, ← List.getD_eq_getElem?_getD]
  refine ⟨by omega, fun k hk0 hkn hne => ?_, fun h0 k hk0 hkn hk => absurd hk (by omega)⟩
  rw [e _ (by omega), e _ (by omega)]
  exact h k hk0 (by omega)
/-- All of the first n is in order but below i, which may be too great. -/
structure Dny (xs : List Nat) (n i : Nat) : Prop where
  low : ∀ k, 0 < k → k < n → (k - 1) / 2 ≠ i → xs.getD ((k - 1) / 2) 0 ≤ xs.getD k 0
  up : 0 < i → ∀ k, 0 < k → k < n → (k - 1) / 2 = i → xs.getD ((i - 1) / 2) 0 ≤ xs.getD k 0
theorem Dny.done {xs : List Nat} {n i : Nat} (h : Dny xs n i) (hd : ∀ k, 0 < k → k < n → (k - 1) / 2 = i → xs.getD i 0 ≤ xs.getD k 0) : Hpy xs n := fun k h0 hk => by
  by_cases e : (k - 1) / 2 = i
  · have := hd k h0 hk e; rw [e]; exact this
  · exact h.low k h0 hk e
theorem Dny.step {xs : List Nat} {n i j : Nat} (h : Dny xs n i) (h0 : 0 < j) (hj : j < n) (hi : (j - 1) / 2 = i) (hn : n ≤ xs.length) (hlt : xs.getD j 0 < xs.getD i 0) (ho : ∀ k, 0 < k → k < n → (k - 1) / 2 = i → xs.getD j 0 ≤ xs.getD k 0) : Dny (swp xs i j) n j := by
  have hil : i < xs.length := by omega
  have hjl : j < xs.length := by omega
  refine ⟨fun k hk0 hkn hki => ?_, fun _ k hk0 hkn hki => ?_⟩
  · rw [swp_at hil hjl, swp_at hil hjl, if_neg hki]
    by_cases e : k = j
    · subst e
      rw [if_pos hi, if_pos rfl]; omega
    · rw [if_neg e]
      by_cases e2 : (k - 1) / 2 = i
      · rw [if_pos e2, if_neg (by omega)]; exact ho k hk0 hkn e2
      · rw [if_neg e2]
        by_cases e3 : k = i
        · rw [if_pos e3]
          have := h.up (by omega) j h0 hj hi
          rw [e3]; exact this
        · rw [if_neg e3]; exact h.low k hk0 hkn e2
  · rw [swp_at hil hjl, swp_at hil hjl, hi, if_neg (by omega), if_pos rfl, if_neg (by omega), if_neg (by omega)]
    have := h.low k hk0 hkn (by omega)
    rw [hki] at this; exact this
/-- The first one and the last one have changed places. -/
theorem Hpy.open_ {xs : List Nat} {n : Nat} (h : Hpy xs (n + 1)) (hl : xs.length = n + 1) : Dny (swp xs 0 n) n 0 := by
  refine ⟨fun k hk0 hkn hki => ?_, fun h0 => absurd h0 (by omega)⟩
  rw [swp_at (by omega) (by omega), swp_at (by omega) (by omega), if_neg (by omega), if_neg hki, if_neg (by omega), if_neg (by omega)]
  exact h k hk0 (by omega)

/-! ### The row's methods -/
theorem grown_lowH {w w' : World} (r : Option Nat) (hb : Below w.heap.size w w') : w.grownBy w' r := ⟨hb.os, hb.tape, hb.output, hb.size, fun k hk _ => hb.block k hk⟩
abbrev OwnN (W : World) (base : Nat) (v : Value) (xs : List Nat) : Prop := wdN.Own 3 W base v xs
theorem flatN : ∀ xs : List Nat, wdN.flat xs = xs.map fun (x : Nat) => (Value.int .i64 (x : Int))
  | [] => rfl
  | x :: l => by show [_] ++ wdN.flat l = _; rw [flatN l]; rfl
section
variable {W : World} {base g n cap : Nat} {xs : List Nat}
theorem ownN_parts (h : OwnN W base (.slice (some ⟨g, 0, none⟩) n cap) xs) : n = xs.length ∧ base ≤ g ∧ g < W.heap.size ∧ xs.length ≤ cap ∧ cap ≤ 9223372036854775807 := by
  have hlt := World.ownsRow.lt h
  rcases h.2 with ⟨e1, h0⟩ | ⟨g, c', cur, e1, hb, hg, hn, hm, hs, ht⟩
  · cases e1
  · injection e1 with e1 e2 e3
    injection e1 with e1
    injection e1 with e1
    subst e1; subst e2; subst e3
    exact ⟨rfl, hb, (hlt _ rfl).2, hn, by unfold maxLen at hm; omega⟩
theorem ownN_own (h : OwnN W base (.slice (some ⟨g, 0, none⟩) n cap) xs) : W.ownsRow base 3 1 (.slice (some ⟨g, 0, none⟩) xs.length cap) xs.length (xs.map fun (x : Nat) => (Value.int .i64 (x : Int))) := by
  have h2 := (ownN_parts h).1
  subst h2
  unfold OwnN Wd.Own at h
  rw [flatN] at h; exact h
theorem ownN_cell (h : OwnN W base (.slice (some ⟨g, 0, none⟩) n cap) xs) {k : Nat} (hk : k < xs.length) : W.cell? ⟨g, k, none⟩ = some (.int .i64 (xs.getD k 0 : Nat)) ∧ W.frozen? ⟨g, k, none⟩ = false := by
  have h' := ownN_own h
  refine ⟨?_, h'.frozenAt k⟩
  rw [h'.cellAt k (by omega), List.getElem?_map, List.getElem?_eq_getElem hk, getD_at hk]; rfl
theorem ownN_store (h : OwnN W base (.slice (some ⟨g, 0, none⟩) n cap) xs) (k x : Nat) : OwnN (W.setCell ⟨g, k, none⟩ (.int .i64 (x : Int))) base (.slice (some ⟨g, 0, none⟩) n cap) (xs.set k x) ∧ W.grownBy (W.setCell ⟨g, k, none⟩ (.int .i64 (x : Int))) (some g) := by
  have h2 := (ownN_parts h).1
  obtain ⟨r1, r2⟩ := (ownN_own h).stored k (.int .i64 (x : Int))
  refine ⟨?_, r2⟩
  unfold OwnN Wd.Own
  rw [flatN, List.map_set, List.length_set, h2]; exact r1
end
theorem hless_any (g n cap i j base : Nat) (xs : List Nat) (W : World) (h : OwnN W base (.slice (some ⟨g, 0, none⟩) n cap) xs) (hi : i < xs.length) (hj : j < xs.length) :
    Calls Tryz.prog 172 #[.slice (some ⟨g, 0, none⟩) n cap, .int .i64 i, .int .i64 j] W (RetBelow (.bool (decide (xs.getD i 0 < xs.getD j 0))) W) := by
  have hn := (ownN_parts h).1
  have c0 := (ownN_cell h hi).1
  have c1 := (ownN_cell h hj).1
  rw [← hn] at hi hj
  have i1 : (i : Int) < n := by omega
  have j1 : (j : Int) < n := by omega
  have i0 : (0 : Int) ≤ i := by omega
  have j0 : (0 : Int) ≤ j := by omega
  generalize xs.getD i 0 = x at c0 ⊢
  generalize xs.getD j 0 = y at c1 ⊢
  clear h hn hi hj
  go_enter Tryz.func172, Tryz.ntmps172
  go_wp2
  go_quiet (fail)
  go_wp2
  go_ret
  exact ⟨ret_bool (by simp), Bat.below_drN (Below.refl _ _) _⟩
theorem hlen_any (p : Option Addr) (n cap : Nat) (W : World) : Calls Tryz.prog 26 #[.slice p n cap] W fun E w' => E = .returned (.int .i64 n) ∧ w' = W := by
  go_enter Tryz.func26, Tryz.ntmps26
  go_wp2
  go_ret
  exact ⟨rfl, rfl⟩
set_option maxHeartbeats 4000000 in
theorem hswap_any (g n cap i j base : Nat) (xs : List Nat) (W : World) (h : OwnN W base (.slice (some ⟨g, 0, none⟩) n cap) xs) (hi : i < xs.length) (hj : j < xs.length) :
    Calls Tryz.prog 175 #[.slice (some ⟨g, 0, none⟩) n cap, .int .i64 i, .int .i64 j] W fun E w' => E = .returned (.tuple #[]) ∧ OwnN w' base (.slice (some ⟨g, 0, none⟩) n cap) (swp xs i j) ∧ W.grownBy w' (some g) := by
  have hn := (ownN_parts h).1
  have c0 := (ownN_cell h hi).1
  have c1 := (ownN_cell h hj).1
  have f0 := (ownN_cell h hi).2
  have f1 := (ownN_cell h hj).2
  obtain ⟨s1, s2⟩ := ownN_store h i (xs.getD j 0)
  obtain ⟨s3, s4⟩ := ownN_store s1 j (xs.getD i 0)
  have c2 := (ownN_cell s1 (by rw [List.length_set]; exact hj)).1
  have f2 := (ownN_cell s1 (by rw [List.length_set]; exact hj)).2
  have HF := Lib.hid (And.intro (show OwnN _ base _ (swp xs i j) from s3) (s2.andThen s4 (fun k hk => .inr hk)))
  clear s1 s2 s3 s4
  generalize (xs.set i (xs.getD j 0)).getD j 0 = z at c2
  rw [← hn] at hi hj
  have i1 : (i : Int) < n := by omega
  have j1 : (j : Int) < n := by omega
  have i0 : (0 : Int) ≤ i := by omega
  have j0 : (0 : Int) ≤ j := by omega
  generalize xs.getD i 0 = x at c0 HF ⊢
  generalize xs.getD j 0 = y at c1 c2 f2 HF ⊢
  clear h hn hi hj
  go_enter Tryz.func175, Tryz.ntmps175
  go_wp2
  go_region
  go_wp2
  go_end0
  exact ⟨rfl, HF.out.1.below (Below.refl _ _).drew, HF.out.2.andThen (grown_lowH (some g) (Below.refl _ _).drew) (fun k hk => .inr hk)⟩

/-! ### The calls through the interface -/
theorem recv_row (a : Addr) (s : String) (W : World) : (receiverAt 59 (.val (.pointer (some a))) false (some s)).run Tryz.prog W = (loadVar 61 a).run Tryz.prog W := by kernel_rfl
theorem load_row (a : Addr) (v : Value) (W : World) (hc : W.cell? a = some v) : (loadVar 61 a).run Tryz.prog W = .ok v W := by simp [go_sem, loadVar, hc]
set_option maxRecDepth 100000 in
theorem meth_val {nm : String} {f : Nat} (h : (Tryz.prog.info? 59).map (fun i => (i.methods.find? (·.name == nm)).map fun m => (m.path, m.func)) = some (some (#[], some (f, false)))) (a : Addr) (v : Value) (W : World) (hc : W.cell? a = some v) : (method 297 59 (.pointer (some a)) nm).run Tryz.prog W = .ok (f, v) W := by
  obtain ⟨i, hi, hm⟩ := Option.map_eq_some_iff.1 h
  obtain ⟨m, hm, hm2⟩ := Option.map_eq_some_iff.1 hm
  injection hm2 with e1 e2
  unfold method
  simp [typeInfo, hi, hm, e1, e2, follow, recv_row, load_row a v W hc]
theorem meth_less (a : Addr) (v : Value) (W : World) (hc : W.cell? a = some v) : (method 297 59 (.pointer (some a)) "Less").run Tryz.prog W = .ok (172, v) W := meth_val (by kernel_rfl) a v W hc
theorem meth_swap (a : Addr) (v : Value) (W : World) (hc : W.cell? a = some v) : (method 297 59 (.pointer (some a)) "Swap").run Tryz.prog W = .ok (175, v) W := meth_val (by kernel_rfl) a v W hc
theorem meth_len (a : Addr) (v : Value) (W : World) (hc : W.cell? a = some v) : (method 297 59 (.pointer (some a)) "Len").run Tryz.prog W = .ok (26, v) W := meth_val (by kernel_rfl) a v W hc
theorem meth_push (a : Addr) (W : World) : (method 297 59 (.pointer (some a)) "Push").run Tryz.prog W = .ok (174, .pointer (some a)) W := by kernel_rfl
theorem meth_pop (a : Addr) (W : World) : (method 297 59 (.pointer (some a)) "Pop").run Tryz.prog W = .ok (173, .pointer (some a)) W := by kernel_rfl

/-! ### up -/
/-- A heap's row in memory, at a box. -/
structure RowQ (W : World) (base g : Nat) (v : Value) (xs : List Nat) : Prop where
  box : W.heap[g]? = some (.cells #[v] 61 (0, 0))
  own : OwnN W base v xs
theorem RowQ.cell {W : World} {base g : Nat} {v : Value} {xs : List Nat} (h : RowQ W base g v xs) : W.cell? ⟨g, 0, none⟩ = some v := cell_row (i := 0) h.box rfl
theorem RowQ.ne {W : World} {base g b n cap : Nat} {xs : List Nat} (h : RowQ W base g (.slice (some ⟨b, 0, none⟩) n cap) xs) : b ≠ g := fun e => by
  rcases h.own.2 with ⟨e1, h0⟩ | ⟨g', c', cur, e1, hb, hg, -⟩
  · cases e1
  · injection e1 with e1 e2 e3
    injection e1 with e1
    injection e1 with e1
    subst e1; subst e
    rw [h.box] at hg
    injection hg with hg
    injection hg with h1 h2
    exact absurd h2 (by decide)
theorem RowQ.turn {W W' : World} {base g b n cap : Nat} {xs ys : List Nat} (h : RowQ W base g (.slice (some ⟨b, 0, none⟩) n cap) xs) (hg : W.grownBy W' (some b)) (ho : OwnN W' base (.slice (some ⟨b, 0, none⟩) n cap) ys) : RowQ W' base g (.slice (some ⟨b, 0, none⟩) n cap) ys :=
  ⟨(hg.block g (Array.getElem?_eq_some_iff.1 h.box).1 (fun e => h.ne (by injection e with e; exact e.symm))).trans h.box, ho⟩
theorem RowQ.on {W W' : World} {base g : Nat} {v : Value} {xs : List Nat} (h : RowQ W base g v xs) (hb : Below W.heap.size W W') : RowQ W' base g v xs :=
  ⟨(hb.block g (Array.getElem?_eq_some_iff.1 h.box).1).trans h.box, h.own.below hb⟩
abbrev rowI (g : Nat) : Value := .iface 59 (.pointer (some ⟨g, 0, none⟩))
set_option maxRecDepth 100000 in
set_option maxHeartbeats 4000000 in
theorem hup_any (g b n cap j base : Nat) (xs : List Nat) (W : World) (h : RowQ W base g (.slice (some ⟨b, 0, none⟩) n cap) xs) (hu : Upy xs n j) :
    Calls Tryz.prog 55 #[rowI g, .int .i64 j] W fun E w' => E = .returned (.tuple #[]) ∧ ∃ ys, ys.Perm xs ∧ Hpy ys n ∧ OwnN w' base (.slice (some ⟨b, 0, none⟩) n cap) ys ∧ W.grownBy w' (some b) := by
  have hn := (ownN_parts h.own).1
  have hcap := (ownN_parts h.own).2.2.2
  have hn1 : n ≤ 9223372036854775807 := by omega
  have H0 := Lib.hid h
  have HU := Lib.hid hu
  have HN := Lib.hid hn
  clear h hu hn hcap
  go_enter Tryz.func55, Tryz.ntmps55
  go_wp2
  go_loopw [1] (fun s wr => ∃ (k : Nat) (ys : List Nat), s = .int .i64 k ∧ Hid (ys.Perm xs) ∧ Hid (Upy ys n k) ∧ Hid (RowQ wr base g (.slice (some ⟨b, 0, none⟩) n cap) ys) ∧ Hid (W.grownBy wr (some b))) (fun s _ => (intOf s).toNat)
  case atStart => exact ⟨j, xs, rfl, Lib.hid (List.Perm.refl _), HU, H0, Lib.hid (grown_lowH _ (Below.refl _ _))⟩
  case round =>
    obtain ⟨k, ys, rfl, hp, hU, hR, hG⟩ := hrel
    have hc := hR.out.cell
    have hkn := hU.out.lt
    by_cases hk0 : k = 0
    · subst hk0
      go_wp2
      go_end0
      exact ⟨rfl, ys, hp.out, hU.out.done (.inl rfl), hR.out.own, hG.out⟩
    · obtain ⟨i, hi⟩ : ∃ i, i = (k - 1) / 2 := ⟨_, rfl⟩
      have hkw : IntKind.i64.wrap ((k : Int) - 1) = (k : Int) - 1 := IntWalk.i64_in _ (by omega)
      have hkq : ((k : Int) - 1).tdiv 2 = (i : Int) := by rw [Int.tdiv_eq_ediv_of_nonneg (by omega)]; omega
      have hne : ((i : Int) == (k : Int)) = false := by rw [beq_eq_false_iff_ne]; omega
      have hyl : ys.length = n := by have h1 := hp.out.length_eq; have h2 := HN.out; omega
      have hil : i < ys.length := by omega
      have hkl : k < ys.length := by omega
      have HL := Lib.hid (hless_any b n cap k i base ys wr hR.out.own hkl hil)
      have HI := Lib.hid hi
      have hiw : IntKind.i64.wrap (i : Int) = (i : Int) := IntWalk.i64_in _ (by omega)
      have hm := meth_less ⟨g, 0, none⟩ _ wr hc
      clear hi
      by_cases hlt : ys.getD k 0 < ys.getD i 0
      · rw [decide_eq_true hlt] at HL
        have HSt := Lib.hid (by have := hU.out.step (by omega) (by omega) (by rw [← HI.out]; exact hlt); rw [← HI.out] at this; exact this)
        have HSw := Lib.hid (fun w' (hb : Below wr.heap.size wr w') => hswap_any b n cap i k base ys w' (hR.out.own.below hb) hil hkl)
        have HMs := Lib.hid (fun w' (hb : Below wr.heap.size wr w') => meth_swap ⟨g, 0, none⟩ _ w' (hR.out.on hb).cell)
        have HPm := Lib.hid ((swp_perm hil hkl).trans hp.out)
        clear hlt hil hkl hyl
        go_wp2_with (first
          | (go_at_call 172; (with_reducible refine HL.out.mono ?_); rintro E w1 ⟨rfl, hb⟩; have hm1 := HMs.out w1 hb; have HS1 := Lib.hid (HSw.out w1 hb); have HB1 := Lib.hid hb; clear hb)
          | (go_at_call 175; (with_reducible refine HS1.out.mono ?_); rintro E w2 ⟨rfl, ho, hg⟩; have HO2 := Lib.hid ho; have HG2 := Lib.hid hg; clear ho hg)
          | fail)
        go_roundw
        case rel => exact ⟨i, swp ys i k, rfl, HPm, HSt, Lib.hid ((hR.out.on HB1.out).turn HG2.out HO2.out), Lib.hid ((hG.out.andThen (grown_lowH (some b) HB1.out) (fun j hj => .inr hj)).andThen HG2.out (fun j hj => .inr hj))⟩
        case measure => have := HI.out; simp [intOf]; omega
      · rw [decide_eq_false hlt] at HL
        have HDn := Lib.hid (hU.out.done (.inr (by rw [← HI.out]; omega)))
        clear hlt hil hkl hyl
        go_wp2_with (first
          | (go_at_call 172; (with_reducible refine HL.out.mono ?_); rintro E w1 ⟨rfl, hb⟩; have HB1 := Lib.hid hb; clear hb)
          | fail)
        go_end0
        exact ⟨rfl, ys, hp.out, HDn.out, (hR.out.on HB1.out).own, hG.out.andThen (grown_lowH (some b) HB1.out) (fun j hj => .inr hj)⟩

/-! ### Push -/
theorem wtRow : Wt wdN 61 3 (.int .i64 0) 8 := ⟨Tryz.underlying61, by kernel_rfl, by kernel_rfl, by kernel_rfl, by decide⟩
theorem box_apart {W : World} {base g : Nat} {v : Value} {cs : Array Value} {xs : List Nat} (hbx : W.heap[g]? = some (.cells cs 61 (0, 0))) (h : OwnN W base v xs) : v.ownBlock ≠ some g := fun e => by
  rcases h.2 with ⟨e1, -⟩ | ⟨b, c', cur, e1, hb, hg, -⟩
  · rw [e1] at e; cases e
  · rw [e1] at e
    injection e with e
    subst e
    rw [hbx] at hg
    injection hg with hg
    injection hg with h1 h2
    exact absurd h2 (by decide)
theorem row_apart {W : World} {base g : Nat} {v : Value} {xs : List Nat} (h : RowQ W base g v xs) : v.ownBlock ≠ some g := box_apart h.box h.own
theorem own_far {w w' : World} {base : Nat} {e : TypeId} {s n g : Nat} {v : Value} {xs : List Value} (h : w.ownsRow base e s v n xs) (hg : w.grownBy w' (some g)) (hn : v.ownBlock ≠ some g) : w'.ownsRow base e s v n xs :=
  World.ownsRow.kept h hg (by
    cases hv : v.ownBlock with
    | none => exact .inl rfl
    | some b => exact .inr (by rw [← hv]; exact hn))
theorem cell_grown (w : World) (g i : Nat) (u : Value) : w.grownBy (w.setCell ⟨g, i, none⟩ u) (some g) := ⟨rfl, rfl, rfl, Nat.le_of_eq (by simp [World.setCell]), fun k _ hk => Below.heap_setCell _ _ _ _ (fun e => hk (by rw [show k = g from e]))⟩
/-- What may have turned of a heap: its box, its row. -/
def HTurn (g : Nat) (v : Value) (W W' : World) : Prop := Below 0 W W' ∧ ∀ k, k < W.heap.size → k ≠ g → v.ownBlock ≠ some k → W'.heap[k]? = W.heap[k]?
theorem HTurn.of {g : Nat} {v : Value} {W W' : World} (h : Below W.heap.size W W') : HTurn g v W W' := ⟨h.mono (Nat.zero_le _), fun k hk _ _ => h.block k hk⟩
theorem HTurn.grown {g : Nat} {v : Value} {W W' : World} (h : W.grownBy W' v.ownBlock) : HTurn g v W W' := ⟨⟨h.os, h.tape, h.output, h.size, fun k hk => absurd hk (Nat.not_lt_zero _)⟩, fun k hk _ hv => h.block k hk (fun e => hv e.symm)⟩
theorem HTurn.trans {g : Nat} {v v' : Value} {W W' W'' : World} (h : HTurn g v W W') (h' : HTurn g v' W' W'') (hv : v'.ownBlock = v.ownBlock ∨ ∀ b, v'.ownBlock = some b → W.heap.size ≤ b) : HTurn g v W W'' :=
  ⟨h.1.trans h'.1, fun k hk hg hv0 => (h'.2 k (Nat.lt_of_lt_of_le hk h.1.size) hg (fun e => by
    rcases hv with hv | hv
    · exact hv0 (hv ▸ e)
    · have := hv k e; omega)).trans (h.2 k hk hg hv0)⟩
theorem HTurn.store {g : Nat} {v u : Value} (W : World) : HTurn g v W (W.setCell ⟨g, 0, none⟩ u) := ⟨⟨rfl, rfl, rfl, Nat.le_of_eq (by simp [World.setCell]), fun k hk => absurd hk (Nat.not_lt_zero _)⟩, fun k _ hg _ => Below.heap_setCell _ _ _ _ hg⟩
theorem box_store {W : World} {g : Nat} {v u : Value} {e : TypeId} (h : W.heap[g]? = some (.cells #[v] e (0, 0))) : (W.setCell ⟨g, 0, none⟩ u).heap[g]? = some (.cells #[u] e (0, 0)) := by
  have hlt := (Array.getElem?_eq_some_iff.1 h).1
  have he := (Array.getElem?_eq_some_iff.1 h).2
  unfold World.setCell
  simp [h, hlt, he, Array.getElem_modify]
theorem as_int (x : Int) (w : World) : (Instr.typeAssert (.iface 3 (.int .i64 x)) 20 3 false).run Tryz.prog w = .ok (.int .i64 x) w := by kernel_rfl
set_option maxRecDepth 100000 in
set_option maxHeartbeats 4000000 in
/-- One more in a heap's row. -/
theorem hpushm_any (g base : Nat) (v : Value) (x : Nat) (xs : List Nat) (W : World) (h : RowQ W base g v xs) (hb : base ≤ W.heap.size) (hl : xs.length + 1 ≤ 1000000) :
    Calls Tryz.prog 174 #[.pointer (some ⟨g, 0, none⟩), .iface 3 (.int .i64 (x : Int))] W fun E w' => E = .returned (.tuple #[]) ∧ ∃ v', RowQ w' base g v' (xs ++ [x]) ∧ HTurn g v W w' ∧ (v'.ownBlock = v.ownBlock ∨ ∃ b, v'.ownBlock = some b ∧ W.heap.size ≤ b) := by
  have H0 := Lib.hid (h.on (Below.refl _ _).drew)
  have DY0 : Hid (Below W.heap.size W W.drew) := Lib.hid (Below.refl _ _).drew
  have hc := h.cell
  have hf : W.frozen? ⟨g, 0, none⟩ = false := free_row h.box
  have hta := as_int (x : Int)
  clear h
  go_enter Tryz.func174, Tryz.ntmps174
  go_wp2
  refine wp_region_held_drew (S := (fun _ => True)) (by kernel_rfl) (trivial) (fun hHeld => ?_)
  have c0 := H0.out.cell
  generalize W.drew = Y0 at H0 DY0 hHeld c0 ⊢
  refine ty (v := ?_) 0 (fun w hSw => ?_) ?_
  rotate_left
  · (try dsimp only at hSw); go_simp; (try with_reducible rfl)
  try simp only [List.getElem_toArray, List.getElem_cons_succ, List.getElem_cons_zero, Act.put, List.setIfInBounds_toArray, List.set_cons_zero, List.set_cons_succ]
  refine ty (v := ?_) 1 (fun w hSw => ?_) ?_
  rotate_left
  · (try dsimp only at hSw); go_simp; (try with_reducible rfl)
  try simp only [List.getElem_toArray, List.getElem_cons_succ, List.getElem_cons_zero, Act.put, List.setIfInBounds_toArray, List.set_cons_zero, List.set_cons_succ]
  refine ty (v := ?_) 2 (fun w hSw => ?_) ?_
  rotate_left
  · (try dsimp only at hSw); go_simp; (try with_reducible rfl)
  try simp only [List.getElem_toArray, List.getElem_cons_succ, List.getElem_cons_zero, Act.put, List.setIfInBounds_toArray, List.set_cons_zero, List.set_cons_succ]
  refine ty (v := ?_) 4 (fun w hSw => ?_) ?_
  rotate_left
  · (try dsimp only at hSw); go_simp; (try with_reducible rfl)
  try simp only [List.getElem_toArray, List.getElem_cons_succ, List.getElem_cons_zero, Act.put, List.setIfInBounds_toArray, List.set_cons_zero, List.set_cons_succ]
  refine ty (v := ?_) 5 (fun w hSw => ?_) ?_
  rotate_left
  · (try dsimp only at hSw); go_simp; (try with_reducible rfl)
  try simp only [List.getElem_toArray, List.getElem_cons_succ, List.getElem_cons_zero, Act.put, List.setIfInBounds_toArray, List.set_cons_zero, List.set_cons_succ]
  apply held_join1 (C := fun Y => Hid (RowQ Y base g v xs ∧ Y.heap[Y0.heap.size]? = some (.cells #[.int .i64 (x : Int)] 3 (0, 0)) ∧ Below W.heap.size W Y))
  case h1 =>
    intro tail
    have hb1 := Cmd.below_one Y0 (.cells #[.int .i64 (x : Int)] 3)
    have H1 := Lib.hid (H0.out.on hb1)
    have c1 := H1.out.cell
    have hC : Hid (RowQ (Y0.alloc (.cells #[.int .i64 (x : Int)] 3)) base g v xs ∧ (Y0.alloc (.cells #[.int .i64 (x : Int)] 3)).heap[Y0.heap.size]? = some (.cells #[.int .i64 (x : Int)] 3 (0, 0)) ∧ Below W.heap.size W (Y0.alloc (.cells #[.int .i64 (x : Int)] 3))) := Lib.hid ⟨H1.out, heap_alloc_new Y0 _, DY0.out.trans (hb1.mono DY0.out.size)⟩
    clear hb1 H1
    refine wpAnyH_ready (rs := [3, 6]) (by kernel_rfl) (by simp) ?_
    refine AllReadyH.cons rfl (fun K hK => ?_) ?_
    · go_simp
      refine hK.out _ _ ?_ (fun hHeld => ?_)
      · trivial
      clear hK K
      try simp only [List.getElem_toArray, List.getElem_cons_succ, List.getElem_cons_zero, Act.put, List.setIfInBounds_toArray, List.set_cons_zero, List.set_cons_succ]
      refine tr 6 (fun K hK => ?_)
      go_simp
      refine hK.out _ _ ?_ (fun hHeld => ?_)
      · trivial
      clear hK K
      try simp only [List.getElem_toArray, List.getElem_cons_succ, List.getElem_cons_zero, Act.put, List.setIfInBounds_toArray, List.set_cons_zero, List.set_cons_succ]
      refine to_listed (L' := #[true, true, true, true, true, true, true, false, false, false]) (f' := 3) (by kernel_rfl) (by kernel_rfl) ?_
      exact tail _ hC
    refine AllReadyH.cons rfl (fun K hK => ?_) ?_
    · go_simp
      refine hK.out _ _ ?_ (fun hHeld => ?_)
      · trivial
      clear hK K
      try simp only [List.getElem_toArray, List.getElem_cons_succ, List.getElem_cons_zero, Act.put, List.setIfInBounds_toArray, List.set_cons_zero, List.set_cons_succ]
      refine tr 3 (fun K hK => ?_)
      go_simp
      refine hK.out _ _ ?_ (fun hHeld => ?_)
      · trivial
      clear hK K
      try simp only [List.getElem_toArray, List.getElem_cons_succ, List.getElem_cons_zero, Act.put, List.setIfInBounds_toArray, List.set_cons_zero, List.set_cons_succ]
      refine to_listed (L' := #[true, true, true, true, true, true, true, false, false, false]) (f' := 3) (by kernel_rfl) (by kernel_rfl) ?_
      exact tail _ hC
    exact AllReadyH.nil
  intro Y1 hC
  have hHeld : (fun _ => True) Y1 := trivial
  have H1 := Lib.hid hC.out.1
  have HE1 := Lib.hid hC.out.2.1
  have DY1 := Lib.hid hC.out.2.2
  have HG := Lib.hid (grow_wd wtRow Y1 61 base v xs H1.out.own (by have := DY1.out.size; omega) Y0.heap.size x #[.int .i64 (x : Int)] rfl HE1.out hl)
  have HB2 : Hid (∀ w', Y1.grownBy w' v.ownBlock → w'.heap[g]? = some (.cells #[v] 61 (0, 0))) := Lib.hid fun w' hg => (hg.block g (Array.getElem?_eq_some_iff.1 H1.out.box).1 (fun e => row_apart H1.out e.symm)).trans H1.out.box
  refine tr 7 (fun K hK => ?_)
  refine step_app rfl _ _ 61 rfl _ _ rfl rfl HG.out ?_
  intro v2 Y2 HV2
  obtain ⟨p2, k2, rfl⟩ := wd_shape HV2.out.1
  have HN2 : Hid ((xs ++ [x]).length = xs.length + 1) := Lib.hid (by simp)
  generalize (xs ++ [x]).length = n2 at HN2 HV2 ⊢
  have c2 : Y2.cell? ⟨g, 0, none⟩ = some v := cell_row (i := 0) (HB2.out _ HV2.out.2.1) rfl
  have f2 : Y2.frozen? ⟨g, 0, none⟩ = false := free_row (HB2.out _ HV2.out.2.1)
  refine hK.out _ _ ?_ (fun hHeld => ?_)
  · trivial
  clear hK K
  try simp only [List.getElem_toArray, List.getElem_cons_succ, List.getElem_cons_zero, Act.put, List.setIfInBounds_toArray, List.set_cons_zero, List.set_cons_succ]
  refine ty (v := ?_) 8 (fun w hSw => ?_) ?_
  rotate_left
  · (try dsimp only at hSw); go_simp; (try with_reducible rfl)
  try simp only [List.getElem_toArray, List.getElem_cons_succ, List.getElem_cons_zero, Act.put, List.setIfInBounds_toArray, List.set_cons_zero, List.set_cons_succ]
  refine tr 9 (fun K hK => ?_)
  go_simp
  refine hK.out _ _ ?_ (fun hHeld => ?_)
  · trivial
  clear hK K
  try simp only [List.getElem_toArray, List.getElem_cons_succ, List.getElem_cons_zero, Act.put, List.setIfInBounds_toArray, List.set_cons_zero, List.set_cons_succ]
  refine wpAnyH_done (by kernel_rfl) ?_ _
  go_wp2
  go_end0
  have ha := box_apart (HB2.out _ HV2.out.2.1) HV2.out.1
  have ho := own_far HV2.out.1 (cell_grown Y2 g 0 (.slice p2 n2 k2)) ha
  refine ⟨rfl, .slice p2 n2 k2, ⟨box_store (HB2.out _ HV2.out.2.1), ho⟩, ((HTurn.of DY1.out).trans (HTurn.grown HV2.out.2.1) (.inl rfl)).trans (HTurn.store (v := v) Y2) (.inl rfl), HV2.out.2.2.imp id fun e => ⟨_, e, ?_⟩⟩
  exact DY1.out.size
set_option maxRecDepth 100000 in
set_option maxHeartbeats 4000000 in
/-- container/heap.Push: one more, in order. -/
theorem hpush_any (g base : Nat) (v : Value) (x : Nat) (xs : List Nat) (W : World) (h : RowQ W base g v xs) (ho : Hpy xs xs.length) (hb : base ≤ W.heap.size) (hl : xs.length + 1 ≤ 1000000) :
    Calls Tryz.prog 25 #[rowI g, .iface 3 (.int .i64 (x : Int))] W fun E w' => E = .returned (.tuple #[]) ∧ ∃ v' ys, RowQ w' base g v' ys ∧ ys.Perm (xs ++ [x]) ∧ Hpy ys ys.length ∧ HTurn g v W w' ∧ (v'.ownBlock = v.ownBlock ∨ ∃ b, v'.ownBlock = some b ∧ W.heap.size ≤ b) := by
  have HP := Lib.hid (hpushm_any g base v x xs W h hb hl)
  have HU := Lib.hid (ho.snoc x)
  have hm := meth_push ⟨g, 0, none⟩ W
  obtain ⟨j, hj⟩ : ∃ j, j = xs.length := ⟨_, rfl⟩
  have hjl : j + 1 ≤ 1000000 := by omega
  have HX : Hid ((xs ++ [x]).length = j + 1) := Lib.hid (by rw [List.length_append, ← hj]; rfl)
  rw [← hj] at HU
  have hw1 : IntKind.i64.wrap ((j : Int) + 1 - 1) = (j : Int) := by rw [show (j : Int) + 1 - 1 = j by omega]; exact IntWalk.i64_in _ (by omega)
  clear h ho hl hj
  generalize xs ++ [x] = zs at HP HU HX ⊢
  go_enter Tryz.func25, Tryz.ntmps25
  go_wp2_with (first
    | (go_at_call 174; (with_reducible refine HP.out.mono ?_); rintro E w1 ⟨rfl, v1, hr1, ht1, hv1⟩
       obtain ⟨p1, k1, hs1⟩ := wd_shape hr1.own
       rw [HX.out] at hs1
       subst hs1
       obtain ⟨b1, rfl, -⟩ := wd_ptr hr1.own (by rw [HX.out]; omega)
       have hm1 := meth_len ⟨g, 0, none⟩ _ w1 hr1.cell; have HR1 := Lib.hid hr1; have HT1 := Lib.hid (And.intro ht1 hv1); have HL1 := Lib.hid (hlen_any (some ⟨b1, 0, none⟩) (j + 1) k1 w1); have HU1 := Lib.hid (hup_any g b1 (j + 1) k1 j base zs w1 hr1 HU.out); clear hr1 ht1 hv1)
    | (go_at_call 26; (with_reducible refine HL1.out.mono ?_); rintro E w2 ⟨rfl, hw2⟩; obtain rfl := hw2.symm)
    | (go_at_call 55; (with_reducible refine HU1.out.mono ?_); rintro E w3 ⟨rfl, ys, hp, ho, hw, hg⟩; have H3 := Lib.hid (And.intro hp (And.intro ho (And.intro hw hg))); clear hp ho hw hg)
    | fail)
  go_end0
  obtain ⟨h1, h2, h3, h4⟩ := H3.out
  have hyl : ys.length = j + 1 := by rw [h1.length_eq, HX.out]
  exact ⟨rfl, _, ys, HR1.out.turn h4 h3, h1, by rw [hyl]; exact h2, HT1.out.1.trans (HTurn.grown (v := .slice (some ⟨b1, 0, none⟩) (j + 1) k1) h4) (HT1.out.2.imp id fun ⟨b, e, hb⟩ c ec => by rw [e] at ec; injection ec with ec; omega), HT1.out.2⟩

/-! ### down, Pop -/
def SomeB (E : Ending) : Prop := ∃ t, E = .returned (.bool t)
set_option maxRecDepth 100000 in
set_option maxHeartbeats 8000000 in
theorem hdown_any (g b m cap n base : Nat) (xs : List Nat) (W : World) (h : RowQ W base g (.slice (some ⟨b, 0, none⟩) m cap) xs) (hu : Dny xs n 0) (hn : n ≤ xs.length) (hn1 : n ≤ 1000000) :
    Calls Tryz.prog 56 #[rowI g, .int .i64 0, .int .i64 n] W fun E w' => SomeB E ∧ ∃ ys, ys.Perm xs ∧ Hpy ys n ∧ (∀ k, n ≤ k → ys.getD k 0 = xs.getD k 0) ∧ OwnN w' base (.slice (some ⟨b, 0, none⟩) m cap) ys ∧ W.grownBy w' (some b) := by
  have H0 := Lib.hid h
  have HU := Lib.hid hu
  have HN := Lib.hid hn
  clear h hu hn
  go_enter Tryz.func56, Tryz.ntmps56
  go_wp2
  go_loopw [7] (fun s wr => ∃ (k : Nat) (ys : List Nat), s = .int .i64 k ∧ k ≤ n ∧ Hid (ys.Perm xs) ∧ Hid (Dny ys n k) ∧ Hid (∀ j, n ≤ j → ys.getD j 0 = xs.getD j 0) ∧ Hid (RowQ wr base g (.slice (some ⟨b, 0, none⟩) m cap) ys) ∧ Hid (W.grownBy wr (some b))) (fun s _ => n - (intOf s).toNat)
  case atStart => exact ⟨0, xs, rfl, Nat.zero_le _, Lib.hid (List.Perm.refl _), HU, Lib.hid (fun _ _ => rfl), H0, Lib.hid (grown_lowH _ (Below.refl _ _))⟩
  case round =>
    obtain ⟨i, ys, rfl, hin, hp, hD, hKp, hR, hG⟩ := hrel
    have hc := hR.out.cell
    have w1 : IntKind.i64.wrap (2 * (i : Int)) = 2 * (i : Int) := IntWalk.i64_in _ (by omega)
    have w2 : IntKind.i64.wrap (2 * (i : Int) + 1) = 2 * (i : Int) + 1 := IntWalk.i64_in _ (by omega)
    have w3 : IntKind.i64.wrap (2 * (i : Int) + 1 + 1) = 2 * (i : Int) + 2 := by rw [show 2 * (i : Int) + 1 + 1 = 2 * (i : Int) + 2 by omega]; exact IntWalk.i64_in _ (by omega)
    have i0 : ¬ (2 * (i : Int) + 1 < 0) := by omega
    by_cases h1 : n ≤ 2 * i + 1
    · have k1 : (n : Int) ≤ 2 * (i : Int) + 1 := by omega
      have HDn := Lib.hid (hD.out.done fun k h2 h3 h4 => absurd h3 (by omega))
      go_wp2
      go_ret
      exact ⟨⟨_, rfl⟩, ys, hp.out, HDn.out, hKp.out, hR.out.own, hG.out⟩
    · have k1 : ¬ (n : Int) ≤ 2 * (i : Int) + 1 := by omega
      have hyl : ys.length = xs.length := hp.out.length_eq
      have HNl := HN.out
      have hil : i < ys.length := by omega
      have hm := meth_less ⟨g, 0, none⟩ _ wr hc
      have HBq : Hid (Below wr.heap.size wr wr) := Lib.hid (Below.refl _ _)
      have HMs := Lib.hid (fun w' (hb : Below wr.heap.size wr w') => meth_swap ⟨g, 0, none⟩ _ w' (hR.out.on hb).cell)
      by_cases h2 : 2 * i + 2 < n
      · have k2 : 2 * (i : Int) + 2 < n := by omega
        have hj1 : 2 * i + 1 < ys.length := by omega
        have hj2 : 2 * i + 2 < ys.length := by omega
        have c1 : ((2 * i + 1 : Nat) : Int) = 2 * (i : Int) + 1 := by omega
        have c2 : ((2 * i + 2 : Nat) : Int) = 2 * (i : Int) + 2 := by omega
        have HL0 := Lib.hid (hless_any b m cap (2 * i + 2) (2 * i + 1) base ys wr hR.out.own hj2 hj1)
        rw [c1, c2] at HL0
        clear c1 c2
        have HM0 := Lib.hid (fun w' (hb : Below wr.heap.size wr w') => meth_less ⟨g, 0, none⟩ _ w' (hR.out.on hb).cell)
        by_cases h3 : ys.getD (2 * i + 2) 0 < ys.getD (2 * i + 1) 0
        · rw [decide_eq_true h3] at HL0
          have HOr : Hid (∀ k, 0 < k → k < n → (k - 1) / 2 = i → ys.getD (2 * i + 2) 0 ≤ ys.getD k 0) := Lib.hid fun k h4 h5 h6 => by
            have : k = 2 * i + 1 ∨ k = 2 * i + 2 := by omega
            rcases this with rfl | rfl <;> omega
          have HI0 : Hid (0 < 2 * i + 2 ∧ 2 * i + 2 < n ∧ (2 * i + 2 - 1) / 2 = i) := Lib.hid (by omega)
          have hjl : 2 * i + 2 < ys.length := by omega
          have jn0 : (0 : Int) ≤ (2 * i + 2 : Nat) := by omega
          have HLs := Lib.hid (fun w' (hb : Below wr.heap.size wr w') => hless_any b m cap (2 * i + 2) i base ys w' (hR.out.own.below hb) hjl hil)
          have HSw := Lib.hid (fun w' (hb : Below wr.heap.size wr w') => hswap_any b m cap i (2 * i + 2) base ys w' (hR.out.own.below hb) hil hjl)
          have hcast : ((2 * i + 2 : Nat) : Int) = 2 * (i : Int) + 2 := by omega
          rw [hcast] at HLs HSw
          clear hcast
          by_cases hlt : ys.getD (2 * i + 2) 0 < ys.getD i 0
          · rw [decide_eq_true hlt] at HLs
            have HSt := Lib.hid (hD.out.step HI0.out.1 HI0.out.2.1 HI0.out.2.2 (by omega) hlt HOr.out)
            have HPm := Lib.hid ((swp_perm hil hjl).trans hp.out)
            have HKp : Hid (∀ k, n ≤ k → (swp ys i (2 * i + 2)).getD k 0 = xs.getD k 0) := Lib.hid fun k hk => by rw [swp_at hil hjl, if_neg (by omega), if_neg (by omega)]; exact hKp.out k hk
            clear hlt hil hjl h1 h2 hyl HNl hj1 hj2 h3 HBq
            go_wp2_with (first
              | (go_at_call 172; (with_reducible refine HL0.out.mono ?_); rintro E w1 ⟨rfl, hb⟩; have HBq := Lib.hid hb; have hm1 := HM0.out w1 hb; clear hb)
              | (go_at_call 172; (with_reducible refine (HLs.out _ HBq.out).mono ?_); rintro E w2 ⟨rfl, hb⟩; have HB2 := Lib.hid (HBq.out.trans (hb.mono HBq.out.size)); have hm2 := HMs.out w2 HB2.out; have HS2 := Lib.hid (HSw.out w2 HB2.out); clear hb)
              | (go_at_call 175; (with_reducible refine HS2.out.mono ?_); rintro E w3 ⟨rfl, ho, hg⟩; have HO3 := Lib.hid ho; have HG3 := Lib.hid hg; clear ho hg)
              | fail)
            go_roundw
            case rel => exact ⟨2 * i + 2, swp ys i (2 * i + 2), by go_num, by have := HI0.out; omega, HPm, HSt, HKp, Lib.hid ((hR.out.on HB2.out).turn HG3.out HO3.out), Lib.hid ((hG.out.andThen (grown_lowH (some b) HB2.out) (fun j hj => .inr hj)).andThen HG3.out (fun j hj => .inr hj))⟩
            case measure => have := HI0.out; simp [intOf]; omega
          · rw [decide_eq_false hlt] at HLs
            have HDn := Lib.hid (hD.out.done fun k h1 h2 h3 => by have := HOr.out k h1 h2 h3; omega)
            clear hlt hil hjl h1 h2 hyl HNl hj1 hj2 h3 HBq
            go_wp2_with (first
              | (go_at_call 172; (with_reducible refine HL0.out.mono ?_); rintro E w1 ⟨rfl, hb⟩; have HBq := Lib.hid hb; have hm1 := HM0.out w1 hb; clear hb)
              | (go_at_call 172; (with_reducible refine (HLs.out _ HBq.out).mono ?_); rintro E w2 ⟨rfl, hb⟩; have HB2 := Lib.hid (HBq.out.trans (hb.mono HBq.out.size)); have hm2 := HMs.out w2 HB2.out; have HS2 := Lib.hid (HSw.out w2 HB2.out); clear hb)
              | (go_at_call 175; (with_reducible refine HS2.out.mono ?_); rintro E w3 ⟨rfl, ho, hg⟩; have HO3 := Lib.hid ho; have HG3 := Lib.hid hg; clear ho hg)
              | fail)
            go_ret
            exact ⟨⟨_, rfl⟩, ys, hp.out, HDn.out, hKp.out, (hR.out.on HB2.out).own, hG.out.andThen (grown_lowH (some b) HB2.out) (fun j hj => .inr hj)⟩
        · rw [decide_eq_false h3] at HL0
          have HOr : Hid (∀ k, 0 < k → k < n → (k - 1) / 2 = i → ys.getD (2 * i + 1) 0 ≤ ys.getD k 0) := Lib.hid fun k h4 h5 h6 => by
            have : k = 2 * i + 1 ∨ k = 2 * i + 2 := by omega
            rcases this with rfl | rfl <;> omega
          have HI0 : Hid (0 < 2 * i + 1 ∧ 2 * i + 1 < n ∧ (2 * i + 1 - 1) / 2 = i) := Lib.hid (by omega)
          have hjl : 2 * i + 1 < ys.length := by omega
          have jn0 : (0 : Int) ≤ (2 * i + 1 : Nat) := by omega
          have HLs := Lib.hid (fun w' (hb : Below wr.heap.size wr w') => hless_any b m cap (2 * i + 1) i base ys w' (hR.out.own.below hb) hjl hil)
          have HSw := Lib.hid (fun w' (hb : Below wr.heap.size wr w') => hswap_any b m cap i (2 * i + 1) base ys w' (hR.out.own.below hb) hil hjl)
          have hcast : ((2 * i + 1 : Nat) : Int) = 2 * (i : Int) + 1 := by omega
          rw [hcast] at HLs HSw
          clear hcast
          by_cases hlt : ys.getD (2 * i + 1) 0 < ys.getD i 0
          · rw [decide_eq_true hlt] at HLs
            have HSt := Lib.hid (hD.out.step HI0.out.1 HI0.out.2.1 HI0.out.2.2 (by omega) hlt HOr.out)
            have HPm := Lib.hid ((swp_perm hil hjl).trans hp.out)
            have HKp : Hid (∀ k, n ≤ k → (swp ys i (2 * i + 1)).getD k 0 = xs.getD k 0) := Lib.hid fun k hk => by rw [swp_at hil hjl, if_neg (by omega), if_neg (by omega)]; exact hKp.out k hk
            clear hlt hil hjl h1 h2 hyl HNl hj1 hj2 h3 HBq
            go_wp2_with (first
              | (go_at_call 172; (with_reducible refine HL0.out.mono ?_); rintro E w1 ⟨rfl, hb⟩; have HBq := Lib.hid hb; have hm1 := HM0.out w1 hb; clear hb)
              | (go_at_call 172; (with_reducible refine (HLs.out _ HBq.out).mono ?_); rintro E w2 ⟨rfl, hb⟩; have HB2 := Lib.hid (HBq.out.trans (hb.mono HBq.out.size)); have hm2 := HMs.out w2 HB2.out; have HS2 := Lib.hid (HSw.out w2 HB2.out); clear hb)
              | (go_at_call 175; (with_reducible refine HS2.out.mono ?_); rintro E w3 ⟨rfl, ho, hg⟩; have HO3 := Lib.hid ho; have HG3 := Lib.hid hg; clear ho hg)
              | fail)
            go_roundw
            case rel => exact ⟨2 * i + 1, swp ys i (2 * i + 1), by go_num, by have := HI0.out; omega, HPm, HSt, HKp, Lib.hid ((hR.out.on HB2.out).turn HG3.out HO3.out), Lib.hid ((hG.out.andThen (grown_lowH (some b) HB2.out) (fun j hj => .inr hj)).andThen HG3.out (fun j hj => .inr hj))⟩
            case measure => have := HI0.out; simp [intOf]; omega
          · rw [decide_eq_false hlt] at HLs
            have HDn := Lib.hid (hD.out.done fun k h1 h2 h3 => by have := HOr.out k h1 h2 h3; omega)
            clear hlt hil hjl h1 h2 hyl HNl hj1 hj2 h3 HBq
            go_wp2_with (first
              | (go_at_call 172; (with_reducible refine HL0.out.mono ?_); rintro E w1 ⟨rfl, hb⟩; have HBq := Lib.hid hb; have hm1 := HM0.out w1 hb; clear hb)
              | (go_at_call 172; (with_reducible refine (HLs.out _ HBq.out).mono ?_); rintro E w2 ⟨rfl, hb⟩; have HB2 := Lib.hid (HBq.out.trans (hb.mono HBq.out.size)); have hm2 := HMs.out w2 HB2.out; have HS2 := Lib.hid (HSw.out w2 HB2.out); clear hb)
              | (go_at_call 175; (with_reducible refine HS2.out.mono ?_); rintro E w3 ⟨rfl, ho, hg⟩; have HO3 := Lib.hid ho; have HG3 := Lib.hid hg; clear ho hg)
              | fail)
            go_ret
            exact ⟨⟨_, rfl⟩, ys, hp.out, HDn.out, hKp.out, (hR.out.on HB2.out).own, hG.out.andThen (grown_lowH (some b) HB2.out) (fun j hj => .inr hj)⟩
      · have k2 : ¬ (2 * (i : Int) + 2 < n) := by omega
        have HOr : Hid (∀ k, 0 < k → k < n → (k - 1) / 2 = i → ys.getD (2 * i + 1) 0 ≤ ys.getD k 0) := Lib.hid fun k h3 h4 h5 => by
          obtain rfl : k = 2 * i + 1 := by omega
          exact Nat.le_refl _
        have HI0 : Hid (0 < 2 * i + 1 ∧ 2 * i + 1 < n ∧ (2 * i + 1 - 1) / 2 = i) := Lib.hid (by omega)
        have hjl : 2 * i + 1 < ys.length := by omega
        have jn0 : (0 : Int) ≤ (2 * i + 1 : Nat) := by omega
        have HLs := Lib.hid (fun w' (hb : Below wr.heap.size wr w') => hless_any b m cap (2 * i + 1) i base ys w' (hR.out.own.below hb) hjl hil)
        have HSw := Lib.hid (fun w' (hb : Below wr.heap.size wr w') => hswap_any b m cap i (2 * i + 1) base ys w' (hR.out.own.below hb) hil hjl)
        have hcast : ((2 * i + 1 : Nat) : Int) = 2 * (i : Int) + 1 := by omega
        rw [hcast] at HLs HSw
        clear hcast
        by_cases hlt : ys.getD (2 * i + 1) 0 < ys.getD i 0
        · rw [decide_eq_true hlt] at HLs
          have HSt := Lib.hid (hD.out.step HI0.out.1 HI0.out.2.1 HI0.out.2.2 (by omega) hlt HOr.out)
          have HPm := Lib.hid ((swp_perm hil hjl).trans hp.out)
          have HKp : Hid (∀ k, n ≤ k → (swp ys i (2 * i + 1)).getD k 0 = xs.getD k 0) := Lib.hid fun k hk => by rw [swp_at hil hjl, if_neg (by omega), if_neg (by omega)]; exact hKp.out k hk
          clear hlt hil hjl h1 h2 hyl HNl
          go_wp2_with (first
            | fail
            | (go_at_call 172; (with_reducible refine (HLs.out _ HBq.out).mono ?_); rintro E w2 ⟨rfl, hb⟩; have HB2 := Lib.hid (HBq.out.trans (hb.mono HBq.out.size)); have hm2 := HMs.out w2 HB2.out; have HS2 := Lib.hid (HSw.out w2 HB2.out); clear hb)
            | (go_at_call 175; (with_reducible refine HS2.out.mono ?_); rintro E w3 ⟨rfl, ho, hg⟩; have HO3 := Lib.hid ho; have HG3 := Lib.hid hg; clear ho hg)
            | fail)
          go_roundw
          case rel => exact ⟨2 * i + 1, swp ys i (2 * i + 1), by go_num, by have := HI0.out; omega, HPm, HSt, HKp, Lib.hid ((hR.out.on HB2.out).turn HG3.out HO3.out), Lib.hid ((hG.out.andThen (grown_lowH (some b) HB2.out) (fun j hj => .inr hj)).andThen HG3.out (fun j hj => .inr hj))⟩
          case measure => have := HI0.out; simp [intOf]; omega
        · rw [decide_eq_false hlt] at HLs
          have HDn := Lib.hid (hD.out.done fun k h1 h2 h3 => by have := HOr.out k h1 h2 h3; omega)
          clear hlt hil hjl h1 h2 hyl HNl
          go_wp2_with (first
            | fail
            | (go_at_call 172; (with_reducible refine (HLs.out _ HBq.out).mono ?_); rintro E w2 ⟨rfl, hb⟩; have HB2 := Lib.hid (HBq.out.trans (hb.mono HBq.out.size)); have hm2 := HMs.out w2 HB2.out; have HS2 := Lib.hid (HSw.out w2 HB2.out); clear hb)
            | (go_at_call 175; (with_reducible refine HS2.out.mono ?_); rintro E w3 ⟨rfl, ho, hg⟩; have HO3 := Lib.hid ho; have HG3 := Lib.hid hg; clear ho hg)
            | fail)
          go_ret
          exact ⟨⟨_, rfl⟩, ys, hp.out, HDn.out, hKp.out, (hR.out.on HB2.out).own, hG.out.andThen (grown_lowH (some b) HB2.out) (fun j hj => .inr hj)⟩
end Go.Proofs.YtjokejcokgeeiaaGreat.Can

/- A heap of numbers in memory (container/heap, as canon uses it): Pop. Conditions: those in each statement. -/
namespace Go.Proofs.YtjokejcokgeeiaaGreat.Can
open Go.RowKit Cmd Bat Ids Rec Wid Cps
set_option linter.unusedVariables false
set_option linter.unusedSimpArgs false

set_option maxRecDepth 100000 in
set_option maxHeartbeats 4000000 in
/-- The last one is taken off a heap's row. -/
theorem hpopm_any (g base : Nat) (v : Value) (x : Nat) (ys : List Nat) (W : World) (h : RowQ W base g v (ys ++ [x])) (hl : ys.length ≤ 1000000) :
    Calls Tryz.prog 173 #[.pointer (some ⟨g, 0, none⟩)] W fun E w' => E = .returned (.iface 3 (.int .i64 (x : Int))) ∧ ∃ v', RowQ w' base g v' ys ∧ W.grownBy w' (some g) ∧ v'.ownBlock = v.ownBlock := by
  obtain ⟨p, cap, rfl⟩ := wd_shape h.own
  obtain ⟨b, rfl, -, -, -, hc1, hc2⟩ := wd_ptr h.own (by simp)
  obtain ⟨n, hn⟩ : ∃ n, n = ys.length := ⟨_, rfl⟩
  have hx := (ownN_cell h.own (k := n) (by simp; omega)).1
  have e1 : (ys ++ [x]).getD n 0 = x := by rw [hn, List.getD_eq_getElem?_getD]; simp
  rw [e1] at hx
  have hc := h.cell
  have hf : W.frozen? ⟨g, 0, none⟩ = false := free_row h.box
  have hcut := wd_cut h.own n (by simp; omega)
  have e2 : (ys ++ [x]).take n = ys := by rw [hn, List.take_left']; rfl
  rw [e2] at hcut
  have HA := Lib.hid (box_apart h.box hcut)
  have HCut := Lib.hid hcut
  have HB := Lib.hid h.box
  have HEq : Hid ((Value.slice (cutw (some ⟨b, 0, none⟩) cap) n cap).ownBlock = (Value.slice (some ⟨b, 0, none⟩) (n + 1) cap).ownBlock) := Lib.hid (by rw [cutw_block]; rfl)
  have e3 : (ys ++ [x]).length = n + 1 := by rw [List.length_append, ← hn]; rfl
  rw [e3] at hc hc1 HB ⊢
  have hsl := fun w => cut_wide wtRow (some ⟨b, 0, none⟩) (n + 1) cap n (by omega) w
  have hw1 : IntKind.i64.wrap ((n : Int) + 1 - 1) = (n : Int) := by rw [show (n : Int) + 1 - 1 = n by omega]; exact IntWalk.i64_in _ (by omega)
  have n0 : (0 : Int) ≤ n := by omega
  have n1 : (n : Int) < (n : Int) + 1 := by omega
  clear h e1 e2 e3 hcut hn hl
  generalize cutw (some ⟨b, 0, none⟩) cap = q at hsl HCut HEq HA
  go_enter Tryz.func173, Tryz.ntmps173
  go_wp2
  go_ret
  exact ⟨rfl, _, ⟨box_store HB.out, own_far HCut.out (cell_grown W g 0 _) HA.out⟩, cell_grown W g 0 _, HEq.out⟩
theorem list_snoc {xs : List Nat} {n : Nat} (h : xs.length = n + 1) : ∃ ys, xs = ys ++ [xs.getD n 0] ∧ ys.length = n := by
  refine ⟨xs.take n, ?_, by rw [List.length_take]; omega⟩
  rw [getD_at (by omega), ← List.take_succ_eq_append_getElem (by omega), ← h, List.take_length]
theorem HTurn.box {g : Nat} {v : Value} {W W' : World} (h : W.grownBy W' (some g)) : HTurn g v W W' := ⟨⟨h.os, h.tape, h.output, h.size, fun k hk => absurd hk (Nat.not_lt_zero _)⟩, fun k hk hg _ => h.block k hk (fun e => hg (by injection e))⟩
set_option maxRecDepth 100000 in
set_option maxHeartbeats 4000000 in
/-- container/heap.Pop: the smallest one is taken out. -/
theorem hpop_any (g base n : Nat) (v : Value) (xs : List Nat) (W : World) (h : RowQ W base g v xs) (ho : Hpy xs xs.length) (hn : xs.length = n + 1) (hl : n + 1 ≤ 1000000) :
    Calls Tryz.prog 27 #[rowI g] W fun E w' => E = .returned (.iface 3 (.int .i64 (xs.getD 0 0 : Nat))) ∧ ∃ v' ys, RowQ w' base g v' ys ∧ (xs.getD 0 0 :: ys).Perm xs ∧ Hpy ys ys.length ∧ HTurn g v W w' ∧ v'.ownBlock = v.ownBlock := by
  obtain ⟨p, cap, rfl⟩ := wd_shape h.own
  obtain ⟨b, rfl, -⟩ := wd_ptr h.own (by omega)
  rw [hn] at h ho ⊢
  have hm := meth_len ⟨g, 0, none⟩ _ W h.cell
  have hm2 := meth_swap ⟨g, 0, none⟩ _ W h.cell
  have HL := Lib.hid (hlen_any (some ⟨b, 0, none⟩) (n + 1) cap W)
  have HS : Hid (Calls Tryz.prog 175 #[.slice (some ⟨b, 0, none⟩) (n + 1) cap, .int .i64 0, .int .i64 n] W fun E w' => E = .returned (.tuple #[]) ∧ OwnN w' base (.slice (some ⟨b, 0, none⟩) (n + 1) cap) (swp xs 0 n) ∧ W.grownBy w' (some b)) := Lib.hid (hswap_any b (n + 1) cap 0 n base xs W h.own (by omega) (by omega))
  have HD : Hid (∀ w', OwnN w' base (.slice (some ⟨b, 0, none⟩) (n + 1) cap) (swp xs 0 n) → W.grownBy w' (some b) → Calls Tryz.prog 56 #[rowI g, .int .i64 0, .int .i64 n] w' fun E w'' => SomeB E ∧ ∃ ys, ys.Perm (swp xs 0 n) ∧ Hpy ys n ∧ (∀ k, n ≤ k → ys.getD k 0 = (swp xs 0 n).getD k 0) ∧ OwnN w'' base (.slice (some ⟨b, 0, none⟩) (n + 1) cap) ys ∧ w'.grownBy w'' (some b)) := Lib.hid fun w' h1 h2 =>
    hdown_any g b (n + 1) cap n base _ w' (h.turn h2 h1) (ho.open_ hn) (by rw [swp_len]; omega) (by omega)
  have H0 := Lib.hid h
  have HP := Lib.hid (swp_perm (xs := xs) (i := 0) (j := n) (by omega) (by omega))
  have HLast : Hid ((swp xs 0 n).getD n 0 = xs.getD 0 0) := Lib.hid (by rw [swp_at (by omega) (by omega), if_pos rfl])
  have HSl : Hid ((swp xs 0 n).length = n + 1) := Lib.hid (by rw [swp_len]; exact hn)
  have hw1 : IntKind.i64.wrap ((n : Int) + 1 - 1) = (n : Int) := by rw [show (n : Int) + 1 - 1 = n by omega]; exact IntWalk.i64_in _ (by omega)
  clear h ho hn
  generalize swp xs 0 n = zs at HS HD HP HLast HSl
  generalize xs.getD 0 0 = m at HLast ⊢
  have HPp : Hid (∀ (u : Nat) (ys : List Nat) w', RowQ w' base g (.slice (some ⟨b, 0, none⟩) (n + 1) cap) (ys ++ [u]) → ys.length ≤ 1000000 → Calls Tryz.prog 173 #[.pointer (some ⟨g, 0, none⟩)] w' fun E w'' => E = .returned (.iface 3 (.int .i64 (u : Int))) ∧ ∃ v', RowQ w'' base g v' ys ∧ w'.grownBy w'' (some g) ∧ v'.ownBlock = (Value.slice (some ⟨b, 0, none⟩) (n + 1) cap).ownBlock) := Lib.hid fun u ys w' h1 h2 => hpopm_any g base _ u ys w' h1 h2
  go_enter Tryz.func27, Tryz.ntmps27
  go_wp2_with (first
    | (go_at_call 26; (with_reducible refine HL.out.mono ?_); rintro E w2 ⟨rfl, hw2⟩; obtain rfl := hw2.symm)
    | (go_at_call 175; (with_reducible refine HS.out.mono ?_); rintro E w3 ⟨rfl, ho, hg⟩; have HD3 := Lib.hid (HD.out w3 ho hg); have HG3 := Lib.hid hg; have HR3 := Lib.hid (H0.out.turn hg ho); clear ho hg)
    | (go_at_call 56; (with_reducible refine HD3.out.mono ?_); rintro E w4 ⟨⟨t, rfl⟩, ys, hp, hy, hk, ho, hg⟩
       have hr4 := HR3.out.turn hg ho
       obtain ⟨ws, hws, hwl⟩ := list_snoc (xs := ys) (n := n) (by rw [hp.length_eq]; exact HSl.out)
       rw [hk n (Nat.le_refl _), HLast.out] at hws
       have HY : Hid (ys = ws ++ [m] ∧ ws.length = n ∧ ys.Perm zs ∧ Hpy ys n) := Lib.hid ⟨hws, hwl, hp, hy⟩
       rw [hws] at hr4
       have HP4 := Lib.hid (HPp.out m ws w4 hr4 (by omega))
       have hm4 := meth_pop ⟨g, 0, none⟩ w4
       have HG4 := Lib.hid hg
       clear hp hy hk ho hg hr4 hws hwl)
    | (go_at_call 173; (with_reducible refine HP4.out.mono ?_); rintro E w5 ⟨rfl, v5, hr5, hg5, hv5⟩; have H5 := Lib.hid (And.intro hr5 (And.intro hg5 hv5)); clear hr5 hg5 hv5)
    | fail)
  go_ret
  obtain ⟨h1, h2, h3, h4⟩ := HY.out
  refine ⟨rfl, v5, ws, H5.out.1, ?_, ?_, ?_, H5.out.2.2⟩
  · refine List.Perm.trans ?_ ((h3.trans HP.out))
    rw [h1]
    exact (List.perm_append_singleton m ws).symm
  · intro j hj0 hj
    rw [h2] at hj
    have := h4 j hj0 hj
    have e : ∀ k, k < n → ys.getD k 0 = ws.getD k 0 := fun k hk => by rw [h1, List.getD_eq_getElem?_getD, List.getElem?_append_left (by omega), ← List.getD_eq_getElem?_getD]
    rw [e _ (by omega), e _ hj] at this; exact this
  · exact ((HTurn.grown (v := .slice (some ⟨b, 0, none⟩) (n + 1) cap) HG3.out).trans (HTurn.grown (v := .slice (some ⟨b, 0, none⟩) (n + 1) cap) HG4.out) (.inl rfl)).trans (HTurn.box (v := .slice (some ⟨b, 0, none⟩) (n + 1) cap) H5.out.2.1) (.inl rfl)
end Go.Proofs.YtjokejcokgeeiaaGreat.Can
