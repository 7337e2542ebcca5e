/- What the library's Concat gives at ids; rows of ids as rows of two cells an element (layers 17 to 19). Conditions: those in each statement. -/
import Derived.Test.YtlkndpofegemdaaGreatCpsA
import Derived.Test.YtlkndpofegemdaaGreatWid
import Derived.Test.YtlkndpofegemdaaGreatSls
import Derived.Test.YtlkndpofegemdaaGreatShelfG
import Derived.Test.YtlkndpofegemdaaGreatGrbA
import Derived.Shelf.Spec.SlicesGrow
import Derived.WalkMore
import Derived.Laws.EntriesVeiled
namespace Go.Proofs.YtlkndpofegemdaaGreat.Cps
open Go.RowKit Cmd Bat Ids Rec Wid Gra Rea Mpg Go.Sort
set_option linter.unusedVariables false
set_option linter.unusedSimpArgs false

/-! ### Rows of ids as rows of two cells an element -/
def layId : Lay Idn := ⟨(0, 0), fun o j => o + j * 2, fun w b o x => w.cell? ⟨b, o, none⟩ = some (.int .i64 x.1) ∧ w.cell? ⟨b, o + 1, none⟩ = some (.int .i64 x.2),
  fun {w w' b o x} hb h ⟨h0, h1⟩ => ⟨(h.cell (p := ⟨b, o, none⟩) hb).trans h0, (h.cell (p := ⟨b, o + 1, none⟩) hb).trans h1⟩⟩
theorem pair_at {a b : Value} {w : World} {g o : Nat} (h0 : w.cell? ⟨g, o, none⟩ = some a) (h1 : w.cell? ⟨g, o + 1, none⟩ = some b) : ∀ i u, [a, b][i]? = some u → w.cell? ⟨g, o + i, none⟩ = some u
  | 0, u, hu => by injection hu with hu; subst hu; exact h0
  | 1, u, hu => by injection hu with hu; subst hu; exact h1
  | i + 2, u, hu => by simp at hu
def wdId : Wd Idn where
  L := layId
  enc x := ids x
  c := 2
  cpos := by decide
  pos _ _ := rfl
  len _ := rfl
  one x u hu := by
    simp [ids] at hu
    rcases hu with rfl | rfl <;> rfl
  lies h := ⟨h 0 _ rfl, h 1 _ rfl⟩
  cells h := pair_at h.1 h.2
theorem wtId : Wt wdId 36 43 (.agg #[.int .i64 0, .int .i64 0]) 16 := ⟨Tryz.underlying36, by kernel_rfl, by kernel_rfl, by kernel_rfl, by decide⟩
theorem rowId {w : World} {v : Value} {zs : List Idn} (h : RowAt w v zs) : wdId.L.Row w v zs := by
  obtain ⟨p, cap, rfl, h1, h2, -, h3⟩ := h
  refine ⟨p, cap, rfl, h1, h2, fun hz => ?_⟩
  obtain ⟨B, off, rfl, hlt, hc⟩ := h3 hz
  exact ⟨B, off, rfl, hlt, fun j hj => hc j hj⟩
theorem ownId {w : World} {base : Nat} {v : Value} {zs : List Idn} : wdId.Own 43 w base v zs ↔ Owns w base v zs := Iff.rfl

/-! ### Grow of nil -/
theorem grow_any (n : Nat) (w : World) (hn : n ≤ 1000000) : Calls Tryz.prog 67 #[.slice none 0 0, .int .i64 n] w fun E w' => ∃ v, E = .returned v ∧ Owns w' w.heap.size v [] ∧ Below w.heap.size w w' := by
  obtain ⟨i0, hi, hz0, hz1, hz2⟩ := info_parts info_id
  by_cases h0 : n = 0
  · subst h0
    exact (Any8.slices_Grow_room Tryz.growId none 0 0 0 w (Nat.le_refl _) (by omega) (by omega) (by omega)).mono fun e w' ⟨he, hw⟩ => ⟨_, he, World.ownsRow_nil _ _ _ _, by rw [hw]; exact Below.refl _ _⟩
  · refine (Any8.slices_Grow_grow Tryz.growId i0 (.agg #[.int .i64 0, .int .i64 0]) hi hz0 (by rw [hz1]; decide) none 0 0 n [] w (Nat.le_refl _) (by omega) (by rw [hz2]; omega) (by omega) (by simp) (fun _ => rfl) (fun a e => by cases e)).mono fun e w' ⟨he, hw⟩ => ⟨_, he, ?_, by rw [hw]; exact (Below.refl w.heap.size w).drew.trans (show Below w.heap.size w.drew _ from Cmd.below_one w.drew _)⟩
    have hG1 := grownCap_ge w (0 + n) 0 (Tryz.growId_ren.t 25)
    have hG2 := grownCap_le_maxLen w (0 + n) 0 (Tryz.growId_ren.t 25) (by unfold maxLen; omega)
    rw [hw]
    refine ⟨rfl, .inr ⟨w.heap.size, grownCap w (0 + n) 0 (Tryz.growId_ren.t 25), _, rfl, Nat.le_refl _, heap_alloc_new w.drew _, Nat.zero_le _, hG2, ?_, rfl⟩⟩
    have hz : ∀ k, (Builtin.zeroCells (Value.agg #[.int .i64 0, .int .i64 0]).cells k).size = k * 2 := fun k => by unfold Builtin.zeroCells; simp [Value.cells]
    rw [Array.size_append, Array.size_append, hz, hz]
    simp only [List.size_toArray, List.length_nil]
    omega

/-! ### Concat -/
theorem flat_step {l : List (List Idn)} {k : Nat} (hk : k < l.length) : (l.take (k + 1)).flatten = (l.take k).flatten ++ l.getD k [] := by
  rw [List.take_succ_eq_append_getElem hk, List.flatten_append, List.getD_eq_getElem?_getD, List.getElem?_eq_getElem hk]; simp
theorem flat_len (l : List (List Idn)) (k : Nat) : (l.take k).flatten.length ≤ l.flatten.length := by
  have h : l.flatten = (l.take k).flatten ++ (l.drop k).flatten := by rw [← List.flatten_append, List.take_append_drop]
  rw [h, List.length_append]; omega
set_option maxRecDepth 100000 in
set_option maxHeartbeats 4000000 in
theorem concatL_any (v : Value) (l : List (List Idn)) (W : World) (h : layLL.Row W v l) (hl : l.flatten.length ≤ 1000000) (hl2 : l.length ≤ 100000) :
    Calls Tryz.prog 45 #[v] W fun E W' => ∃ v', E = .returned v' ∧ Owns W' W.heap.size v' l.flatten ∧ Below W.heap.size W W' := by
  obtain ⟨p, cap, rfl, h1, hd0⟩ := h.parts
  obtain ⟨n, hn⟩ : ∃ n, n = l.length := ⟨_, rfl⟩
  have hnl : n ≤ 100000 := by omega
  have HN := Lib.hid hn
  have HL := Lib.hid hl
  obtain ⟨S, hS⟩ : ∃ S, S = l.flatten.length := ⟨_, rfl⟩
  have HS := Lib.hid hS
  rw [← hn] at hd0 ⊢
  have hd : n = 0 ∨ ∃ B off, p = some ⟨B, off, none⟩ ∧ Hid (layLL.In W B off l) := hd0
  have hSl : S ≤ 1000000 := by omega
  have HG := Lib.hid (grow_any S W (by omega))
  clear h hl hl2 hn hS h1 hd0
  go_enter Tryz.func45, Tryz.ntmps45
  go_wp2_with fail
  go_loopw [3, 11] (fun s i wr => ∃ (k m : Nat), i = .int .i64 k ∧ k ≤ n ∧ s = .int .i64 m ∧ Hid (m = (l.take k).flatten.length) ∧ wr = W) (fun _ i _ => n - (intOf i).toNat)
  case atStart => exact ⟨0, 0, rfl, Nat.zero_le _, rfl, Lib.hid (by simp), rfl⟩
  case round =>
    obtain ⟨k, m, rfl, hk, rfl, hm, hw⟩ := hrel
    have hw := hw.symm
    subst hw
    have k0 : (0 : Int) ≤ k := by omega
    have m0 : ¬ ((m : Int) < 0) := by omega
    by_cases hkn : k < n
    · have kn : (k : Int) < n := by omega
      obtain ⟨B, off, rfl, HC⟩ := hd.resolve_left (by omega)
      have hkl : k < l.length := by rw [← HN.out]; exact hkn
      obtain ⟨q, cq, c1, -⟩ := llAt HC.out hkl
      obtain ⟨nq, hq⟩ : ∃ nq, nq = (l.getD k []).length := ⟨_, rfl⟩
      rw [← hq] at c1
      have HM2 : Hid (m + nq = (l.take (k + 1)).flatten.length) := Lib.hid (by rw [flat_step hkl, List.length_append, hm.out, hq])
      have hmb : m + nq ≤ 1000000 := by have h1 := flat_len l (k + 1); have h2 := HM2.out; have h3 := HL.out; omega
      have hwr : IntKind.i64.wrap ((m : Int) + (nq : Int)) = (m : Int) + nq := IntWalk.i64_in _ (by omega)
      have hmn : ¬ ((m : Int) + nq < 0) := by omega
      clear hq hkl
      go_wp2_with fail
      go_roundw
      case rel => exact ⟨k + 1, m + nq, by go_num, by omega, by go_num, HM2, trivial⟩
      case measure => simp [intOf]; omega
    · have kn : ¬ (k : Int) < n := by omega
      have hke : k = n := by omega
      have hmS : m = S := by rw [hm.out, hke, HN.out, List.take_length, HS.out]
      subst hmS
      clear hm
      go_wp2_with (first
        | (go_at_call 67; (with_reducible refine HG.out.mono ?_); rintro E W1 ⟨v1, rfl, ho, hb⟩; have HO1 := Lib.hid ho; have HB1 := Lib.hid hb; clear ho hb)
        | fail)
      have HZ : Hid (W.heap.size ≤ W1.heap.size) := Lib.hid HB1.out.size
      go_loopw [6, 27] (fun o i wr => ∃ k : Nat, i = .int .i64 k ∧ k ≤ n ∧ Hid (Owns wr W.heap.size o (l.take k).flatten) ∧ Hid (Below W.heap.size W wr)) (fun _ i _ => n - (intOf i).toNat)
      case atStart => exact ⟨0, rfl, Nat.zero_le _, HO1, HB1⟩
      case round =>
        clear k0 m0 hkn kn hke hk
        obtain ⟨k, rfl, hk, hO, hB⟩ := hrel
        have k0 : (0 : Int) ≤ k := by omega
        by_cases hkn : k < n
        · have kn : (k : Int) < n := by omega
          obtain ⟨B, off, rfl, HC⟩ := hd.resolve_left (by omega)
          have hkl : k < l.length := by rw [← HN.out]; exact hkn
          obtain ⟨q, cq, c1, hrow⟩ := llAt (HC.out.on hB.out) hkl
          have HU := Lib.hid (rowId hrow)
          have HLT := Lib.hid (flat_step hkl)
          have HLL : Hid ((l.take k).flatten.length + (l.getD k []).length ≤ 1000000) := Lib.hid (by
            have h1 := flat_len l (k + 1)
            rw [flat_step hkl, List.length_append] at h1
            have h4 := HL.out
            omega)
          have HBW : Hid (W.heap.size ≤ wr.heap.size) := Lib.hid hB.out.size
          clear hrow hkl
          generalize l.getD k [] = c at c1 HU HLT HLL
          obtain ⟨nq, hq⟩ : ∃ nq, nq = c.length := ⟨_, rfl⟩
          rw [← hq] at c1 HU
          clear hq
          go_wp2_with (first
            | (at_builtin; refine wp_wide wtId rfl _ _ rfl W.heap.size _ _ rfl hO.out HBW.out _ _ rfl HU.out HLL.out ?_; intro v3 w3 HV3 HB3 HG3)
            | fail)
          go_roundw
          case rel => exact ⟨k + 1, by go_num, by omega, Lib.hid (by rw [HLT.out]; exact HV3.out), Lib.hid (hB.out.trans HB3.out)⟩
          case measure => simp [intOf]; omega
        · have kn : ¬ (k : Int) < n := by omega
          have hke : k = n := by omega
          go_wp2
          go_ret
          have h1 := hO.out
          rw [hke, HN.out, List.take_length] at h1
          exact ⟨_, rfl, h1, hB.out⟩

end Go.Proofs.YtlkndpofegemdaaGreat.Cps
