/- What the program's uses gives: the keys that some ids' records have commands of, in order, each with whether it is written (layer 19, traces). Conditions: those in each statement. -/
import Derived.Test.YtlkndpofegemdaaGreatTraI
import Derived.Test.YtlkndpofegemdaaGreatBatH
import Derived.Test.YtlkndpofegemdaaGreatShelfK
import Derived.Test.YtlkndpofegemdaaGreatGraG
import Derived.Test.YtlkndpofegemdaaGreatSls
namespace Go.Proofs.YtlkndpofegemdaaGreat.Tra
open Go.RowKit Cmd Bat Ids Rec Wid Gra Rea Cps Mpg Go.Maps Go.WideElems Go.ChangeMaps Go.Sort Go.Shelf
set_option linter.unusedVariables false
set_option linter.unusedSimpArgs false

/-! ### Texts as keys -/
theorem keyT {x : Text} (h : x.length ≤ maxLen) : keyOf Tryz.prog 9 (.string (str x)) = some (.string x) := by
  have hs : (str x).size ≤ maxLen := by rw [str_size]; exact h
  simp [keyOf, Tryz.underlying9, mapKey, hs]
  rfl
def kyT : Ky Text 9 := ⟨fun s => .string (str s), fun s => .string s, fun s => s.length ≤ maxLen, law_str, fun h => keyT h, fun h => by obtain ⟨x, hx, e, hl⟩ := Maps.keyOf_str Tryz.underlying9 h; exact ⟨x, hl, hx, e⟩, fun _ _ h => by injection h, fun h => encStr_inj h, fun _ => trivial⟩
theorem zeroB (w : World) : (zeroValue 4).run Tryz.prog w = .ok (.bool false) w := by kernel_rfl
theorem turn_below {w w' : World} {r B : Nat} (h : w.grownBy w' (some r)) (h1 : B ≤ r) (h2 : B ≤ w.heap.size) : Below B w w' := ⟨h.os, h.tape, h.output, h.size, fun k hk => h.block k (by omega) (fun e => by injection e with e; omega)⟩
theorem mapIs {K : Type} {kt : TypeId} {Y : Ky K kt} {w : World} {b N : Nat} {f : K → Option Value} (h : MapG Y w b N f) : ∃ es c, w.heap[b]? = some (.map es c) := by obtain ⟨D, ks, ⟨es, c, h, _⟩, _⟩ := h; exact ⟨es, c, h⟩
theorem tightG {K : Type} [DecidableEq K] {kt : TypeId} {Y : Ky K kt} {w : World} {b N M : Nat} {f : K → Option Value} (h : MapG Y w b N f) (L : List K) (hL : ∀ x, (f x).isSome = true → x ∈ L) (hM : L.length ≤ M) : MapG Y w b M f := by
  obtain ⟨D, ks, h1, S, -⟩ := h
  exact ⟨D, ks, h1, S, Nat.le_trans (nodup_len S.nodup fun x hx => hL x ((S.mem x).1 hx)) hM⟩
theorem cell_far {W W' : World} {m : Nat} (hg : W.grownBy W' (some m)) (hm : ∃ es c, W.heap[m]? = some (.map es c)) {h o : Nat} {v : Value} (hc : W.cell? ⟨h, o, none⟩ = some v) : W'.cell? ⟨h, o, none⟩ = some v := by
  obtain ⟨es, c, hm⟩ := hm
  have hne : h ≠ m := by
    rintro rfl
    unfold World.cell? at hc
    rw [hm] at hc
    cases hc
  exact (World.cell?_of_block (w := W) (a := ⟨h, o, none⟩) (hg.block h (World.block_lt_of_cell? _ _ hc) (by simpa using hne))).trans hc
theorem rowC_far {W W' : World} {m : Nat} {v : Value} {zs : List Cmdn} (h : layC.Row W v zs) (hg : W.grownBy W' (some m)) (hm : ∃ es c, W.heap[m]? = some (.map es c)) : layC.Row W' v zs := by
  obtain ⟨p, c, rfl, h1, h2, h3⟩ := h
  exact ⟨p, c, rfl, h1, h2, fun hz => by
    obtain ⟨b, off, rfl, hi⟩ := h3 hz
    exact ⟨b, off, rfl, Nat.lt_of_lt_of_le hi.lt hg.size, fun j hj => by
      obtain ⟨a, b', c'⟩ := hi.cell j hj
      exact ⟨cell_far hg hm a, cell_far hg hm b', cell_far hg hm c'⟩⟩⟩

/-! ### The library's Sorted over its Keys -/
abbrev keyFn (B : Nat) : Value := .func (.func 64) #[] #[.pointer (some ⟨B, 0, none⟩)]
theorem keysS_any (mb : Option Nat) (w : World) : Calls Tryz.prog 41 #[.map mb] w fun e w' => e = .returned (keyFn w.heap.size) ∧ w' = w.alloc (.cells #[.map mb] 80) :=
  (callsIn_wide (n := 5)).1 (AnyZ.keys_in Tryz.keysS Fence.wide 5 trivial rfl mb w)
theorem sortsS (m : Nat) : AnyZ.SortsIn Tryz.prog Tryz.sortedS_ren Fence.wide m :=
  ⟨fun blk off cap ss W hH hblk hsz => callsIn_wide.2 (Tryz.slices_Sort_string blk off cap ss W hH hblk hsz), fun p cap W => callsIn_wide.2 (Tryz.slices_Sort_string_none p cap W)⟩
set_option maxHeartbeats 1000000 in
theorem sortedK {w : World} {mb N : Nat} {f : Text → Option Value} (M : MapG kyT w mb N f) (hN : N ≤ 1000000) {ks : List Text} (hk : ∀ x, x ∈ ks ↔ (f x).isSome = true) (Bm : Nat) (hc : w.cell? ⟨Bm, 0, none⟩ = some (.map (some mb))) : Calls Tryz.prog 40 #[keyFn Bm] w (layS.Gives (kset ks) w) := by
  obtain ⟨D, kz, hown, S, hl⟩ := M
  have hm : ∀ x, x ∈ kz ↔ (has D (.string x) = true ∧ (fun _ : Lit => false) (.string x) = false) := fun x => by
    constructor
    · intro hx
      have h1 := (S.mem x).1 hx
      exact ⟨(S.has x (S.few x h1)).trans h1, rfl⟩
    · rintro ⟨hx, -⟩
      have hlen : x.length ≤ maxLen := by
        obtain ⟨es, rfl, hko⟩ := hown.keysOf
        rw [has_eq, List.any_eq_true] at hx
        obtain ⟨p, hp, hs⟩ := hx
        obtain ⟨v, hv⟩ := hko p hp
        obtain ⟨y, _, hy, hyl⟩ := Maps.keyOf_str Tryz.underlying9 hv
        rw [hy] at hs
        have e : y = x := by simpa [Lit.sameKey] using hs
        rw [← e]; exact hyl
      exact (S.mem x).2 ((S.has x hlen).symm.trans hx)
  have hp : kz.Perm (strKeys D) := Collected.perm (left := fun _ => false) ⟨S.nodup, hm⟩ hown law_str Tryz.underlying9 (fun _ => rfl)
  have hsz : Maps.size D ≤ 1000000 := by rw [S.size]; omega
  have hseq := AnyZ.keys_gives (ρ := Tryz.keysS_ren) { Tryz.keysS with } Fence.wide (5 - 1 - 1 - 1) trivial rfl (by omega) Bm mb _ D w (World.block_lt_of_cell? _ _ hc) hc hown
  refine ((callsIn_wide (n := 5)).1 (AnyZ.sorted_in Tryz.sortedS Fence.wide 5 trivial trivial trivial trivial rfl (by omega) (sortsS _) (enters_of Tryz.func61 (by kernel_rfl) rfl) 64 #[.pointer (some ⟨Bm, 0, none⟩)] trivial (enters_of Tryz.func64 (by kernel_rfl) rfl) _ (Maps.size D) (by unfold maxLen; omega) (by omega) w hseq)).mono ?_
  rintro e w' ⟨v, ss, rfl, hS, hrow, -, hb⟩
  have e1 : ss.mergeSort leB = kset ks := sorted_kset ((hS.trans hp.symm).symm.nodup S.nodup) fun x => by rw [(hS.trans hp.symm).mem_iff, S.mem x, hk x]
  have e2 : (ss.mergeSort leB).length = ss.length := List.length_mergeSort ss
  refine ⟨v, rfl, ?_, hb⟩
  have h2 : w'.ownsRow w.heap.size 9 1 v (ss.mergeSort leB).length ((ss.mergeSort leB).map encStr) := by rw [e2]; exact hrow
  rw [← e1]
  exact rowS h2

/-! ### A graph's commands -/
theorem one_cs {x : Rcd} (h : oneErr x = 0) : x.2.2.2.length ≤ 8 ∧ ∀ c ∈ x.2.2.2, right c = true := by
  have hb : bErr x.2.2.2 = 0 := by
    unfold oneErr rErr at h
    (repeat' split at h) <;> first | exact h | exact absurd h (by assumption)
  unfold bErr at hb
  split at hb
  · cases hb
  · rename_i h1
    split at hb
    · cases hb
    · rename_i h2
      refine ⟨by omega, fun c hc => ?_⟩
      cases hr : right c with
      | true => rfl
      | false => exact absurd (List.any_eq_true.2 ⟨c, hc, by rw [hr]; rfl⟩) h2
theorem lot_cs {rs : List Rcd} (h : gErr rs = 0) {r : Rcd} (hr : r ∈ rs) : r.2.2.2.length ≤ 8 ∧ ∀ c ∈ r.2.2.2, right c = true := by
  obtain ⟨j, hj, e⟩ := (Lay.mem (L := layG)).1 hr
  have := (gerr_at h hj).1
  rw [e] at this
  exact one_cs this
theorem cs_rec (rs : List Rcd) (x : Idn) : csG rs x = [] ∨ ∃ r ∈ rs, csG rs x = r.2.2.2 := by
  unfold csG
  cases h : rs.find? (fun r => decide (r.1 = x)) with
  | none => exact .inl rfl
  | some r => exact .inr ⟨r, List.mem_of_find?_eq_some h, rfl⟩
theorem cs_right {rs : List Rcd} (h : gErr rs = 0) : ∀ x, ∀ c ∈ csG rs x, right c = true := fun x c hc => by
  rcases cs_rec rs x with e | ⟨r, hr, e⟩
  · rw [e] at hc; cases hc
  · rw [e] at hc; exact (lot_cs h hr).2 c hc
theorem cs_few {rs : List Rcd} (h : gErr rs = 0) (x : Idn) : (csG rs x).length ≤ 8 := by
  rcases cs_rec rs x with e | ⟨r, hr, e⟩
  · rw [e]; exact Nat.zero_le _
  · rw [e]; exact (lot_cs h hr).1
theorem cs_wf {rs : List Rcd} (L : Lot rs) : ∀ x, ∀ c ∈ csG rs x, wfC c := fun x c hc => by
  rcases cs_rec rs x with e | ⟨r, hr, e⟩
  · rw [e] at hc; cases hc
  · rw [e] at hc; exact (L.wf r hr).batch c hc
/-- All keys of a graph. -/
def allK (rs : List Rcd) : List Text := keys (rs.flatMap fun r => r.2.2.2)
theorem allK_len {rs : List Rcd} (h : gErr rs = 0) (L : Lot rs) : (allK rs).length ≤ 8000 := by
  have key : ∀ l : List Rcd, (∀ r ∈ l, r.2.2.2.length ≤ 8) → (l.flatMap fun r => r.2.2.2).length ≤ 8 * l.length := by
    intro l
    induction l with
    | nil => intro _; exact Nat.zero_le _
    | cons r l ih =>
      intro hl
      have h1 := ih fun r hr => hl r (List.mem_cons_of_mem _ hr)
      have h2 := hl r List.mem_cons_self
      rw [List.flatMap_cons, List.length_append, List.length_cons]; omega
  have := key rs fun r hr => (lot_cs h hr).1
  have := L.few
  unfold allK keys
  rw [List.length_map]; omega
theorem keys_allK {rs : List Rcd} {l : List Idn} {k : Text} (h : k ∈ keys (allC rs l)) : k ∈ allK rs := by
  obtain ⟨c, hc, e⟩ := keys_mem.1 h
  obtain ⟨x, hx, hcx⟩ := List.mem_flatMap.1 hc
  rcases cs_rec rs x with e' | ⟨r, hr, e'⟩
  · rw [e'] at hcx; cases hcx
  · rw [e'] at hcx
    exact keys_mem.2 ⟨c, List.mem_flatMap.2 ⟨r, hr, hcx⟩, e⟩
/-- The record of an id, or a zero one: what its commands are. -/
def GivesC (cs : List Cmdn) (w : World) (E : Ending) (w' : World) : Prop := ∃ (a b q : Int) (p : Option Addr) (n c : Nat) (p' : Option Addr) (n' c' : Nat) (ok : Bool), E = .returned (.tuple #[.agg #[.int .i64 a, .int .i64 b, .int .i64 q, .slice p n c, .slice p' n' c'], .bool ok]) ∧ layC.Row w' (.slice p' n' c') cs ∧ Below w.heap.size w w'
theorem rec_cs {G : Nat → Nat → List Rcd → World → Prop} (HG : Graphs G) {N g : Nat} {rs : List Rcd} {W : World} (h : G N g rs W) (a b : Int) (hw : wfId (a, b)) : Calls Tryz.prog 37 #[gptr g, .agg #[.int .i64 a, .int .i64 b]] W (GivesC (csG rs (a, b)) W) := by
  cases hf : rs.find? (fun r => decide (r.1 = (a, b))) with
  | none =>
    have hn : (a, b) ∉ idsG rs := fun hm => by
      obtain ⟨r, hr, e⟩ := List.mem_map.1 hm
      have := List.find?_eq_none.1 hf r hr
      simp only [decide_eq_true_eq] at this
      exact this e
    rw [cs_no hn]
    exact (HG.recN h a b hw hn).mono fun E w' h1 => ⟨0, 0, 0, none, 0, 0, none, 0, 0, false, h1.1, ⟨none, 0, rfl, Nat.le_refl _, by omega, fun h => absurd rfl h⟩, h1.2⟩
  | some r =>
    have hr := List.mem_of_find?_eq_some hf
    have e : r.1 = (a, b) := by
      have := List.find?_some hf
      simpa using this
    have hd : csG rs (a, b) = r.2.2.2 := by unfold csG; rw [hf]
    rw [hd]
    refine (HG.recY h a b hw r hr e).mono fun E w' h0 => ?_
    obtain ⟨v, u, rfl, h1, ⟨p', c', rfl, h2⟩, h3⟩ := h0
    obtain ⟨p, n, c, rfl⟩ := own_is h1
    exact ⟨_, _, _, p, n, c, p', _, c', true, rfl, ⟨p', c', rfl, h2⟩, h3⟩

/-! ### What the map holds -/
def fU (cs : List Cmdn) : Text → Option Value := fun k => if k ∈ keys cs then some (.bool (wrk cs k)) else none
def fI (a b : List Cmdn) (t : List Text) : Text → Option Value := fun k => if k ∈ t then some (.bool (wrk (a ++ b) k)) else fU a k
theorem wrk_app (a b : List Cmdn) (k : Text) : wrk (a ++ b) k = (wrk a k || wrk b k) := by unfold wrk; rw [List.any_append]
theorem wrk_no {a : List Cmdn} {k : Text} (h : k ∉ keys a) : wrk a k = false := by
  cases e : wrk a k with
  | false => rfl
  | true => obtain ⟨c, hc, e1, _⟩ := wrk_iff.1 e; exact absurd (keys_mem.2 ⟨c, hc, e1⟩) h
theorem keys_app (a b : List Cmdn) (k : Text) : k ∈ keys (a ++ b) ↔ k ∈ keys a ∨ k ∈ keys b := by unfold keys; rw [List.map_append, List.mem_append]
theorem fU_nil (k : Text) : fU [] k = none := if_neg (by unfold keys; simp)
theorem fI_all {a b : List Cmdn} {t : List Text} (h : ∀ k, k ∈ t ↔ k ∈ keys b) (k : Text) : fI a b t k = fU (a ++ b) k := by
  unfold fI
  by_cases e : k ∈ t
  · rw [if_pos e]
    unfold fU
    rw [if_pos ((keys_app a b k).2 (.inr ((h k).1 e)))]
  · rw [if_neg e]
    have hb : k ∉ keys b := fun h' => e ((h k).2 h')
    unfold fU
    rw [wrk_app, wrk_no hb, Bool.or_false]
    by_cases e2 : k ∈ keys a
    · rw [if_pos e2, if_pos ((keys_app a b k).2 (.inl e2))]
    · rw [if_neg e2, if_neg fun h' => ((keys_app a b k).1 h').elim e2 hb]
theorem fI_step {a b : List Cmdn} {t : List Text} (s : Text) (k : Text) : setF (fI a b t) s (some (.bool (wrk a s || wrk b s))) k = fI a b (t ++ [s]) k := by
  by_cases e : k = s
  · subst e
    rw [setF_same]
    unfold fI
    rw [if_pos (by simp), wrk_app]
  · rw [setF_other _ _ e]
    unfold fI
    by_cases e2 : k ∈ t
    · rw [if_pos e2, if_pos (List.mem_append_left _ e2)]
    · rw [if_neg e2, if_neg fun h => (List.mem_append.1 h).elim e2 fun h => e (List.mem_singleton.1 h)]
theorem fI_at {a b : List Cmdn} {t : List Text} {s : Text} (h : s ∉ t) : (fI a b t s).getD (.bool false) = .bool (wrk a s) := by
  unfold fI
  rw [if_neg h]
  unfold fU
  by_cases e : s ∈ keys a
  · rw [if_pos e]; rfl
  · rw [if_neg e, wrk_no e]; rfl
theorem fU_at {a : List Cmdn} {s : Text} (h : s ∈ keys a) : (fU a s).getD (.bool false) = .bool (wrk a s) := by unfold fU; rw [if_pos h]; rfl
theorem fU_some {a : List Cmdn} {k : Text} : k ∈ keys a ↔ (fU a k).isSome = true := by
  unfold fU
  by_cases e : k ∈ keys a
  · rw [if_pos e]; exact ⟨fun _ => rfl, fun _ => e⟩
  · rw [if_neg e]; exact ⟨fun h => absurd h e, fun h => by cases h⟩
theorem fI_some {a b : List Cmdn} {t : List Text} {k : Text} (h : (fI a b t k).isSome = true) : k ∈ keys a ∨ k ∈ t := by
  unfold fI at h
  by_cases e : k ∈ t
  · exact .inr e
  · rw [if_neg e] at h; exact .inl (fU_some.2 h)
theorem plc_wrk (cs : List Cmdn) (s : Text) : decide (0 < (places cs s).length) = wrk cs s := by
  rw [Bool.eq_iff_iff, decide_eq_true_iff, wrk_iff]
  unfold places plc
  rw [List.length_map, List.length_pos_iff_exists_mem]
  constructor
  · rintro ⟨j, hj⟩
    rw [List.mem_filter, List.mem_range, Bool.and_eq_true, decide_eq_true_iff] at hj
    exact ⟨_, layC.at_mem hj.1, hj.2⟩
  · rintro ⟨c, hc, h1, h2⟩
    obtain ⟨j, hj, e⟩ := (Lay.mem (L := layC)).1 hc
    refine ⟨j, ?_⟩
    rw [List.mem_filter, List.mem_range, Bool.and_eq_true, decide_eq_true_iff]
    rw [← e] at h1 h2
    exact ⟨hj, h1, h2⟩
theorem allC_snoc (rs : List Rcd) {l : List Idn} {k : Nat} (h : k < l.length) : allC rs (l.take (k + 1)) = allC rs (l.take k) ++ csG rs (nth l k) := by
  unfold allC
  rw [take_nth h, List.flatMap_append]; simp
end Go.Proofs.YtlkndpofegemdaaGreat.Tra

/- What the program's uses gives (layer 19, traces): its walk. Conditions: those in each statement. -/
namespace Go.Proofs.YtlkndpofegemdaaGreat.Tra
open Go.RowKit Cmd Bat Ids Rec Wid Gra Rea Cps Mpg
set_option linter.unusedVariables false
set_option linter.unusedSimpArgs false

def GivesU (zs : List (Text × Bool)) (w : World) (E : Ending) (w' : World) : Prop := ∃ o, E = .returned o ∧ wdU.Own 91 w' w.heap.size o zs ∧ Below w.heap.size w w'
/-- What the first loop keeps: nothing that lay has turned but the map, which has f. -/
structure Usd (W : World) (f : Text → Option Value) (X : World) : Prop where
  below : Below W.heap.size W X
  map : MapG kyT X W.heap.size 8000 f
theorem Usd.on {W X Y : World} {f : Text → Option Value} (h : Usd W f X) (hb : Below X.heap.size X Y) : Usd W f Y := ⟨h.below.trans (hb.mono h.below.size), h.map.on hb⟩
theorem Usd.put {W X : World} {a b : List Cmdn} {t : List Text} {s : Text} {L : List Text} (h : Usd W (fI a b t) X) (hs : s.length ≤ maxLen) (hL : L.length ≤ 8000) (ha : ∀ k ∈ keys a, k ∈ L) (ht : ∀ k ∈ t, k ∈ L) (hsL : s ∈ L) (c : Bool) (hc : c = (wrk a s || wrk b s)) :
    ∃ Y, (Instr.mapUpdate 80 (.map (some W.heap.size)) (.string (str s)) (.bool c)).run Tryz.prog X = .ok () Y ∧ Usd W (fI a b (t ++ [s])) Y ∧ X.grownBy Y (some W.heap.size) := by
  obtain ⟨Y, h1, h2, h3⟩ := h.map.store Tryz.underlying80 (by decide) (x := s) hs (.bool c)
  subst hc
  refine ⟨Y, h1, ⟨h.below.trans (turn_below h3.grown (Nat.le_refl _) h.below.size), tightG (h2.ext (fI_step s)) L (fun k hk => ?_) hL⟩, h3.grown⟩
  rcases fI_some hk with e | e
  · exact ha k e
  · rcases List.mem_append.1 e with e | e
    · exact ht k e
    · rw [List.mem_singleton.1 e]; exact hsL
set_option maxRecDepth 100000 in
set_option maxHeartbeats 16000000 in
theorem uses_any {G : Nat → Nat → List Rcd → World → Prop} (HG : Graphs G) {N g : Nat} {rs : List Rcd} {W : World} (hG : G N g rs W) (v : Value) (l : List Idn) (hl : RowAt W v l) (hw : ∀ x ∈ l, wfId x) : Calls Tryz.prog 22 #[gptr g, v] W (GivesU (usesG (allC rs l)) W) := by
  have hmm := @run_makeMap Tryz.prog
  obtain ⟨p, cap, rfl, h1, hd⟩ := Rec.RowAt.parts hl
  obtain ⟨LOT, ERR⟩ := HG.lot hG
  have HR := Lib.hid (fun X (hX : Below W.heap.size W X) a b (hab : wfId (a, b)) => rec_cs HG (HG.on hG (hX.mono (HG.le hG))) a b hab)
  have HW := Lib.hid hw
  have HAK := Lib.hid (allK_len ERR LOT)
  have HCW := Lib.hid (cs_wf LOT)
  have HCF := Lib.hid (cs_few ERR)
  have HKA := Lib.hid (fun l k => keys_allK (rs := rs) (l := l) (k := k))
  obtain ⟨n, hn⟩ : ∃ n, n = l.length := ⟨_, rfl⟩
  rw [← hn] at h1 hd ⊢
  have HN := Lib.hid hn
  clear hl hn hw hG LOT ERR HG
  go_enter Tryz.func22, Tryz.ntmps22
  have HU0 : Hid (Usd W (fU (allC rs (l.take 0))) (W.alloc (.map #[] 0))) := Lib.hid ⟨Cmd.below_one _ _, ((MapG.made W).mono (by decide)).ext fun k => (fU_nil k).symm⟩
  go_wp2
  clear hmm
  go_loopw [18] (fun i X => ∃ k : Nat, i = .int .i64 k ∧ k ≤ n ∧ Hid (Usd W (fU (allC rs (l.take k))) X)) (fun i _ => n - (intOf i).toNat)
  case atStart => exact ⟨0, rfl, Nat.zero_le _, HU0⟩
  case round =>
    clear HU0
    obtain ⟨k, rfl, hk, HU⟩ := hrel
    have k0 : (0 : Int) ≤ k := by omega
    by_cases hkn : k < n
    · have kn : (k : Int) < n := by omega
      obtain ⟨B, off, rfl, HC⟩ := hd.resolve_left (by omega)
      have hkl : k < l.length := by rw [← HN.out]; exact hkn
      obtain ⟨⟨x, y⟩, hxy⟩ : ∃ z, nth l k = z := ⟨_, rfl⟩
      have e0 := (HC.out.on HU.out.below).fst k hkl
      have e1 := (HC.out.on HU.out.below).snd k hkl
      rw [hxy] at e0 e1
      have hb1 := Cmd.below_one wr (.cells #[.int .i64 x, .int .i64 y] 43)
      have hx1 := heap_alloc_new wr (.cells #[.int .i64 x, .int .i64 y] 43)
      have c0 := cell_row (i := 0) hx1 rfl
      have c1 := cell_row (i := 1) hx1 rfl
      have hwf : wfId (x, y) := HW.out _ (by rw [← hxy]; exact mem_nth.2 ⟨k, hkl, rfl⟩)
      have HU1 := Lib.hid (HU.out.on hb1)
      have HSN : Hid (allC rs (l.take (k + 1)) = allC rs (l.take k) ++ csG rs (x, y)) := Lib.hid (by rw [allC_snoc rs hkl, hxy])
      have CR := Lib.hid (HR.out _ HU1.out.below x y hwf)
      have HPK : Hid (∀ s ∈ keys (allC rs (l.take k)), s ∈ allK rs) := Lib.hid fun s hs => HKA.out _ s hs
      have HQK : Hid (∀ s ∈ keys (csG rs (x, y)), s ∈ allK rs) := Lib.hid fun s hs => HKA.out (l.take (k + 1)) s (by rw [HSN.out]; exact (keys_app _ _ s).2 (.inr hs))
      have HCW1 := Lib.hid (HCW.out (x, y))
      have HCF1 := Lib.hid (HCF.out (x, y))
      generalize csG rs (x, y) = cs at HSN CR HQK HCW1 HCF1
      generalize allC rs (l.take k) = pre at HU1 HSN HPK HU
      clear hb1 hx1 hxy hkl hwf HU HC hd HKA HW
      go_wp2_with (first
        | (go_at_call 37; ((with_reducible refine CR.out.mono ?_); rintro E w1 ⟨ra, rb, rq, rp, rn, rc, p4, n4, c4, rk, rfl, hu, hb⟩; have HU2 := Lib.hid ((HU1.out.on hb).on (Cmd.below_one w1 (.cells #[.int .i64 ra, .int .i64 rb, .int .i64 rq, .slice rp rn rc, .slice p4 n4 c4] 46))); have HUR := Lib.hid (hu.on (Cmd.below_one w1 (.cells #[.int .i64 ra, .int .i64 rb, .int .i64 rq, .slice rp rn rc, .slice p4 n4 c4] 46))); have HBX := Lib.hid (heap_alloc_new w1 (.cells #[.int .i64 ra, .int .i64 rb, .int .i64 rq, .slice rp rn rc, .slice p4 n4 c4] 46)); have CK := Lib.hid (bkeys_any (.slice p4 n4 c4) cs _ HUR.out (Nat.le_trans HCF1.out (by decide)) HCW1.out); clear hu hb CR))
        | (go_at_call 38; ((with_reducible refine CK.out.mono ?_); rintro E w2 ⟨v2, rfl, hr2, hb⟩; obtain ⟨pk, ck, rfl, hkm, hdk⟩ := hr2.parts; have HU3 := Lib.hid (HU2.out.on hb); have HUR3 := Lib.hid (HUR.out.on hb); have HB4 := Lib.hid ((hb.cell (p := ⟨w1.heap.size, 4, none⟩) (by simp)).trans (cell_row HBX.out rfl)); clear hb hr2 CK)))
      have HKS : Hid (∀ s, s ∈ kset (keys cs) ↔ s ∈ keys cs) := Lib.hid (kset_mem (keys cs))
      have HND : Hid ((kset (keys cs)).Nodup) := Lib.hid (by
        refine (kset_rise (keys cs)).imp fun {a b} h e => ?_
        subst e; exact tlt_irr _ h)
      have HKL : Hid (∀ s ∈ kset (keys cs), s.length ≤ 140737488351232) := Lib.hid fun s hs => by
        obtain ⟨c, hc, rfl⟩ := keys_mem.1 ((kset_mem _ _).1 hs)
        exact (HCW1.out c hc).2
      generalize kset (keys cs) = ks at HKS HND HKL hkm hdk ⊢
      obtain ⟨m, hm⟩ : ∃ m, m = ks.length := ⟨_, rfl⟩
      rw [← hm] at hkm hdk ⊢
      have HM := Lib.hid hm
      have HU4 : Hid (Usd W (fI pre cs (ks.take 0)) w2) := Lib.hid ⟨HU3.out.below, HU3.out.map.ext fun k => by rw [List.take_zero]; unfold fI; rw [if_neg (by simp)]⟩
      have HG4 : Hid (w2.grownBy w2 (some W.heap.size)) := Lib.hid ⟨rfl, rfl, rfl, Nat.le_refl _, fun _ _ _ => rfl⟩
      have HMI := Lib.hid (mapIs HU3.out.map)
      clear hm HU1 HU2 HUR HBX HU3
      go_loopw [32] (fun i X => ∃ j : Nat, i = .int .i64 j ∧ j ≤ m ∧ Hid (Usd W (fI pre cs (ks.take j)) X) ∧ Hid (w2.grownBy X (some W.heap.size))) (fun i _ => m - (intOf i).toNat)
      case atStart => exact ⟨0, rfl, Nat.zero_le _, HU4, HG4⟩
      case round =>
        clear HU4 HG4 e0 e1 c0 c1
        obtain ⟨j, rfl, hj, HU5, HG5⟩ := hrel
        have j0 : (0 : Int) ≤ j := by omega
        by_cases hjm : j < m
        · have jm : (j : Int) < m := by omega
          obtain ⟨Bk, ofk, rfl, HK⟩ := hdk.resolve_left (by omega)
          have hjl : j < ks.length := by rw [← HM.out]; exact hjm
          obtain ⟨s, hs⟩ : ∃ s, layS.at ks j = s := ⟨_, rfl⟩
          have d0 := cell_far HG5.out HMI.out (cellS HK.out hjl hs)
          have d4 := cell_far HG5.out HMI.out HB4.out
          have HRW := Lib.hid (rowC_far HUR3.out HG5.out HMI.out)
          have hsm : s ∈ ks := by rw [← hs]; exact layS.at_mem hjl
          have hsn : s ∉ ks.take j := fun h => by
            have e := layS.take hjl
            have hn := HND.out
            have := List.Nodup.sublist (List.take_sublist (j + 1) ks) hn
            rw [e, hs, List.nodup_append] at this
            exact this.2.2 s h s (List.mem_singleton.2 rfl) rfl
          have hsl : s.length ≤ maxLen := by have := HKL.out s hsm; unfold maxLen; omega
          have hlk := HU5.out.map.look Tryz.underlying80 zeroB (x := s) hsl
          rw [fI_at hsn] at hlk
          have hlk2 : (Instr.lookup 80 (.map (some W.heap.size)) (.string (str s)) false).run Tryz.prog wr = .ok (.bool (wrk pre s)) wr := hlk
          have HP := Lib.hid (fun X (h : Usd W (fI pre cs (ks.take j)) X) c hc => h.put hsl HAK.out HPK.out (fun t ht => HQK.out t ((HKS.out t).1 (List.mem_of_mem_take ht))) (HQK.out s ((HKS.out s).1 hsm)) c hc)
          have HT : Hid (ks.take (j + 1) = ks.take j ++ [s]) := Lib.hid (by rw [layS.take hjl, hs])
          clear hs hjl hsm hsn hsl hlk hdk
          by_cases hq : wrk pre s = true
          · rw [hq] at hlk2
            obtain ⟨Y, hst, hU6, hg6⟩ := HP.out _ HU5.out true (by rw [hq]; rfl)
            have HU6 := Lib.hid hU6
            have HG6 : Hid (w2.grownBy Y (some W.heap.size)) := Lib.hid (HG5.out.andThen hg6 (fun j hj => .inr hj))
            clear hU6 hg6
            go_wp2
            go_roundw
            case rel => exact ⟨j + 1, by go_num, by omega, Lib.hid (by rw [HT.out]; exact HU6.out), HG6⟩
            case measure => simp [intOf]; omega
          · have hq' : wrk pre s = false := by simpa using hq
            rw [hq'] at hlk2
            have CWr := Lib.hid (bwrites_any (.slice p4 n4 c4) cs s _ HRW.out (Nat.le_trans HCF1.out (by decide)) HCW1.out)
            have HPW := Lib.hid (plc_wrk cs s)
            have HQ' := Lib.hid hq'
            clear hq hq'
            go_wp2_with (first
              | (go_at_call 39; ((with_reducible refine CWr.out.mono ?_); rintro E w7 ⟨v7, rfl, hr7, hb7⟩; obtain ⟨p7, c7, rfl, -, -⟩ := hr7.parts; obtain ⟨Y, hst, hU6, hg6⟩ := HP.out _ (HU5.out.on hb7) (decide (0 < (places cs s).length)) (by rw [HPW.out, HQ'.out, Bool.false_or]); have HU6 := Lib.hid hU6; have HG6 : Hid (w2.grownBy Y (some W.heap.size)) := Lib.hid (HG5.out.andThen ((show wr.grownBy w7 (some W.heap.size) from ⟨hb7.os, hb7.tape, hb7.output, hb7.size, fun k hk _ => hb7.block k hk⟩).andThen hg6 (fun j hj => .inr hj)) (fun j hj => .inr hj)); clear hU6 hg6 hb7 hr7; generalize (places cs s).length = n8 at hst ⊢)))
            go_roundw
            case rel => exact ⟨j + 1, by go_num, by omega, Lib.hid (by rw [HT.out]; exact HU6.out), HG6⟩
            case measure => simp [intOf]; omega
        · have jm : ¬ (j : Int) < m := by omega
          have hje : j = m := by omega
          have HU7 : Hid (Usd W (fU (allC rs (l.take (k + 1)))) wr) := Lib.hid (by
            have h := HU5.out
            rw [hje, HM.out, List.take_length] at h
            rw [HSN.out]
            exact ⟨h.below, h.map.ext (fI_all HKS.out)⟩)
          go_wp2
          go_roundw
          case rel => exact ⟨k + 1, by go_num, by omega, HU7⟩
          case measure => simp [intOf]; omega
    · have kn : ¬ (k : Int) < n := by omega
      have hke : k = n := by omega
      have hU := HU.out
      rw [hke, HN.out, List.take_length] at hU
      have HUF := Lib.hid hU
      clear hU HU hd
      have HLB : Hid ((kset (keys (allC rs l))).length ≤ 8000) := Lib.hid (Nat.le_trans (nodup_len ((kset_rise _).imp fun {a b} h e => by subst e; exact tlt_irr _ h) fun s hs => HKA.out l s ((kset_mem _ _).1 hs)) HAK.out)
      obtain ⟨cs, hcs⟩ : ∃ cs, cs = allC rs l := ⟨_, rfl⟩
      have HCS := Lib.hid hcs
      rw [← hcs] at HUF HLB
      clear hcs
      have CK := Lib.hid (keysS_any (some W.heap.size) wr)
      have CS := Lib.hid (sortedK (HUF.out.map.alloc (.cells #[.map (some W.heap.size)] 80)) (by decide) (fun x => fU_some (a := cs)) wr.heap.size (cell_row (heap_alloc_new wr (.cells #[.map (some W.heap.size)] 80)) rfl))
      have HUF1 := Lib.hid (HUF.out.on (Cmd.below_one wr (.cells #[.map (some W.heap.size)] 80)))
      go_wp2_with (first
        | (go_at_call 41; ((with_reducible refine CK.out.mono ?_); rintro E w8 ⟨rfl, rfl⟩))
        | (go_at_call 40; ((with_reducible refine CS.out.mono ?_); rintro E w9 ⟨v9, rfl, hr9, hb9⟩; obtain ⟨p9, c9, rfl, h9, hd9⟩ := hr9.parts; have HU9 := Lib.hid (HUF1.out.on hb9); clear hr9 hb9)))
      clear CK CS HUF1 HUF
      have HKS : Hid (∀ s, s ∈ kset (keys cs) → s ∈ keys cs) := Lib.hid fun s => (kset_mem (keys cs) s).1
      have HKM : Hid (∀ j, j < (kset (keys cs)).length → (usesG cs).take (j + 1) = (usesG cs).take j ++ [(layS.at (kset (keys cs)) j, wrk cs (layS.at (kset (keys cs)) j))]) := Lib.hid fun j hj => by
        unfold usesG
        rw [List.take_succ_eq_append_getElem (by rw [List.length_map]; exact hj), List.getElem_map, layS.at_get hj]
      have HUL : Hid ((usesG cs).length = (kset (keys cs)).length) := Lib.hid (by unfold usesG; rw [List.length_map])
      generalize kset (keys cs) = ks at HKS HKM HUL HLB h9 hd9 ⊢
      obtain ⟨m, hm⟩ : ∃ m, m = ks.length := ⟨_, rfl⟩
      rw [← hm] at h9 hd9 ⊢
      have HM := Lib.hid hm
      have hm8 : m ≤ 8000 := by rw [hm]; exact HLB.out
      have D9 : Hid (Below w9.heap.size w9 w9) := Lib.hid (Below.refl _ _)
      clear hm
      go_loopw [12, 55] (fun o i X => ∃ j : Nat, i = .int .i64 j ∧ j ≤ m ∧ Hid (wdU.Own 91 X w9.heap.size o ((usesG cs).take j)) ∧ Hid (Below w9.heap.size w9 X)) (fun _ i _ => m - (intOf i).toNat)
      case atStart => exact ⟨0, rfl, Nat.zero_le _, Lib.hid (by rw [List.take_zero]; exact Wd.Own.void _ _ _), D9⟩
      case round =>
        clear D9
        obtain ⟨j, rfl, hj, HO, HB⟩ := hrel
        have j0 : (0 : Int) ≤ j := by omega
        by_cases hjm : j < m
        · have jm : (j : Int) < m := by omega
          obtain ⟨Bk, ofk, rfl, HK⟩ := hd9.resolve_left (by omega)
          have hjl : j < ks.length := by rw [← HM.out]; exact hjm
          have HT := Lib.hid (HKM.out j hjl)
          obtain ⟨s, hs⟩ : ∃ s, layS.at ks j = s := ⟨_, rfl⟩
          have d0 := cellS (HK.out.on HB.out) hjl hs
          have hsk : s ∈ keys cs := HKS.out s (by rw [← hs]; exact layS.at_mem hjl)
          rw [hs] at HT
          have hsl : s.length ≤ maxLen := (HU9.out.map.ok (fU_some.1 hsk))
          have hlk := (HU9.out.on HB.out).map.look Tryz.underlying80 zeroB (x := s) hsl
          rw [fU_at hsk] at hlk
          have hlk2 : (Instr.lookup 80 (.map (some W.heap.size)) (.string (str s)) false).run Tryz.prog wr = .ok (.bool (wrk cs s)) wr := hlk
          generalize wrk cs s = bb at HT hlk2
          have hb1 := Cmd.below_one wr (.cells #[.string (str s), .bool bb] 91)
          have HO1 := Lib.hid (HO.out.below hb1)
          have HB1 := Lib.hid (HB.out.trans (hb1.mono HB.out.size))
          have HA := Lib.hid (grow_wd wtU (wr.alloc (.cells #[.string (str s), .bool bb] 91)) 62 w9.heap.size u12 ((usesG cs).take j) HO1.out HB1.out.size wr.heap.size (s, bb) #[.string (str s), .bool bb] rfl (heap_alloc_new wr _) (by rw [List.length_take]; omega))
          clear hs hjl hsk hsl hlk hb1 hd9
          go_wp2_with (first
            | (at_builtin; refine wp_app rfl _ _ 62 rfl _ _ rfl rfl HA.out ?_; intro v8 w8 HV8)
            | fail)
          go_roundw
          case rel => exact ⟨j + 1, by go_num, by omega, Lib.hid (by rw [HT.out]; exact HV8.out.1), Lib.hid (below_grown HB1.out (Nat.le_refl _) HO1.out HB1.out.size HV8.out.2.1)⟩
          case measure => simp [intOf]; omega
        · have jm : ¬ (j : Int) < m := by omega
          have hje : j = m := by omega
          have HE : Hid ((usesG cs).take j = usesG cs) := Lib.hid (List.take_of_length_le (by rw [HUL.out, hje, HM.out]; exact Nat.le_refl _))
          have HF := Lib.hid HU9.out.below
          go_wp2
          go_ret
          exact ⟨_, rfl, by have h := HO.out; rw [HE.out] at h; rw [← HCS.out]; exact h.lower HF.out.size, HF.out.trans (HB.out.mono HF.out.size)⟩
end Go.Proofs.YtlkndpofegemdaaGreat.Tra

/- What the program's numbers gives: a function that numbers lists of ids, alike ones alike (layer 19, traces). Conditions: those in each statement. -/
namespace Go.Proofs.YtlkndpofegemdaaGreat.Tra
open Go.RowKit Cmd Bat Ids Rec Wid Gra Rea Cps Mpg Go.Maps Go.WideElems Go.ChangeMaps
set_option linter.unusedVariables false
set_option linter.unusedSimpArgs false

/-! ### Steps and numbers as keys -/
def stv (x : Int × Idn) : Value := .agg #[.int .i64 x.1, .int .i64 x.2.1, .int .i64 x.2.2]
def litS (x : Int × Idn) : Lit := .string (keyBytes [.int .i64 x.1, .int .i64 x.2.1, .int .i64 x.2.2])
def wfS (x : Int × Idn) : Prop := wfI x.1 ∧ wfId x.2
set_option maxRecDepth 100000 in
theorem wide_s : (match Tryz.prog.underlying 111 with | some (.array _ _) | some (.struct _) => true | _ => false) = true := by rw [Tryz.underlying111]
set_option maxRecDepth 100000 in
theorem law_s : Keyed Tryz.prog 111 :=
  Keyed.of_law (deep_law_laid (by kernel_rfl) (m := 4) (by omega) (of_decide_eq_true (by kernel_rfl)) (by kernel_rfl) wide_s)
set_option maxRecDepth 100000 in
theorem keyType_s : Tryz.prog.keyType 111 = true := by kernel_rfl
set_option maxRecDepth 100000 in
theorem cells_s : Tryz.prog.cellsOf 111 = 3 := by kernel_rfl
set_option maxRecDepth 100000 in
theorem size_typesS : ∃ n, Tryz.prog.types.size + 1 = n + 3 := ⟨Tryz.prog.types.size - 2, by have : 2 ≤ Tryz.prog.types.size := of_decide_eq_true (by kernel_rfl); omega⟩
set_option maxRecDepth 100000 in
theorem lits_s (n : Nat) (c0 c1 c2 : Value) : Tryz.prog.keyLits (n + 3) 111 [c0, c1, c2] = (Tryz.prog.keyLits (n + 2) 3 [c0]).bind fun a => (Tryz.prog.keyLits (n + 2) 43 [c1, c2]).bind fun b => some (a ++ b) := by
  conv => lhs; unfold Program.keyLits
  simp [Tryz.underlying111, Ids.cells_id, Ids.cells_int]
  cases Tryz.prog.keyLits (n + 2) 3 [c0] <;> cases Tryz.prog.keyLits (n + 2) 43 [c1, c2] <;> simp [cells_s]
set_option maxRecDepth 100000 in
theorem lits_int_yes {d : Nat} {n : Int} (h : wfI n) : Tryz.prog.keyLits (d + 1) 3 [.int .i64 n] = some [.int .i64 n] := by
  have w := wf_i64.2 h
  simp [Program.keyLits, Tryz.underlying3, w]
set_option maxRecDepth 100000 in
theorem key_s {x : Int × Idn} (h : wfS x) : keyOf Tryz.prog 111 (stv x) = some (litS x) := by
  obtain ⟨n, hn⟩ := size_typesS
  unfold keyOf
  rw [Tryz.underlying111, hn]
  have hl : Tryz.prog.keyLits (n + 3) 111 [.int .i64 x.1, .int .i64 x.2.1, .int .i64 x.2.2] = some [.int .i64 x.1, .int .i64 x.2.1, .int .i64 x.2.2] := by
    rw [lits_s, lits_int_yes h.1, Ids.lits_id, lits_int_yes h.2.1, lits_int_yes h.2.2]; rfl
  simp [keyType_s, stv, Value.formed, Tryz.underlying111, cells_s, Value.cells, hl, litS]
set_option maxRecDepth 100000 in
theorem key_inv_s {v : Value} {l : Lit} (h : keyOf Tryz.prog 111 v = some l) : ∃ x, wfS x ∧ v = stv x ∧ l = litS x := by
  obtain ⟨n, hn⟩ := size_typesS
  unfold keyOf at h
  rw [Tryz.underlying111, hn] at h
  simp only [keyType_s, Bool.true_and] at h
  split at h
  · rename_i hf
    rw [Option.map_eq_some_iff] at h
    obtain ⟨ls, h1, rfl⟩ := h
    cases v <;> simp [Value.formed, Tryz.underlying111, cells_s] at hf
    rename_i cs
    obtain ⟨l⟩ := cs
    match l, hf with
    | [c0, c1, c2], _ =>
      have h2 : Tryz.prog.keyLits (n + 3) 111 [c0, c1, c2] = some ls := h1
      rw [lits_s, Option.bind_eq_some_iff] at h2
      obtain ⟨la, ha, h2⟩ := h2
      rw [Option.bind_eq_some_iff] at h2
      obtain ⟨lb, hb, h2⟩ := h2
      rw [Ids.lits_id, Option.bind_eq_some_iff] at hb
      obtain ⟨lc, hc, hb⟩ := hb
      rw [Option.bind_eq_some_iff] at hb
      obtain ⟨ld, hd, hb⟩ := hb
      obtain ⟨x, rfl, hx, rfl⟩ := Ids.lits_int ha
      obtain ⟨y, rfl, hy, rfl⟩ := Ids.lits_int hc
      obtain ⟨z, rfl, hz, rfl⟩ := Ids.lits_int hd
      cases hb
      cases h2
      exact ⟨(x, y, z), ⟨hx, hy, hz⟩, rfl, rfl⟩
  · cases h
theorem stv_inj {x y : Int × Idn} (h : stv x = stv y) : x = y := by
  unfold stv at h
  simp at h
  exact Prod.ext h.1 (Prod.ext h.2.1 h.2.2)
theorem litS_inj {x y : Int × Idn} (hx : wfS x) (hy : wfS y) (h : litS x = litS y) : x = y := stv_inj (law_s.inj (key_s hx) (h ▸ key_s hy))
def kyS : Ky (Int × Idn) 111 := ⟨stv, litS, wfS, law_s, fun h => key_s h, fun h => key_inv_s h, fun hx hy h => litS_inj hx hy h, fun h => stv_inj h, fun _ => trivial⟩
theorem key_n {n : Int} (h : wfI n) : keyOf Tryz.prog 3 (.int .i64 n) = some (.int .i64 n) := by
  have w := wf_i64.2 h
  simp [keyOf, Tryz.underlying3, mapKey, w]
theorem key_inv_n {v : Value} {l : Lit} (h : keyOf Tryz.prog 3 v = some l) : ∃ n : Int, wfI n ∧ v = .int .i64 n ∧ l = .int .i64 n := by
  cases v <;> simp [keyOf, Tryz.underlying3, mapKey] at h
  rename_i k n
  obtain ⟨⟨rfl, hw⟩, rfl⟩ := h
  exact ⟨n, wf_i64.1 hw, rfl, rfl⟩
def kyN : Ky Int 3 := ⟨fun n => .int .i64 n, fun n => .int .i64 n, wfI, Go.Maps.int_keyed Tryz.underlying3, fun h => key_n h, fun h => key_inv_n h, fun _ _ h => by injection h, fun h => by injection h, fun _ => trivial⟩
theorem storeB {K : Type} [DecidableEq K] {kt t e : TypeId} {Y : Ky K kt} {w : World} {b N : Nat} {f : K → Option Value} (h : MapG Y w b N f) (ht : Tryz.prog.underlying t = some (.map kt e)) (hN : N ≤ 4611686018427387904) {x : K} (hx : Y.ok x) (v : Value) : ∃ w', (Instr.mapUpdate t (.map (some b)) (Y.val x) v).run Tryz.prog w = .ok () w' ∧ MapG Y w' b (N + 1) (setF f x (some v)) ∧ w.mapTurned w' b := by
  obtain ⟨D, ks, hD, S, hk⟩ := h
  obtain ⟨w', hrun, h1, h2⟩ := hD.store Y.law ht (by unfold maxLen; omega) (Y.key hx) (val := v) (d := .held v) (ps := []) rfl
  obtain ⟨ks', S', hl⟩ := S.put (hD.tidy Y.law) x v hx
  have h3 := tightR h1
  rw [S'.size] at h3
  exact ⟨w', hrun, ⟨_, ks', h3, S', by omega⟩, h2⟩

/-! ### The numbers -/
theorem zeroN (w : World) : (zeroValue 3).run Tryz.prog w = .ok (.int .i64 0) w := by kernel_rfl
abbrev keyE (e : Nat × Idn) : Int × Idn := ((e.1 : Int), e.2)
theorem keyE_inj {a b : Nat × Idn} (h : keyE a = keyE b) : a = b := by
  injection h with h1 h2
  exact Prod.ext (by omega) h2
/-- The map holds just the steps of T, each with the number that it leads to. -/
structure Lead (T : List (Nat × Idn)) (f : Int × Idn → Option Value) : Prop where
  yes : ∀ (k : Nat) e, T[k]? = some e → f (keyE e) = some (.int .i64 ((k : Int) + 1))
  only : ∀ x, (f x).isSome = true → ∃ e ∈ T, x = keyE e
theorem Lead.nil : Lead [] (fun _ => none) := ⟨fun k e h => (by cases h), fun x h => (by cases h)⟩
theorem Lead.snoc {T : List (Nat × Idn)} {f : Int × Idn → Option Value} (h : Lead T f) (e : Nat × Idn) (hn : e ∉ T) : Lead (T ++ [e]) (setF f (keyE e) (some (.int .i64 ((T.length : Int) + 1)))) := by
  refine ⟨fun k x hk => ?_, fun x hx => ?_⟩
  · by_cases h3 : k < T.length
    · rw [List.getElem?_append_left h3] at hk
      have hne : keyE x ≠ keyE e := fun e' => hn (by rw [← keyE_inj e']; exact List.mem_of_getElem? hk)
      rw [setF_other _ _ hne]; exact h.yes k x hk
    · rw [List.getElem?_append_right (by omega)] at hk
      have h4 : k - T.length = 0 := by
        have := (List.getElem?_eq_some_iff.1 hk).1
        simp at this; omega
      rw [h4] at hk
      injection hk with hk
      subst hk
      rw [setF_same, show k = T.length by omega]
  · by_cases e' : x = keyE e
    · exact ⟨e, by simp, e'⟩
    · rw [setF_other _ _ e'] at hx
      obtain ⟨y, hy, e2⟩ := h.only x hx
      exact ⟨y, List.mem_append_left _ hy, e2⟩
theorem Lead.keys {T : List (Nat × Idn)} {f : Int × Idn → Option Value} (h : Lead T f) (x : Int × Idn) : x ∈ T.map keyE ↔ (f x).isSome = true := by
  rw [List.mem_map]
  constructor
  · rintro ⟨e, he, rfl⟩
    obtain ⟨k, hk, e'⟩ := List.getElem_of_mem he
    rw [h.yes k e (by rw [List.getElem?_eq_getElem hk, e'])]; rfl
  · intro hx
    obtain ⟨e, he, e'⟩ := h.only x hx
    exact ⟨e, he, e'.symm⟩
/-- What the closure keeps: a box of the map of steps. -/
structure NumAt (W : World) (mb bx : Nat) (T : List (Nat × Idn)) : Prop where
  num : Num T
  box : W.cell? ⟨bx, 0, none⟩ = some (.map (some mb))
  map : ∃ f, Lead T f ∧ MapG kyS W mb T.length f
theorem NumAt.on {W W' : World} {mb bx : Nat} {T : List (Nat × Idn)} (h : NumAt W mb bx T) (hb : Below W.heap.size W W') : NumAt W' mb bx T := by
  obtain ⟨f, hf, M⟩ := h.map
  exact ⟨h.num, (hb.cell (p := ⟨bx, 0, none⟩) (World.block_lt_of_cell? _ _ h.box)).trans h.box, f, hf, M.on hb⟩
theorem NumAt.keep {W W' : World} {mb bx : Nat} {T : List (Nat × Idn)} (h : NumAt W mb bx T) (h1 : W'.heap[mb]? = W.heap[mb]?) (h2 : W'.heap[bx]? = W.heap[bx]?) : NumAt W' mb bx T := by
  obtain ⟨f, hf, M⟩ := h.map
  exact ⟨h.num, (World.cell?_of_block (w := W) (a := ⟨bx, 0, none⟩) h2).trans h.box, f, hf, M.block h1⟩
theorem NumAt.isMap {W : World} {mb bx : Nat} {T : List (Nat × Idn)} (h : NumAt W mb bx T) : ∃ es c, W.heap[mb]? = some (.map es c) := by
  obtain ⟨f, hf, M⟩ := h.map
  exact mapIs M
theorem numbers_any (W : World) : Calls Tryz.prog 36 #[] W fun E w' => E = .returned (.func (.func 58) #[] #[.pointer (some ⟨W.heap.size + 1, 0, none⟩)]) ∧ NumAt w' W.heap.size (W.heap.size + 1) [] ∧ w'.heap.size = W.heap.size + 2 ∧ Below W.heap.size W w' := by
  have hmm := @run_makeMap Tryz.prog
  have hb := (Cmd.below_one W (.map #[] 0)).trans ((Cmd.below_one (W.alloc (.map #[] 0)) (.cells #[.map (some W.heap.size)] 108)).mono (by simp))
  have hx := heap_alloc_new (W.alloc (.map #[] 0)) (.cells #[.map (some W.heap.size)] 108)
  rw [World.size_alloc] at hx
  have HX : Hid (NumAt ((W.alloc (.map #[] 0)).alloc (.cells #[.map (some W.heap.size)] 108)) W.heap.size (W.heap.size + 1) []) := Lib.hid ⟨Num.nil, cell_row hx rfl, _, Lead.nil, (MapG.made W).alloc _⟩
  have HB := Lib.hid hb
  clear hb hx
  go_enter Tryz.func36, Tryz.ntmps36
  go_wp2
  go_ret
  exact ⟨by simp, HX.out, by simp, HB.out⟩
def GivesN (mb bx : Nat) (T : List (Nat × Idn)) (c : List Idn) (W : World) (E : Ending) (W' : World) : Prop :=
  ∃ (n : Nat) (T' : List (Nat × Idn)), E = .returned (.int .i64 (n : Int)) ∧ Ext T T' ∧ n ≤ T'.length ∧ wd T' n = c ∧ T'.length ≤ T.length + c.length ∧ NumAt W' mb bx T' ∧ W.grownBy W' (some mb)
structure Nst (T : List (Nat × Idn)) (c : List Idn) (k at_ : Nat) (Tk : List (Nat × Idn)) : Prop where
  le : at_ ≤ Tk.length
  wd : wd Tk at_ = c.take k
  ext : Ext T Tk
  len : Tk.length ≤ T.length + k
set_option maxRecDepth 100000 in
set_option maxHeartbeats 8000000 in
theorem number_any {W : World} {mb bx : Nat} {T : List (Nat × Idn)} (H : NumAt W mb bx T) (v : Value) (c : List Idn) (hc : RowAt W v c) (hw : ∀ x ∈ c, wfId x) (hT : T.length ≤ 2305843009213693952) (hl : c.length ≤ 1152921504606846976) : Calls Tryz.prog 58 #[v, .pointer (some ⟨bx, 0, none⟩)] W (GivesN mb bx T c W) := by
  obtain ⟨p, cap, rfl, h1, hd⟩ := Rec.RowAt.parts hc
  have HW := Lib.hid hw
  have HMI := Lib.hid H.isMap
  have HT := Lib.hid hT
  obtain ⟨n, hn⟩ : ∃ n, n = c.length := ⟨_, rfl⟩
  rw [← hn] at h1 hd hl ⊢
  have HN := Lib.hid hn
  have H0 := Lib.hid H
  have G0 : Hid (W.grownBy W (some mb)) := Lib.hid ⟨rfl, rfl, rfl, Nat.le_refl _, fun _ _ _ => rfl⟩
  have N0 : Hid (Nst T c 0 0 T) := Lib.hid ⟨Nat.zero_le _, by rw [wd_zero, List.take_zero], .refl _, Nat.le_refl _⟩
  clear hc hw H hT hn
  go_enter Tryz.func58, Tryz.ntmps58
  go_wp2
  go_loopw [4, 11] (fun a i X => ∃ (k at_ : Nat) (Tk : List (Nat × Idn)), i = .int .i64 k ∧ k ≤ n ∧ a = .int .i64 at_ ∧ Hid (Nst T c k at_ Tk) ∧ Hid (NumAt X mb bx Tk) ∧ Hid (W.grownBy X (some mb))) (fun _ i _ => n - (intOf i).toNat)
  case atStart => exact ⟨0, 0, T, rfl, Nat.zero_le _, rfl, N0, H0, G0⟩
  case round =>
    clear N0 H0 G0
    obtain ⟨k, at_, Tk, rfl, hk, rfl, HS, HA, HG⟩ := hrel
    have k0 : (0 : Int) ≤ k := by omega
    by_cases hkn : k < n
    · have kn : (k : Int) < n := by omega
      obtain ⟨B, off, rfl, HC⟩ := hd.resolve_left (by omega)
      have hkl : k < c.length := by rw [← HN.out]; exact hkn
      obtain ⟨⟨x, y⟩, hxy⟩ : ∃ z, nth c k = z := ⟨_, rfl⟩
      have e0 := cell_far HG.out HMI.out (HC.out.fst k hkl)
      have e1 := cell_far HG.out HMI.out (HC.out.snd k hkl)
      rw [hxy] at e0 e1
      have hb1 := Cmd.below_one wr (.cells #[.int .i64 x, .int .i64 y] 43)
      have hx1 := heap_alloc_new wr (.cells #[.int .i64 x, .int .i64 y] 43)
      have c0 := cell_row (i := 0) hx1 rfl
      have c1 := cell_row (i := 1) hx1 rfl
      have hwf : wfId (x, y) := HW.out _ (by rw [← hxy]; exact mem_nth.2 ⟨k, hkl, rfl⟩)
      have HA1 := Lib.hid (HA.out.on hb1)
      have cb := HA1.out.box
      have HG1 : Hid (W.grownBy (wr.alloc (.cells #[.int .i64 x, .int .i64 y] 43)) (some mb)) := Lib.hid (HG.out.andThen (show wr.grownBy _ (some mb) from ⟨hb1.os, hb1.tape, hb1.output, hb1.size, fun j hj _ => hb1.block j hj⟩) (fun j hj => .inr hj))
      have HTK : Hid (c.take (k + 1) = c.take k ++ [(x, y)]) := Lib.hid (by rw [take_nth hkl, hxy])
      obtain ⟨f, hf, M⟩ := HA1.out.map
      have hle := HS.out.le
      have hln := HS.out.len
      have htk := HT.out
      have hwS : wfS ((at_ : Int), (x, y)) := ⟨⟨by omega, by omega⟩, hwf⟩
      have hlk := M.look_ok Tryz.underlying108 zeroN (x := ((at_ : Int), (x, y))) hwS
      by_cases hin : (at_, (x, y)) ∈ Tk
      · obtain ⟨j, hj, ej⟩ := List.getElem_of_mem hin
        have ej' : Tk[j]? = some (at_, (x, y)) := by rw [List.getElem?_eq_getElem hj, ej]
        have hfj := hf.yes j _ ej'
        have hlk2 : (Instr.lookup 108 (.map (some mb)) (.agg #[.int .i64 at_, .int .i64 x, .int .i64 y]) true).run Tryz.prog (wr.alloc (.cells #[.int .i64 x, .int .i64 y] 43)) = .ok (.tuple #[.int .i64 ((j : Int) + 1), .bool true]) (wr.alloc (.cells #[.int .i64 x, .int .i64 y] 43)) := by
          have := hlk
          rw [hfj] at this
          exact this
        have HS2 : Hid (Nst T c (k + 1) (j + 1) Tk) := Lib.hid ⟨by omega, by rw [(HA1.out.num.succ j _ ej').2, HS.out.wd, HTK.out], HS.out.ext, by omega⟩
        clear hb1 hx1 hxy hkl hwf hwS hlk hf M hle hln htk hin ej ej' hfj hd
        go_wp2
        go_roundw
        case rel => exact ⟨k + 1, j + 1, Tk, by go_num, by omega, by go_num, HS2, HA1, HG1⟩
        case measure => simp [intOf]; omega
      · have hfn : f ((at_ : Int), (x, y)) = none := by
          cases e : f ((at_ : Int), (x, y)) with
          | none => rfl
          | some u =>
            obtain ⟨z, hz, e2⟩ := hf.only _ (by rw [e]; rfl)
            exact absurd (by rw [show (at_, (x, y)) = z from keyE_inj e2]; exact hz) hin
        have hlk2 : (Instr.lookup 108 (.map (some mb)) (.agg #[.int .i64 at_, .int .i64 x, .int .i64 y]) true).run Tryz.prog (wr.alloc (.cells #[.int .i64 x, .int .i64 y] 43)) = .ok (.tuple #[.int .i64 0, .bool false]) (wr.alloc (.cells #[.int .i64 x, .int .i64 y] 43)) := by
          have := hlk
          rw [hfn] at this
          exact this
        have hlen := fun ty => M.len Tryz.underlying108 ty (ks := Tk.map keyE) (List.pairwise_map.2 (HA1.out.num.nodup.imp fun {a b} h e => h (keyE_inj e))) hf.keys
        rw [List.length_map] at hlen
        obtain ⟨W2, hst, M2, ht2⟩ := storeB M Tryz.underlying108 (by omega) (x := ((at_ : Int), (x, y))) hwS (.int .i64 ((Tk.length : Int) + 1))
        have hst2 : (Instr.mapUpdate 108 (.map (some mb)) (.agg #[.int .i64 at_, .int .i64 x, .int .i64 y]) (.int .i64 ((Tk.length : Int) + 1))).run Tryz.prog (wr.alloc (.cells #[.int .i64 x, .int .i64 y] 43)) = .ok () W2 := hst
        have hg2 := ht2.grown
        have cb2 := cell_far hg2 HA1.out.isMap cb
        have HS2 : Hid (Nst T c (k + 1) (Tk.length + 1) (Tk ++ [(at_, (x, y))])) := Lib.hid ⟨by simp, by rw [wd_new, HS.out.wd, HTK.out], HS.out.ext.trans ⟨_, rfl⟩, by rw [List.length_append, List.length_singleton]; omega⟩
        have HA2 : Hid (NumAt W2 mb bx (Tk ++ [(at_, (x, y))])) := Lib.hid ⟨HA1.out.num.snoc _ hle hin, cb2, _, hf.snoc (at_, (x, y)) hin, by rw [List.length_append]; exact M2⟩
        have HG2 : Hid (W.grownBy W2 (some mb)) := Lib.hid (HG1.out.andThen hg2 (fun j hj => .inr hj))
        obtain ⟨tl, htl⟩ : ∃ tl, tl = Tk.length := ⟨_, rfl⟩
        have HTL := Lib.hid htl
        rw [← htl] at hlen hst2 hln hle
        clear hb1 hx1 hxy hkl hwf hwS hlk hf M hin hfn hst M2 ht2 hg2 hd htl
        have htl0 : (0 : Int) ≤ tl := by omega
        have htl1 : (tl : Int) + 1 ≤ 9223372036854775807 := by omega
        go_wp2
        go_roundw
        case rel => exact ⟨k + 1, Tk.length + 1, _, by go_num, by omega, by rw [← HTL.out]; go_num, HS2, HA2, HG2⟩
        case measure => simp [intOf]; omega
    · have kn : ¬ (k : Int) < n := by omega
      have hke : k = n := by omega
      go_wp2
      go_ret
      have hs := HS.out
      rw [hke, HN.out] at hs
      exact ⟨at_, Tk, rfl, hs.ext, hs.le, by rw [hs.wd, List.take_length], hs.len, HA.out, HG.out⟩
end Go.Proofs.YtlkndpofegemdaaGreat.Tra
