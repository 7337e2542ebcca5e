/- Lists copied (layer 8, record): make and copy at ids and at commands; strings.Clone. Conditions: the lists lie in memory as their cells say, and are not longer than 100000. -/
import Derived.Test.YtimkkelnakamkaaRecD
import Derived.Test.YtimkkelnakamkaaIdD
import Derived.Test.YtimkkelnakamkaaShelf
import Derived.Laws.CopyRow
import Derived.Laws.MakeOwn
namespace Go.Proofs.Ytimkkelnakamkaa.Rec
open Go.RowKit Cmd Bat Ids
set_option linter.unusedVariables false

/-! ### copy at elements of whatever size -/
section
variable {P : Program}
theorem run_copy_wide (w : World) (dT sT ty elem : TypeId) (g dLen dCap : Nat) (a : Addr) (sLen sCap : Nat) (cur : Array Value) (t : TypeId) (cs : List Value) (c : Nat)
    (hu : P.underlying dT = some (.slice elem)) (hs : (P.info? elem).map (·.size) = some c) (hg : w.heap[g]? = some (.cells cur t (0, 0))) (hn : cs.length = Nat.min sLen dLen * c)
    (hsrc : ∀ j v, cs[j]? = some v → w.cell? (a.add j) = some v) (hfit : cs.length ≤ cur.size) (h1 : ∀ v ∈ cs, v.oneCell' = true) :
    (Builtin.copy_ #[dT, sT] ty #[.slice (some ⟨g, 0, none⟩) dLen dCap, .slice (some a) sLen sCap]).run P w =
      .ok (goInt (Nat.min sLen dLen)) (w.setRow g (cs ++ cur.toList.drop cs.length).toArray) := by
  have hl := run_loadCells_list (P := P) w a cs hsrc
  have hst := run_storeCells_at P g 0 t cs 0 cur w hg (by simpa using hfit) h1
  simp only [Nat.zero_add, Nat.add_zero, List.take_zero, List.nil_append] at hst
  cases hq : P.info? elem with
  | none => simp [hq] at hs
  | some i =>
    have hi : i.size = c := by simpa [hq] using hs
    rw [hn] at hl
    simp only [Builtin.copy_, Builtin.lenOf, Builtin.firstCells, sizeOf, typeInfo]
    simp [run_underlying hu, hq, hi, hl, hst]
theorem run_copy_void (w : World) (dT sT ty elem : TypeId) (g dCap sCap : Nat) (c : Nat)
    (hu : P.underlying dT = some (.slice elem)) (hs : (P.info? elem).map (·.size) = some c) :
    (Builtin.copy_ #[dT, sT] ty #[.slice (some ⟨g, 0, none⟩) 0 dCap, .slice none 0 sCap]).run P w = .ok (goInt 0) w := by
  cases hq : P.info? elem with
  | none => simp [hq] at hs
  | some i => simp [Builtin.copy_, run_underlying hu, Builtin.lenOf, Builtin.firstCells, sizeOf, typeInfo, hq, storeCells]
theorem push_modify (a : Array Obj) (x : Obj) (f : Obj → Obj) : (a.push x).modify a.size f = a.push (f x) := by
  apply Array.ext
  · simp
  · intro i h1 h2
    rw [Array.getElem_modify, Array.getElem_push, Array.getElem_push]
    by_cases h : i < a.size
    · rw [if_neg (by omega), dif_pos h, dif_pos h]
    · have : i = a.size := by simp at h1; omega
      rw [if_pos this.symm, dif_neg h, dif_neg h]
theorem setRow_new (w : World) (cur cs : Array Value) (t : TypeId) : (w.alloc (.cells cur t)).setRow w.heap.size cs = w.alloc (.cells cs t) := by
  show ({ (w.alloc (.cells cur t)) with heap := (w.heap.push (.cells cur t)).modify w.heap.size _ } : World) = { w with heap := w.heap.push (.cells cs t) }
  rw [push_modify]
  rfl
end

/-! ### The cells of a list of commands -/
def cellsC (x : Cmdn) : List Value := [.int .i64 x.1, .string (str x.2.1), .float .f64 x.2.2]
def flatC (cs : List Cmdn) : List Value := cs.flatMap cellsC
theorem flatC_len : ∀ cs : List Cmdn, (flatC cs).length = cs.length * 3
  | [] => rfl
  | x :: t => by
    have := flatC_len t
    unfold flatC at *
    rw [List.flatMap_cons, List.length_append, this, List.length_cons]
    show 3 + _ = _
    omega
theorem flatC_at : ∀ (cs : List Cmdn) (j : Nat), j < cs.length → (flatC cs)[j * 3]? = some (.int .i64 (layC.at cs j).1) ∧ (flatC cs)[j * 3 + 1]? = some (.string (str (layC.at cs j).2.1)) ∧ (flatC cs)[j * 3 + 2]? = some (.float .f64 (layC.at cs j).2.2)
  | x :: t, 0, _ => ⟨rfl, rfl, rfl⟩
  | x :: t, j + 1, h => by
    have ih := flatC_at t j (by simpa using h)
    have e : flatC (x :: t) = .int .i64 x.1 :: .string (str x.2.1) :: .float .f64 x.2.2 :: flatC t := rfl
    have e2 : layC.at (x :: t) (j + 1) = layC.at t j := by unfold Lay.at; rw [List.getD_cons_succ]
    rw [e, e2, show (j + 1) * 3 = j * 3 + 3 by omega, show j * 3 + 3 + 1 = j * 3 + 1 + 3 by omega, show j * 3 + 3 + 2 = j * 3 + 2 + 3 by omega]
    exact ih
theorem flatC_one (cs : List Cmdn) : ∀ u ∈ flatC cs, u.oneCell' = true := fun u hu => by
  unfold flatC at hu
  rw [List.mem_flatMap] at hu
  obtain ⟨x, _, hx⟩ := hu
  simp [cellsC] at hx
  rcases hx with rfl | rfl | rfl <;> rfl
theorem flatI_one (zs : List Idn) : ∀ u ∈ flat zs, u.oneCell' = true := fun u hu => by
  unfold flat at hu
  rw [List.mem_flatMap] at hu
  obtain ⟨x, _, hx⟩ := hu
  simp [ids] at hx
  rcases hx with rfl | rfl <;> rfl
theorem srcC {w : World} {B off : Nat} {cs : List Cmdn} (h : layC.In w B off cs) : ∀ j u, (flatC cs)[j]? = some u → w.cell? ((⟨B, off, none⟩ : Addr).add j) = some u := fun j u hu => by
  have hj : j / 3 < cs.length := by
    have := (List.getElem?_eq_some_iff.1 hu).1
    rw [flatC_len] at this; omega
  have h4 := h.cell _ hj
  have h5 := flatC_at cs _ hj
  rw [Addr.add_lit]
  have hm : j % 3 = 0 ∨ j % 3 = 1 ∨ j % 3 = 2 := by omega
  change w.cell? ⟨B, off + j / 3 * 3, none⟩ = _ ∧ w.cell? ⟨B, off + j / 3 * 3 + 1, none⟩ = _ ∧ w.cell? ⟨B, off + j / 3 * 3 + 2, none⟩ = _ at h4
  rcases hm with h2 | h2 | h2
  · have e : j / 3 * 3 = j := by omega
    rw [e] at h4 h5
    rw [h5.1] at hu
    rw [h4.1, ← hu]
  · have e : j / 3 * 3 + 1 = j := by omega
    rw [Nat.add_assoc off, e] at h4
    rw [e] at h5
    rw [h5.2.1] at hu
    rw [h4.2.1, ← hu]
  · have e : j / 3 * 3 + 2 = j := by omega
    rw [Nat.add_assoc off _ 2, e] at h4
    rw [e] at h5
    rw [h5.2.2] at hu
    rw [h4.2.2, ← hu]
theorem srcI {w : World} {B off : Nat} {zs : List Idn} (h : Row2 w B off zs) : ∀ j u, (flat zs)[j]? = some u → w.cell? ((⟨B, off, none⟩ : Addr).add j) = some u := fun j u hu => by
  have hj : j / 2 < zs.length := by
    have := (List.getElem?_eq_some_iff.1 hu).1
    rw [flat_len] at this; omega
  have h4 := h.fst _ hj
  have h4' := h.snd _ hj
  have h5 := flat_at zs _ hj
  rw [Addr.add_lit]
  rcases Nat.mod_two_eq_zero_or_one j with h2 | h2
  · have e : j / 2 * 2 = j := by omega
    rw [e] at h4 h5
    rw [h5.1] at hu
    rw [h4, ← hu]
  · have e : j / 2 * 2 + 1 = j := by omega
    rw [Nat.add_assoc, e] at h4'
    rw [e] at h5
    rw [h5.2] at hu
    rw [h4', ← hu]

/-! ### copied -/
theorem info_cmd : (Try.prog.info? 73).map (fun i => (i.zero, i.size, i.bytes)) = some (some (.agg #[.int .i64 0, .string ⟨#[]⟩, .float .f64 0]), 3, 32) := by kernel_rfl
/-- A row in one new block, and nothing else. -/
def GivesCopy (n : Nat) (fl : List Value) (t : TypeId) (w : World) (e : Ending) (w' : World) : Prop := e = .returned (.slice (some ⟨w.heap.size, 0, none⟩) n n) ∧ w' = w.alloc (.cells fl.toArray t)
theorem copy_eq {P : Program} {T t : TypeId} {c : Nat} (hu : P.underlying T = some (.slice t)) (hs : (P.info? t).map (·.size) = some c) (w : World) (n cap : Nat) (p : Option Addr) (fl : List Value) (M : Array Value) (hM : M.size = n * c) (hf : fl.length = n * c) (hone : ∀ u ∈ fl, u.oneCell' = true)
    (h : (p = none ∧ n = 0) ∨ ∃ ad, p = some ad ∧ ∀ j u, fl[j]? = some u → w.cell? (ad.add j) = some u) (ty : TypeId) :
    (Builtin.copy_ #[T, T] ty #[.slice (some ⟨w.heap.size, 0, none⟩) n n, .slice p n cap]).run P (w.alloc (.cells M t)) = .ok (goInt n) (w.alloc (.cells fl.toArray t)) := by
  rcases h with ⟨rfl, rfl⟩ | ⟨ad, rfl, hsrc⟩
  · have e1 : fl = [] := List.eq_nil_of_length_eq_zero (by omega)
    have e2 : M = #[] := Array.eq_empty_of_size_eq_zero (by omega)
    subst e1; subst e2
    exact run_copy_void _ T T ty t w.heap.size 0 cap c hu hs
  · have hm : Nat.min n n = n := Nat.min_self n
    have := run_copy_wide (P := P) (w.alloc (.cells M t)) T T ty t w.heap.size n n ad n cap M t fl c hu hs (heap_alloc_new w _) (by rw [hm]; exact hf)
      (fun j u hj => (World.cell?_alloc_some w (ad.add j) _ (by rw [hsrc j u hj]; rfl)).trans (hsrc j u hj)) (by omega) hone
    rw [this, hm, setRow_new]
    have e : M.toList.drop fl.length = [] := List.drop_eq_nil_of_le (by simp; omega)
    rw [e, List.append_nil]
set_option maxHeartbeats 1000000 in
theorem copied_ids (v : Value) (zs : List Idn) (w : World) (h : RowAt w v zs) (hl : zs.length ≤ 100000) : Calls Try.prog 49 #[v] w (GivesCopy zs.length (flat zs) 24 w) := by
  obtain ⟨i0, hi, hz0, hz1, hz2⟩ := info_parts info_id
  obtain ⟨p, cap, rfl, h1, h2, -, h3⟩ := h
  have hsz : (Try.prog.info? 24).map (·.size) = some 2 := by rw [hi]; exact congrArg some hz1
  have hcase : (p = none ∧ zs.length = 0) ∨ ∃ ad, p = some ad ∧ ∀ j u, (flat zs)[j]? = some u → w.cell? (ad.add j) = some u := by
    by_cases hz : zs = []
    · subst hz
      cases p with
      | none => exact .inl ⟨rfl, rfl⟩
      | some ad => exact .inr ⟨ad, rfl, fun j u hu => by simp [flat] at hu⟩
    · obtain ⟨B, off, rfl, hlt, hc⟩ := h3 hz
      exact .inr ⟨_, rfl, srcI ⟨hlt, fun j hj => (hc j hj).1, fun j hj => (hc j hj).2⟩⟩
  obtain ⟨M, hM⟩ : ∃ M, M = madeCells (Value.agg #[.int .i64 0, .int .i64 0]).cells (zs.length * 2) := ⟨_, rfl⟩
  obtain ⟨F, hF⟩ : ∃ F, F = flat zs := ⟨_, rfl⟩
  have hcp : ∀ ty, _ := copy_eq (P := Try.prog) (T := 32) (t := 24) (c := 2) Try.underlying32 hsz w zs.length cap p (flat zs) M (by rw [hM]; simp [madeCells]) (flat_len zs) (flatI_one zs) hcase
  have hmk : ∀ w, (Instr.makeSlice 32 (.int .i64 (zs.length : Nat)) (.int .i64 (zs.length : Nat))).run Try.prog w = .ok (.slice (some ⟨w.heap.size, 0, none⟩) zs.length zs.length) (w.alloc (.cells M 24)) := fun w => by
    have := run_make (P := Try.prog) w 32 24 i0 _ Try.underlying32 hi hz0 .i64 .i64 zs.length zs.length (by omega) (by omega) (by rw [hz2]; omega) (by omega)
    rw [Int.toNat_natCast, hz1, ← hM] at this
    exact this
  rw [← hF] at hcp ⊢
  generalize zs.length = n at hcp hmk ⊢
  clear hM hF hcase h3 hi
  go_enter Try.func49, Try.ntmps49
  go_wp2
  go_ret
  exact ⟨rfl, rfl⟩
set_option maxHeartbeats 1000000 in
theorem copied_cmds (v : Value) (zs : List Cmdn) (w : World) (h : layC.Row w v zs) (hl : zs.length ≤ 100000) : Calls Try.prog 50 #[v] w (GivesCopy zs.length (flatC zs) 73 w) := by
  obtain ⟨i0, hi, hz0, hz1, hz2⟩ := info_parts info_cmd
  obtain ⟨p, cap, rfl, h1, h2, h3⟩ := h
  have hsz : (Try.prog.info? 73).map (·.size) = some 3 := by rw [hi]; exact congrArg some hz1
  have hcase : (p = none ∧ zs.length = 0) ∨ ∃ ad, p = some ad ∧ ∀ j u, (flatC zs)[j]? = some u → w.cell? (ad.add j) = some u := by
    by_cases hz : zs = []
    · subst hz
      cases p with
      | none => exact .inl ⟨rfl, rfl⟩
      | some ad => exact .inr ⟨ad, rfl, fun j u hu => by simp [flatC] at hu⟩
    · obtain ⟨B, off, rfl, hc⟩ := h3 hz
      exact .inr ⟨_, rfl, srcC hc⟩
  obtain ⟨M, hM⟩ : ∃ M, M = madeCells (Value.agg #[.int .i64 0, .string ⟨#[]⟩, .float .f64 0]).cells (zs.length * 3) := ⟨_, rfl⟩
  obtain ⟨F, hF⟩ : ∃ F, F = flatC zs := ⟨_, rfl⟩
  have hcp : ∀ ty, _ := copy_eq (P := Try.prog) (T := 33) (t := 73) (c := 3) Try.underlying33 hsz w zs.length cap p (flatC zs) M (by rw [hM]; simp [madeCells]) (flatC_len zs) (flatC_one zs) hcase
  have hmk : ∀ w, (Instr.makeSlice 33 (.int .i64 (zs.length : Nat)) (.int .i64 (zs.length : Nat))).run Try.prog w = .ok (.slice (some ⟨w.heap.size, 0, none⟩) zs.length zs.length) (w.alloc (.cells M 73)) := fun w => by
    have := run_make (P := Try.prog) w 33 73 i0 _ Try.underlying33 hi hz0 .i64 .i64 zs.length zs.length (by omega) (by omega) (by rw [hz2]; omega) (by omega)
    rw [Int.toNat_natCast, hz1, ← hM] at this
    exact this
  rw [← hF] at hcp ⊢
  generalize zs.length = n at hcp hmk ⊢
  clear hM hF hcase h3 hi
  go_enter Try.func50, Try.ntmps50
  go_wp2
  go_ret
  exact ⟨rfl, rfl⟩

theorem clone_any (s : List UInt8) (w : World) (h : s.length ≤ 140737488351232) : Calls Try.prog 51 #[.string (str s)] w (RetBelow (.string (str s)) w) := by
  have HC := Lib.hid (Try.stringslite_Clone (str s) w (by rw [str_size]; omega))
  generalize str s = t at HC
  go_enter Try.func51, Try.ntmps51
  go_wp2_with (go_at_call 62; (with_reducible refine HC.out.mono ?_); rintro e w1 ⟨rfl, hb⟩; have HB := Lib.hid hb; clear hb)
  go_ret
  exact ⟨rfl, HB.out⟩
end Go.Proofs.Ytimkkelnakamkaa.Rec
