/- Whether two records are the same (layer 8, record): slices.Equal at ids, the program's Same and the document's. Conditions: the lists lie in memory as their cells say; for the document's numbers' words of 64 bits. -/
import Derived.Test.YtomidcbpnaajeaaGreatRecA
import Derived.Test.YtomidcbpnaajeaaGreatIdA
import Derived.Test.YtomidcbpnaajeaaGreatShelf
import Derived.Laws.CopyRow
import Derived.Laws.MakeOwn
import Derived.Deep.RegionWith
import Derived.Deep.LoopGhost
import Derived.Deep.DeepCutAuto
namespace Go.Proofs.YtomidcbpnaajeaaGreat.Rec
open Go.RowKit Cmd Bat Ids
set_option linter.unusedVariables false

theorem RowAt.parts {w : World} {v : Value} {zs : List Idn} (h : RowAt w v zs) : ∃ (p : Option Addr) (cap : Nat), v = .slice p zs.length cap ∧ zs.length ≤ 9223372036854775807 ∧ (zs.length = 0 ∨ ∃ B off, p = some ⟨B, off, none⟩ ∧ Hid (Row2 w B off zs)) := by
  obtain ⟨p, cap, rfl, h1, h2, -, h3⟩ := h
  refine ⟨p, cap, rfl, by omega, ?_⟩
  by_cases hz : zs = []
  · left; rw [hz]; rfl
  · right
    obtain ⟨B, off, rfl, hlt, hc⟩ := h3 hz
    exact ⟨B, off, rfl, Lib.hid ⟨hlt, fun j hj => (hc j hj).1, fun j hj => (hc j hj).2⟩⟩


def rSame (a b q : Int) (ds : List Idn) (cs : List Cmdn) (a' b' q' : Int) (ds' : List Idn) (cs' : List Cmdn) : Bool := decide ((a, b) = (a', b')) && decide (q = q') && decide (ds = ds') && bSame cs cs'
set_option maxHeartbeats 2000000 in
theorem refsame_r (a b q : Int) (v u : Value) (a' b' q' : Int) (v' u' : Value) (ds ds' : List Idn) (cs cs' : List Cmdn) (w : World) (h : RowAt w v ds) (g : layC.Row w u cs) (h' : RowAt w v' ds') (g' : layC.Row w u' cs') (hw : ∀ x ∈ cs, wfC x) (hw' : ∀ x ∈ cs', wfC x) :
    Calls Tryz.prog 19 #[.agg #[.int .i64 a, .int .i64 b, .int .i64 q, v, u], .agg #[.int .i64 a', .int .i64 b', .int .i64 q', v', u']] w (RetBelow (.bool (rSame a b q ds cs a' b' q' ds' cs')) w) := by
  have C1 : Hid (∀ W, Below w.heap.size w W → Calls Tryz.prog 37 #[v, v'] W (RetBelow (.bool (decide (ds = ds'))) W)) := Lib.hid fun W hb => (Ids.same_any v v' ds ds' W (h.on hb) (h'.on hb)).mono fun e w' h => h
  have C2 : Hid (∀ W, Below w.heap.size w W → Calls Tryz.prog 38 #[u, u'] W (RetBelow (.bool (bSame cs cs')) W)) := Lib.hid fun W hb => refbsame_any u u' cs cs' W (g.on hb) (g'.on hb) hw hw'
  have hv : ∃ p n cap, v = .slice p n cap := by obtain ⟨p, cap, e, _⟩ := h; exact ⟨p, _, cap, e⟩
  have hv' : ∃ p n cap, v' = .slice p n cap := by obtain ⟨p, cap, e, _⟩ := h'; exact ⟨p, _, cap, e⟩
  have hu : ∃ p n cap, u = .slice p n cap := by obtain ⟨p, cap, e, _⟩ := g; exact ⟨p, _, cap, e⟩
  have hu' : ∃ p n cap, u' = .slice p n cap := by obtain ⟨p, cap, e, _⟩ := g'; exact ⟨p, _, cap, e⟩
  obtain ⟨p1, n1, k1, rfl⟩ := hv
  obtain ⟨p2, n2, k2, rfl⟩ := hv'
  obtain ⟨p3, n3, k3, rfl⟩ := hu
  obtain ⟨p4, n4, k4, rfl⟩ := hu'
  have HT := Lib.hid (Two8.start 42 w a b q (.slice p1 n1 k1) (.slice p3 n3 k3) a' b' q' (.slice p2 n2 k2) (.slice p4 n4 k4))
  unfold cellsR at HT
  have HE : Hid (rSame a b q ds cs a' b' q' ds' cs' = (decide ((a, b) = (a', b')) && decide (q = q') && decide (ds = ds') && bSame cs cs')) := Lib.hid rfl
  have hi : ∀ w, (binOp .eql 32 (.agg #[.int .i64 a, .int .i64 b]) (.agg #[.int .i64 a', .int .i64 b'])).run Tryz.prog w = .ok (.bool (decide ((a, b) = (a', b')))) w := fun w => by
    rw [eql_id, show (a == a' && b == b') = decide ((a, b) = (a', b')) by rw [Bool.eq_iff_iff]; simp]
  have hq : (q == q') = decide (q = q') := by rw [Bool.eq_iff_iff]; simp
  generalize decide ((a, b) = (a', b')) = x1 at hi HE
  generalize decide (q = q') = x2 at hq HE
  generalize decide (ds = ds') = x3 at C1 HE
  generalize bSame cs cs' = x4 at C2 HE
  generalize rSame a b q ds cs a' b' q' ds' cs' = r at HE
  have HC1 := Lib.hid (C1.out _ HT.out.a.below)
  clear h g h' g' hw hw'
  cases x1
  · go_enter Tryz.func19, Tryz.ntmps19
    go_wp2
    go_ret
    exact ⟨ret_bool (by rw [HE.out]; rfl), HT.out.a.below⟩
  · cases x2
    · go_enter Tryz.func19, Tryz.ntmps19
      go_wp2
      go_ret
      exact ⟨ret_bool (by rw [HE.out]; rfl), HT.out.a.below⟩
    · cases x3
      · go_enter Tryz.func19, Tryz.ntmps19
        go_wp2_with (first
          | (go_at_call 37; (with_reducible refine HC1.out.mono ?_); rintro e w1 ⟨rfl, hb⟩; have H1 := Lib.hid (HT.out.on hb); clear hb))
        go_ret
        exact ⟨ret_bool (by rw [HE.out]; rfl), H1.out.a.below⟩
      · go_enter Tryz.func19, Tryz.ntmps19
        go_wp2_with (first
          | (go_at_call 37; (with_reducible refine HC1.out.mono ?_); rintro e w1 ⟨rfl, hb⟩; have H1 := Lib.hid (HT.out.on hb); clear hb; have q4 := H1.out.a.c4; have q5 := H1.out.b.c4; have HC2 := Lib.hid (C2.out _ H1.out.a.below))
          | (go_at_call 38; (with_reducible refine HC2.out.mono ?_); rintro e w2 ⟨rfl, hb⟩; have H2 := Lib.hid (H1.out.on hb); clear hb))
        go_ret
        exact ⟨ret_bool (by rw [HE.out]; rfl), H2.out.a.below⟩
theorem rsame_self (a b q : Int) (ds : List Idn) (cs : List Cmdn) : rSame a b q ds cs a b q ds cs = true := by
  unfold rSame
  rw [decide_eq_true rfl, decide_eq_true rfl, decide_eq_true rfl, bsame_yes rfl fun j hj => by unfold Bat.same cSame; simp [same]]
  rfl
end Go.Proofs.YtomidcbpnaajeaaGreat.Rec

/- Lists copied (layer 8, record): make and copy at ids and at commands; strings.Clone. Conditions: the lists lie in memory as their cells say, and are not longer than 100000. -/
namespace Go.Proofs.YtomidcbpnaajeaaGreat.Rec
open Go.RowKit Cmd Bat Ids
set_option linter.unusedVariables false

/-! ### copy at elements of whatever size -/
section
variable {P : Program}
theorem run_copy_wide (w : World) (dT sT ty elem : TypeId) (g dLen dCap : Nat) (a : Addr) (sLen sCap : Nat) (cur : Array Value) (t : TypeId) (cs : List Value) (c : Nat)
    (hu : P.underlying dT = some (.slice elem)) (hs : (P.info? elem).map (·.size) = some c) (hg : w.heap[g]? = some (.cells cur t (0, 0))) (hn : cs.length = Nat.min sLen dLen * c)
    (hsrc : ∀ j v, cs[j]? = some v → w.cell? (a.add j) = some v) (hfit : cs.length ≤ cur.size) (h1 : ∀ v ∈ cs, v.oneCell' = true) :
    (Builtin.copy_ #[dT, sT] ty #[.slice (some ⟨g, 0, none⟩) dLen dCap, .slice (some a) sLen sCap]).run P w =
      .ok (goInt (Nat.min sLen dLen)) (w.setRow g (cs ++ cur.toList.drop cs.length).toArray) := by
  have hl := run_loadCells_list (P := P) w a cs hsrc
  have hst := run_storeCells_at P g 0 t cs 0 cur w hg (by simpa using hfit) h1
  simp only [Nat.zero_add, Nat.add_zero, List.take_zero, List.nil_append] at hst
  cases hq : P.info? elem with
  | none => simp [hq] at hs
  | some i =>
    have hi : i.size = c := by simpa [hq] using hs
    rw [hn] at hl
    simp only [Builtin.copy_, Builtin.lenOf, Builtin.firstCells, sizeOf, typeInfo]
    simp [run_underlying hu, hq, hi, hl, hst]
theorem run_copy_void (w : World) (dT sT ty elem : TypeId) (g dCap sCap : Nat) (c : Nat)
    (hu : P.underlying dT = some (.slice elem)) (hs : (P.info? elem).map (·.size) = some c) :
    (Builtin.copy_ #[dT, sT] ty #[.slice (some ⟨g, 0, none⟩) 0 dCap, .slice none 0 sCap]).run P w = .ok (goInt 0) w := by
  cases hq : P.info? elem with
  | none => simp [hq] at hs
  | some i => simp [Builtin.copy_, run_underlying hu, Builtin.lenOf, Builtin.firstCells, sizeOf, typeInfo, hq, storeCells]
theorem push_modify (a : Array Obj) (x : Obj) (f : Obj → Obj) : (a.push x).modify a.size f = a.push (f x) := by
  apply Array.ext
  · simp
  · intro i h1 h2
    rw [Array.getElem_modify, Array.getElem_push, Array.getElem_push]
    by_cases h : i < a.size
    · rw [if_neg (by omega), dif_pos h, dif_pos h]
    · have : i = a.size := by simp at h1; omega
      rw [if_pos this.symm, dif_neg h, dif_neg h]
theorem setRow_new (w : World) (cur cs : Array Value) (t : TypeId) : (w.alloc (.cells cur t)).setRow w.heap.size cs = w.alloc (.cells cs t) := by
  show ({ (w.alloc (.cells cur t)) with heap := (w.heap.push (.cells cur t)).modify w.heap.size _ } : World) = { w with heap := w.heap.push (.cells cs t) }
  rw [push_modify]
  rfl
end

/-! ### The cells of a list of commands -/
def cellsC (x : Cmdn) : List Value := [.int .i64 x.1, .string (str x.2.1), .float .f64 x.2.2]
def flatC (cs : List Cmdn) : List Value := cs.flatMap cellsC
theorem flatC_len : ∀ cs : List Cmdn, (flatC cs).length = cs.length * 3
  | [] => rfl
  | x :: t => by
    have := flatC_len t
    unfold flatC at *
    rw [List.flatMap_cons, List.length_append, this, List.length_cons]
    show 3 + _ = _
    omega
theorem flatC_at : ∀ (cs : List Cmdn) (j : Nat), j < cs.length → (flatC cs)[j * 3]? = some (.int .i64 (layC.at cs j).1) ∧ (flatC cs)[j * 3 + 1]? = some (.string (str (layC.at cs j).2.1)) ∧ (flatC cs)[j * 3 + 2]? = some (.float .f64 (layC.at cs j).2.2)
  | x :: t, 0, _ => ⟨rfl, rfl, rfl⟩
  | x :: t, j + 1, h => by
    have ih := flatC_at t j (by simpa using h)
    have e : flatC (x :: t) = .int .i64 x.1 :: .string (str x.2.1) :: .float .f64 x.2.2 :: flatC t := rfl
    have e2 : layC.at (x :: t) (j + 1) = layC.at t j := by unfold Lay.at; rw [List.getD_cons_succ]
    rw [e, e2, show (j + 1) * 3 = j * 3 + 3 by omega, show j * 3 + 3 + 1 = j * 3 + 1 + 3 by omega, show j * 3 + 3 + 2 = j * 3 + 2 + 3 by omega]
    exact ih
theorem flatC_one (cs : List Cmdn) : ∀ u ∈ flatC cs, u.oneCell' = true := fun u hu => by
  unfold flatC at hu
  rw [List.mem_flatMap] at hu
  obtain ⟨x, _, hx⟩ := hu
  simp [cellsC] at hx
  rcases hx with rfl | rfl | rfl <;> rfl
theorem flatI_one (zs : List Idn) : ∀ u ∈ flat zs, u.oneCell' = true := fun u hu => by
  unfold flat at hu
  rw [List.mem_flatMap] at hu
  obtain ⟨x, _, hx⟩ := hu
  simp [ids] at hx
  rcases hx with rfl | rfl <;> rfl
theorem srcC {w : World} {B off : Nat} {cs : List Cmdn} (h : layC.In w B off cs) : ∀ j u, (flatC cs)[j]? = some u → w.cell? ((⟨B, off, none⟩ : Addr).add j) = some u := fun j u hu => by
  have hj : j / 3 < cs.length := by
    have := (List.getElem?_eq_some_iff.1 hu).1
    rw [flatC_len] at this; omega
  have h4 := h.cell _ hj
  have h5 := flatC_at cs _ hj
  rw [Addr.add_lit]
  have hm : j % 3 = 0 ∨ j % 3 = 1 ∨ j % 3 = 2 := by omega
  change w.cell? ⟨B, off + j / 3 * 3, none⟩ = _ ∧ w.cell? ⟨B, off + j / 3 * 3 + 1, none⟩ = _ ∧ w.cell? ⟨B, off + j / 3 * 3 + 2, none⟩ = _ at h4
  rcases hm with h2 | h2 | h2
  · have e : j / 3 * 3 = j := by omega
    rw [e] at h4 h5
    rw [h5.1] at hu
    rw [h4.1, ← hu]
  · have e : j / 3 * 3 + 1 = j := by omega
    rw [Nat.add_assoc off, e] at h4
    rw [e] at h5
    rw [h5.2.1] at hu
    rw [h4.2.1, ← hu]
  · have e : j / 3 * 3 + 2 = j := by omega
    rw [Nat.add_assoc off _ 2, e] at h4
    rw [e] at h5
    rw [h5.2.2] at hu
    rw [h4.2.2, ← hu]
theorem srcI {w : World} {B off : Nat} {zs : List Idn} (h : Row2 w B off zs) : ∀ j u, (flat zs)[j]? = some u → w.cell? ((⟨B, off, none⟩ : Addr).add j) = some u := fun j u hu => by
  have hj : j / 2 < zs.length := by
    have := (List.getElem?_eq_some_iff.1 hu).1
    rw [flat_len] at this; omega
  have h4 := h.fst _ hj
  have h4' := h.snd _ hj
  have h5 := flat_at zs _ hj
  rw [Addr.add_lit]
  rcases Nat.mod_two_eq_zero_or_one j with h2 | h2
  · have e : j / 2 * 2 = j := by omega
    rw [e] at h4 h5
    rw [h5.1] at hu
    rw [h4, ← hu]
  · have e : j / 2 * 2 + 1 = j := by omega
    rw [Nat.add_assoc, e] at h4'
    rw [e] at h5
    rw [h5.2] at hu
    rw [h4', ← hu]

/-! ### copied -/
theorem info_cmd : (Tryz.prog.info? 55).map (fun i => (i.zero, i.size, i.bytes)) = some (some (.agg #[.int .i64 0, .string ⟨#[]⟩, .float .f64 0]), 3, 32) := by kernel_rfl
/-- A row in one new block, and nothing else. -/
def GivesCopy (n : Nat) (fl : List Value) (t : TypeId) (w : World) (e : Ending) (w' : World) : Prop := e = .returned (.slice (some ⟨w.heap.size, 0, none⟩) n n) ∧ w' = w.alloc (.cells fl.toArray t)
theorem copy_eq {P : Program} {T t : TypeId} {c : Nat} (hu : P.underlying T = some (.slice t)) (hs : (P.info? t).map (·.size) = some c) (w : World) (n cap : Nat) (p : Option Addr) (fl : List Value) (M : Array Value) (hM : M.size = n * c) (hf : fl.length = n * c) (hone : ∀ u ∈ fl, u.oneCell' = true)
    (h : (p = none ∧ n = 0) ∨ ∃ ad, p = some ad ∧ ∀ j u, fl[j]? = some u → w.cell? (ad.add j) = some u) (ty : TypeId) :
    (Builtin.copy_ #[T, T] ty #[.slice (some ⟨w.heap.size, 0, none⟩) n n, .slice p n cap]).run P (w.alloc (.cells M t)) = .ok (goInt n) (w.alloc (.cells fl.toArray t)) := by
  rcases h with ⟨rfl, rfl⟩ | ⟨ad, rfl, hsrc⟩
  · have e1 : fl = [] := List.eq_nil_of_length_eq_zero (by omega)
    have e2 : M = #[] := Array.eq_empty_of_size_eq_zero (by omega)
    subst e1; subst e2
    exact run_copy_void _ T T ty t w.heap.size 0 cap c hu hs
  · have hm : Nat.min n n = n := Nat.min_self n
    have := run_copy_wide (P := P) (w.alloc (.cells M t)) T T ty t w.heap.size n n ad n cap M t fl c hu hs (heap_alloc_new w _) (by rw [hm]; exact hf)
      (fun j u hj => (World.cell?_alloc_some w (ad.add j) _ (by rw [hsrc j u hj]; rfl)).trans (hsrc j u hj)) (by omega) hone
    rw [this, hm, setRow_new]
    have e : M.toList.drop fl.length = [] := List.drop_eq_nil_of_le (by simp; omega)
    rw [e, List.append_nil]
set_option maxHeartbeats 1000000 in
theorem copied_ids (v : Value) (zs : List Idn) (w : World) (h : RowAt w v zs) (hl : zs.length ≤ 100000) : Calls Tryz.prog 65 #[v] w (GivesCopy zs.length (flat zs) 32 w) := by
  obtain ⟨i0, hi, hz0, hz1, hz2⟩ := info_parts info_id
  obtain ⟨p, cap, rfl, h1, h2, -, h3⟩ := h
  have hsz : (Tryz.prog.info? 32).map (·.size) = some 2 := by rw [hi]; exact congrArg some hz1
  have hcase : (p = none ∧ zs.length = 0) ∨ ∃ ad, p = some ad ∧ ∀ j u, (flat zs)[j]? = some u → w.cell? (ad.add j) = some u := by
    by_cases hz : zs = []
    · subst hz
      cases p with
      | none => exact .inl ⟨rfl, rfl⟩
      | some ad => exact .inr ⟨ad, rfl, fun j u hu => by simp [flat] at hu⟩
    · obtain ⟨B, off, rfl, hlt, hc⟩ := h3 hz
      exact .inr ⟨_, rfl, srcI ⟨hlt, fun j hj => (hc j hj).1, fun j hj => (hc j hj).2⟩⟩
  obtain ⟨M, hM⟩ : ∃ M, M = madeCells (Value.agg #[.int .i64 0, .int .i64 0]).cells (zs.length * 2) := ⟨_, rfl⟩
  obtain ⟨F, hF⟩ : ∃ F, F = flat zs := ⟨_, rfl⟩
  have hcp : ∀ ty, _ := copy_eq (P := Tryz.prog) (T := 23) (t := 32) (c := 2) Tryz.underlying23 hsz w zs.length cap p (flat zs) M (by rw [hM]; simp [madeCells]) (flat_len zs) (flatI_one zs) hcase
  have hmk : ∀ w, (Instr.makeSlice 23 (.int .i64 (zs.length : Nat)) (.int .i64 (zs.length : Nat))).run Tryz.prog w = .ok (.slice (some ⟨w.heap.size, 0, none⟩) zs.length zs.length) (w.alloc (.cells M 32)) := fun w => by
    have := run_make (P := Tryz.prog) w 23 32 i0 _ Tryz.underlying23 hi hz0 .i64 .i64 zs.length zs.length (by omega) (by omega) (by rw [hz2]; omega) (by omega)
    rw [Int.toNat_natCast, hz1, ← hM] at this
    exact this
  rw [← hF] at hcp ⊢
  generalize zs.length = n at hcp hmk ⊢
  clear hM hF hcase h3 hi
  go_enter Tryz.func65, Tryz.ntmps65
  go_wp2
  go_ret
  exact ⟨rfl, rfl⟩
set_option maxHeartbeats 1000000 in
theorem copied_cmds (v : Value) (zs : List Cmdn) (w : World) (h : layC.Row w v zs) (hl : zs.length ≤ 100000) : Calls Tryz.prog 66 #[v] w (GivesCopy zs.length (flatC zs) 55 w) := by
  obtain ⟨i0, hi, hz0, hz1, hz2⟩ := info_parts info_cmd
  obtain ⟨p, cap, rfl, h1, h2, h3⟩ := h
  have hsz : (Tryz.prog.info? 55).map (·.size) = some 3 := by rw [hi]; exact congrArg some hz1
  have hcase : (p = none ∧ zs.length = 0) ∨ ∃ ad, p = some ad ∧ ∀ j u, (flatC zs)[j]? = some u → w.cell? (ad.add j) = some u := by
    by_cases hz : zs = []
    · subst hz
      cases p with
      | none => exact .inl ⟨rfl, rfl⟩
      | some ad => exact .inr ⟨ad, rfl, fun j u hu => by simp [flatC] at hu⟩
    · obtain ⟨B, off, rfl, hc⟩ := h3 hz
      exact .inr ⟨_, rfl, srcC hc⟩
  obtain ⟨M, hM⟩ : ∃ M, M = madeCells (Value.agg #[.int .i64 0, .string ⟨#[]⟩, .float .f64 0]).cells (zs.length * 3) := ⟨_, rfl⟩
  obtain ⟨F, hF⟩ : ∃ F, F = flatC zs := ⟨_, rfl⟩
  have hcp : ∀ ty, _ := copy_eq (P := Tryz.prog) (T := 40) (t := 55) (c := 3) Tryz.underlying40 hsz w zs.length cap p (flatC zs) M (by rw [hM]; simp [madeCells]) (flatC_len zs) (flatC_one zs) hcase
  have hmk : ∀ w, (Instr.makeSlice 40 (.int .i64 (zs.length : Nat)) (.int .i64 (zs.length : Nat))).run Tryz.prog w = .ok (.slice (some ⟨w.heap.size, 0, none⟩) zs.length zs.length) (w.alloc (.cells M 55)) := fun w => by
    have := run_make (P := Tryz.prog) w 40 55 i0 _ Tryz.underlying40 hi hz0 .i64 .i64 zs.length zs.length (by omega) (by omega) (by rw [hz2]; omega) (by omega)
    rw [Int.toNat_natCast, hz1, ← hM] at this
    exact this
  rw [← hF] at hcp ⊢
  generalize zs.length = n at hcp hmk ⊢
  clear hM hF hcase h3 hi
  go_enter Tryz.func66, Tryz.ntmps66
  go_wp2
  go_ret
  exact ⟨rfl, rfl⟩

theorem clone_any (s : List UInt8) (w : World) (h : s.length ≤ 140737488351232) : Calls Tryz.prog 67 #[.string (str s)] w (RetBelow (.string (str s)) w) := by
  have HC := Lib.hid (Tryz.stringslite_Clone (str s) w (by rw [str_size]; omega))
  generalize str s = t at HC
  go_enter Tryz.func67, Tryz.ntmps67
  go_wp2_with (go_at_call 83; (with_reducible refine HC.out.mono ?_); rintro e w1 ⟨rfl, hb⟩; have HB := Lib.hid hb; clear hb)
  go_ret
  exact ⟨rfl, HB.out⟩
end Go.Proofs.YtomidcbpnaajeaaGreat.Rec

/- What Copy gives (layer 8, record): the same record, its lists in new memory. Conditions: the lists lie in memory as their cells say, and are not longer than 100000; texts of a length that Go makes. -/
namespace Go.Proofs.YtomidcbpnaajeaaGreat.Rec
open Go.RowKit Cmd Bat Ids
set_option linter.unusedVariables false

theorem setCell_same {w : World} {g i : Nat} {cur : Array Value} {t : TypeId} {fr : Nat × Nat} {v : Value} (hg : w.heap[g]? = some (.cells cur t fr)) (hc : cur[i]? = some v) : w.setCell ⟨g, i, none⟩ v = w := by
  rw [setCell_eq_setRow w g i cur t fr v hg]
  obtain ⟨hi, e⟩ := Array.getElem?_eq_some_iff.1 hc
  have : cur.setIfInBounds i v = cur := by
    apply Array.ext
    · simp
    · intro j h1 h2
      rw [Array.getElem_setIfInBounds]
      split
      · subst_vars; rfl
      · rfl
  rw [this, setRow_self w g cur t fr hg]
theorem cell_row {w : World} {g i : Nat} {cur : Array Value} {t : TypeId} {v : Value} (hg : w.heap[g]? = some (.cells cur t (0, 0))) (hc : cur[i]? = some v) : w.cell? ⟨g, i, none⟩ = some v := by
  simp [World.cell?, hg, hc]
theorem free_row {w : World} {g i : Nat} {cur : Array Value} {t : TypeId} (hg : w.heap[g]? = some (.cells cur t (0, 0))) : w.frozen? ⟨g, i, none⟩ = false := by
  simp [World.frozen?, hg]

/-- What Copy's call has, once its lists are copied. -/
structure CopyAt (w : World) (a b q : Int) (n m : Nat) (F G : Array Value) (W : World) : Prop where
  box : BoxR w w.heap.size a b q (.slice (some ⟨w.heap.size + 1 + 1, 0, none⟩) n n) (.slice (some ⟨w.heap.size + 1 + 1 + 1, 0, none⟩) m m) W
  lt : w.heap.size + 1 + 1 + 1 < W.heap.size
  res : W.heap[w.heap.size + 1]? = some (.cells #[.int .i64 0, .int .i64 0, .int .i64 0, .slice none 0 0, .slice none 0 0] 42 (0, 0))
  row : W.heap[w.heap.size + 1 + 1]? = some (.cells F 32 (0, 0))
  row' : W.heap[w.heap.size + 1 + 1 + 1]? = some (.cells G 55 (0, 0))
theorem CopyAt.on {w W W' : World} {a b q : Int} {n m : Nat} {F G : Array Value} (h : CopyAt w a b q n m F G W) (hb : Below W.heap.size W W') : CopyAt w a b q n m F G W' :=
  ⟨h.box.on hb, Nat.lt_of_lt_of_le h.lt hb.size, (hb.block _ (by have := h.lt; omega)).trans h.res, (hb.block _ (by have := h.lt; omega)).trans h.row, (hb.block _ h.lt).trans h.row'⟩
theorem CopyAt.start (w : World) (a b q : Int) (n m : Nat) (F G : Array Value) :
    CopyAt w a b q n m F G ((((w.alloc (.cells #[.int .i64 a, .int .i64 b, .int .i64 q, .slice (some ⟨w.heap.size + 1 + 1, 0, none⟩) n n, .slice (some ⟨w.heap.size + 1 + 1 + 1, 0, none⟩) m m] 42)).alloc (.cells #[.int .i64 0, .int .i64 0, .int .i64 0, .slice none 0 0, .slice none 0 0] 42)).alloc (.cells F 32)).alloc (.cells G 55)).drew := by
  have h0 := BoxR.start 42 w a b q (.slice (some ⟨w.heap.size + 1 + 1, 0, none⟩) n n) (.slice (some ⟨w.heap.size + 1 + 1 + 1, 0, none⟩) m m)
  have h1 := ((h0.on (Cmd.below_one _ (.cells #[.int .i64 0, .int .i64 0, .int .i64 0, .slice none 0 0, .slice none 0 0] 42))).on (Cmd.below_one _ (.cells F 32))).on (Cmd.below_one _ (.cells G 55))
  unfold cellsR at h1
  have s1 : (w.alloc (.cells #[.int .i64 a, .int .i64 b, .int .i64 q, .slice (some ⟨w.heap.size + 1 + 1, 0, none⟩) n n, .slice (some ⟨w.heap.size + 1 + 1 + 1, 0, none⟩) m m] 42)).heap.size = w.heap.size + 1 := by simp
  generalize w.alloc (.cells #[.int .i64 a, .int .i64 b, .int .i64 q, .slice (some ⟨w.heap.size + 1 + 1, 0, none⟩) n n, .slice (some ⟨w.heap.size + 1 + 1 + 1, 0, none⟩) m m] 42) = W1 at s1 h1
  have e2 := heap_alloc_new W1 (.cells #[.int .i64 0, .int .i64 0, .int .i64 0, .slice none 0 0, .slice none 0 0] 42)
  have s2 : (W1.alloc (.cells #[.int .i64 0, .int .i64 0, .int .i64 0, .slice none 0 0, .slice none 0 0] 42)).heap.size = w.heap.size + 1 + 1 := by simp [s1]
  rw [s1] at e2
  generalize W1.alloc (.cells #[.int .i64 0, .int .i64 0, .int .i64 0, .slice none 0 0, .slice none 0 0] 42) = W2 at s2 e2 h1
  have e3 := heap_alloc_new W2 (.cells F 32)
  have f2 := (Below.heap_alloc W2 (.cells F 32) (w.heap.size + 1) (by omega)).trans e2
  have s3 : (W2.alloc (.cells F 32)).heap.size = w.heap.size + 1 + 1 + 1 := by simp [s2]
  rw [s2] at e3
  generalize W2.alloc (.cells F 32) = W3 at s3 e3 f2 h1
  have e4 := heap_alloc_new W3 (.cells G 55)
  have g2 := (Below.heap_alloc W3 (.cells G 55) (w.heap.size + 1) (by omega)).trans f2
  have g3 := (Below.heap_alloc W3 (.cells G 55) (w.heap.size + 1 + 1) (by omega)).trans e3
  have s4 : (W3.alloc (.cells G 55)).heap.size = w.heap.size + 1 + 1 + 1 + 1 := by simp [s3]
  rw [s3] at e4
  exact ⟨h1.on (Below.refl _ _).drew, by show _ < (W3.alloc _).heap.size; rw [s4]; omega, g2, g3, e4⟩
/-- The answer, in the result's box. -/
def put5 (W : World) (g : Nat) (a b q : Int) (v u : Value) : World := ((((W.setCell ⟨g, 0, none⟩ (.int .i64 a)).setCell ⟨g, 1, none⟩ (.int .i64 b)).setCell ⟨g, 2, none⟩ (.int .i64 q)).setCell ⟨g, 3, none⟩ v).setCell ⟨g, 4, none⟩ u

theorem heap_set {W : World} {g : Nat} {cur : Array Value} {t : TypeId} {fr : Nat × Nat} (hg : W.heap[g]? = some (.cells cur t fr)) (i : Nat) (v : Value) : (W.setCell ⟨g, i, none⟩ v).heap[g]? = some (.cells (cur.setIfInBounds i v) t fr) := by
  rw [setCell_eq_setRow W g i cur t fr v hg]; exact setRow_heap W g cur _ t fr hg
theorem put5_row {W : World} {g : Nat} {x0 x1 x2 x3 x4 : Value} {t : TypeId} (hg : W.heap[g]? = some (.cells #[x0, x1, x2, x3, x4] t (0, 0))) (a b q : Int) (v u : Value) : (put5 W g a b q v u).heap[g]? = some (.cells #[.int .i64 a, .int .i64 b, .int .i64 q, v, u] t (0, 0)) :=
  heap_set (heap_set (heap_set (heap_set (heap_set hg 0 (.int .i64 a)) 1 (.int .i64 b)) 2 (.int .i64 q)) 3 v) 4 u
theorem put5_far (W : World) {g k : Nat} (h : k ≠ g) (a b q : Int) (v u : Value) : (put5 W g a b q v u).heap[k]? = W.heap[k]? := by
  unfold put5
  rw [Below.heap_setCell _ _ _ _ h, Below.heap_setCell _ _ _ _ h, Below.heap_setCell _ _ _ _ h, Below.heap_setCell _ _ _ _ h, Below.heap_setCell _ _ _ _ h]
theorem below_put5 {B : Nat} {a0 W : World} (h : Below B a0 W) {g : Nat} (hg : B ≤ g) (a b q : Int) (v u : Value) : Below B a0 (put5 W g a b q v u) :=
  ((((h.setCell (p := ⟨g, 0, none⟩) hg _).setCell (p := ⟨g, 1, none⟩) hg _).setCell (p := ⟨g, 2, none⟩) hg _).setCell (p := ⟨g, 3, none⟩) hg _).setCell (p := ⟨g, 4, none⟩) hg _
theorem results_cell_one {fn : Func} {p : Tmp} {ty : TypeId} (h : fn.results = #[.cell p ty]) (tmps : Array Value) (P : Program) (w : World) :
    (results fn tmps).run P w = ((asAddr (tmps.getD p undef)).run P w).andThen fun a w₁ => (loadVar ty a).run P w₁ := by
  simp only [results, h]
  simp [Sem.run_bind, Result.andThen]
theorem rec_one {fn : Func} {p : Tmp} (h : fn.results = #[.cell p 42]) (tmps : Array Value) {W : World} {g : Nat} {a b q : Int} {p1 p2 : Option Addr} {n1 c1 n2 c2 : Nat} (hp : tmps.getD p undef = .pointer (some ⟨g, 0, none⟩))
    (hg : W.heap[g]? = some (.cells #[.int .i64 a, .int .i64 b, .int .i64 q, .slice p1 n1 c1, .slice p2 n2 c2] 42 (0, 0))) :
    (results fn tmps).run Tryz.prog W = .ok (.agg #[.int .i64 a, .int .i64 b, .int .i64 q, .slice p1 n1 c1, .slice p2 n2 c2]) W := by
  have e0 := cell_row (i := 0) hg rfl
  have e1 := cell_row (i := 1) hg rfl
  have e2 := cell_row (i := 2) hg rfl
  have e3 := cell_row (i := 3) hg rfl
  have e4 := cell_row (i := 4) hg rfl
  clear hg
  rw [results_cell_one h, hp]
  go_simp
/-- What Copy leaves: the lists, each in a block of its own, new. -/
structure CopyIs (ds : List Idn) (cs : List Cmdn) (w : World) (g h : Nat) (w' : World) : Prop where
  row : w'.heap[g]? = some (.cells (flat ds).toArray 32 (0, 0))
  row' : w'.heap[h]? = some (.cells (flatC cs).toArray 55 (0, 0))
  own : w.heap.size ≤ g
  own' : w.heap.size ≤ h
  below : Below w.heap.size w w'
def GivesRec (a b q : Int) (ds : List Idn) (cs : List Cmdn) (w : World) (e : Ending) (w' : World) : Prop :=
  ∃ g h, e = .returned (.agg #[.int .i64 a, .int .i64 b, .int .i64 q, .slice (some ⟨g, 0, none⟩) ds.length ds.length, .slice (some ⟨h, 0, none⟩) cs.length cs.length]) ∧ CopyIs ds cs w g h w'

set_option maxHeartbeats 4000000 in
theorem copy_any (a b q : Int) (v u : Value) (ds : List Idn) (cs : List Cmdn) (w : World) (h : RowAt w v ds) (g : layC.Row w u cs) (hl : ds.length ≤ 100000) (hl' : cs.length ≤ 100000) (hw : ∀ x ∈ cs, wfC x) :
    Calls Tryz.prog 44 #[.agg #[.int .i64 a, .int .i64 b, .int .i64 q, v, u]] w (GivesRec a b q ds cs w) := by
  have C1 := Lib.hid (fun W (hb : Below w.heap.size w W) => copied_ids v ds W (h.on hb) hl)
  have C2 := Lib.hid (fun W (hb : Below w.heap.size w W) => copied_cmds u cs W (g.on hb) hl')
  have hv : ∃ p cap, v = .slice p ds.length cap := by obtain ⟨p, cap, e, _⟩ := h; exact ⟨p, cap, e⟩
  have hu : ∃ p cap, u = .slice p cs.length cap := by obtain ⟨p, cap, e, _⟩ := g; exact ⟨p, cap, e⟩
  obtain ⟨p, k, rfl⟩ := hv
  obtain ⟨p', k', rfl⟩ := hu
  obtain ⟨F, hF⟩ : ∃ F, F = (flat ds).toArray := ⟨_, rfl⟩
  obtain ⟨G, hG⟩ : ∃ G, G = (flatC cs).toArray := ⟨_, rfl⟩
  unfold GivesCopy at C1 C2
  rw [← hF] at C1
  rw [← hG] at C2
  have HF := Lib.hid hF
  have HG := Lib.hid hG
  obtain ⟨n, hn⟩ : ∃ n, n = ds.length := ⟨_, rfl⟩
  obtain ⟨m, hm⟩ : ∃ m, m = cs.length := ⟨_, rfl⟩
  rw [← hn] at C1 hl ⊢
  rw [← hm] at C2 hl' ⊢
  have HN := Lib.hid hn
  have HM := Lib.hid hm
  clear hF hG hn hm
  have B2 : Below w.heap.size w ((w.alloc (.cells #[.int .i64 a, .int .i64 b, .int .i64 q, .slice p n k, .slice p' m k'] 42)).alloc (.cells #[.int .i64 0, .int .i64 0, .int .i64 0, .slice none 0 0, .slice none 0 0] 42)) := (Cmd.below_one _ _).trans ((Cmd.below_one _ _).mono (by simp))
  have Q1 := Lib.hid (C1.out _ B2.drew)
  have Q2 := Lib.hid (C2.out _ (B2.trans ((Cmd.below_one _ (.cells F 32)).mono B2.size)).drew)
  clear B2 C1 C2
  go_enter Tryz.func44, Tryz.ntmps44
  go_upto_region 1 with fail
  go_cut [] (fun wc => Hid (CopyAt w a b q n m F G wc))
  case first =>
    go_region_with (first
      | (go_at_call 65; (with_reducible refine Q1.out.mono ?_); rintro e w1 ⟨rfl, rfl⟩)
      | (go_at_call 66; (with_reducible refine Q2.out.mono ?_); rintro e w2 ⟨rfl, rfl⟩))
    all_goals
      go_wp2_with fail
      go_meet
      exact Lib.hid (CopyAt.start _ _ _ _ _ _ _ _)
  case rest =>
    have HC : Hid (∀ j, j < m → ∃ s : List UInt8, s.length ≤ 140737488351232 ∧ G[j * 3 + 1]? = some (.string (str s))) := Lib.hid fun j hj => by
      have hjl : j < cs.length := by rw [← HM.out]; exact hj
      refine ⟨(layC.at cs j).2.1, (hw _ (layC.at_mem hjl)).2, ?_⟩
      have := (flatC_at cs j hjl).2.1
      rw [HG.out]
      simpa using this
    clear h g hw
    have c4 := hcut.out.box.c4
    go_wp2
    go_loopw [15] (fun i wr => ∃ j : Nat, j ≤ m ∧ i = .int .i64 j ∧ Hid (CopyAt w a b q n m F G wr)) (fun i _ => m - (intOf i).toNat)
    case atStart => exact ⟨0, Nat.zero_le _, rfl, hcut⟩
    case round =>
      obtain ⟨j, hj, rfl, hat⟩ := hrel
      by_cases hjm : j < m
      · obtain ⟨s, hs, hsG⟩ := HC.out j hjm
        have c4 := hat.out.box.c4
        have k1 := cell_row hat.out.row' hsG
        have j0 : (0 : Int) ≤ j := by omega
        have jm : (j : Int) < m := by omega
        have HQ : Hid (∀ W, Calls Tryz.prog 67 #[.string (str s)] W (RetBelow (.string (str s)) W)) := Lib.hid fun W => clone_any s W hs
        have HT : Hid (∀ W, Below wr.heap.size wr W → CopyAt w a b q n m F G W) := Lib.hid fun W hb => hat.out.on hb
        have HS : Hid (∀ W, CopyAt w a b q n m F G W → W.cell? ⟨w.heap.size, 4, none⟩ = some (.slice (some ⟨w.heap.size + 1 + 1 + 1, 0, none⟩) m m) ∧ W.cell? ⟨w.heap.size + 1 + 1 + 1, j * 3 + 1, none⟩ = some (.string (str s)) ∧ W.frozen? ⟨w.heap.size + 1 + 1 + 1, j * 3 + 1, none⟩ = false ∧ W.setCell ⟨w.heap.size + 1 + 1 + 1, j * 3 + 1, none⟩ (.string (str s)) = W) :=
          Lib.hid fun W h => ⟨h.box.c4, cell_row h.row' hsG, free_row h.row', setCell_same h.row' hsG⟩
        clear hsG hs
        go_wp2
        go_region_with (first
          | (go_at_call 67; (with_reducible refine (HQ.out _).mono ?_); rintro e w1 ⟨rfl, hb⟩; have HB1 := Lib.hid (HT.out _ (below_via (Below.refl _ _) hb rfl rfl rfl rfl (Nat.le_refl _))); clear hb; obtain ⟨d0, d1, d2, d3⟩ := HS.out _ HB1.out))
        all_goals
          go_wp2
          go_roundw
          case rel => exact ⟨j + 1, by omega, by go_num, HB1⟩
          case measure => simp [intOf]; omega
      · have jm : ¬ (j : Int) < m := by omega
        have c0 := hat.out.box.c0
        have c1 := hat.out.box.c1
        have c2 := hat.out.box.c2
        have c3 := hat.out.box.c3
        have c4 := hat.out.box.c4
        have r0 := cell_row (i := 0) hat.out.res rfl
        have r1 := cell_row (i := 1) hat.out.res rfl
        have r2 := cell_row (i := 2) hat.out.res rfl
        have r3 := cell_row (i := 3) hat.out.res rfl
        have r4 := cell_row (i := 4) hat.out.res rfl
        have f0 := free_row (i := 0) hat.out.res
        have f1 := free_row (i := 1) hat.out.res
        have f2 := free_row (i := 2) hat.out.res
        have f3 := free_row (i := 3) hat.out.res
        have f4 := free_row (i := 4) hat.out.res
        clear HC
        go_wp2
        (try simp only [Exit.inBlock, Exit.then])
        have HF5 := put5_row hat.out.res a b q (.slice (some ⟨w.heap.size + 1 + 1, 0, none⟩) n n) (.slice (some ⟨w.heap.size + 1 + 1 + 1, 0, none⟩) m m)
        refine bodyPost_ret (v := .agg #[.int .i64 a, .int .i64 b, .int .i64 q, .slice (some ⟨w.heap.size + 1 + 1, 0, none⟩) n n, .slice (some ⟨w.heap.size + 1 + 1 + 1, 0, none⟩) m m]) ?_ rfl ?_
        · exact rec_one rfl _ rfl HF5
        refine ⟨w.heap.size + 1 + 1, w.heap.size + 1 + 1 + 1, by rw [HN.out, HM.out], ?_, ?_, by omega, by omega, below_put5 hat.out.box.below (by omega) _ _ _ _ _⟩
        · rw [← HF.out]; exact (put5_far wr (by omega) _ _ _ _ _).trans hat.out.row
        · rw [← HG.out]; exact (put5_far wr (by omega) _ _ _ _ _).trans hat.out.row'
end Go.Proofs.YtomidcbpnaajeaaGreat.Rec

/- The statements' small play of layer 8 (record): it returns true. No condition. -/
namespace Go.Proofs.YtomidcbpnaajeaaGreat.Rec
open Go.RowKit Cmd Bat Ids
set_option linter.unusedVariables false

/-! ### A row that is a block of its own reads as its list -/
theorem rowI {w : World} {g : Nat} {ds : List Idn} (h : w.heap[g]? = some (.cells (flat ds).toArray 32 (0, 0))) (hl : ds.length ≤ 100000) : RowAt w (.slice (some ⟨g, 0, none⟩) ds.length ds.length) ds := by
  have hlt : g < w.heap.size := (Array.getElem?_eq_some_iff.1 h).1
  refine ⟨some ⟨g, 0, none⟩, ds.length, rfl, Nat.le_refl _, by omega, (fun e => by cases e), fun _ => ⟨g, 0, rfl, hlt, fun j hj => ?_⟩⟩
  obtain ⟨h1, h2⟩ := flat_at ds j hj
  rw [Nat.zero_add]
  exact ⟨cell_row h (by simpa using h1), cell_row h (by simpa using h2)⟩
theorem rowC {w : World} {g : Nat} {cs : List Cmdn} (h : w.heap[g]? = some (.cells (flatC cs).toArray 55 (0, 0))) (hl : cs.length ≤ 100000) : layC.Row w (.slice (some ⟨g, 0, none⟩) cs.length cs.length) cs := by
  have hlt : g < w.heap.size := (Array.getElem?_eq_some_iff.1 h).1
  refine ⟨some ⟨g, 0, none⟩, cs.length, rfl, Nat.le_refl _, by omega, fun _ => ⟨g, 0, rfl, hlt, fun j hj => ?_⟩⟩
  obtain ⟨h1, h2, h3⟩ := flatC_at cs j hj
  show w.cell? ⟨g, 0 + j * 3, none⟩ = _ ∧ w.cell? ⟨g, 0 + j * 3 + 1, none⟩ = _ ∧ w.cell? ⟨g, 0 + j * 3 + 2, none⟩ = _
  rw [Nat.zero_add]
  exact ⟨cell_row h (by simpa using h1), cell_row h (by simpa using h2), cell_row h (by simpa using h3)⟩

def wds : List Idn := [(0, 1), (1, 1)]
def wcs : List Cmdn := [(1, [97], 0)]
theorem wcs_wf : ∀ x ∈ wcs, wfC x := by
  intro x hx
  simp [wcs] at hx
  subst hx; exact ⟨by decide, by decide⟩
theorem w_err : rErr 1 2 3 wds wcs = 0 := by decide
theorem w_same : rSame 1 2 3 wds wcs 1 2 3 wds wcs = true := by decide
theorem w_less : rLess 1 2 3 1 2 3 = false := by decide
/-- What the play has, seen from the elder world. -/
structure Play (w : World) (W : World) : Prop where
  below : Below w.heap.size w W
  lt : w.heap.size + 1 + 1 < W.heap.size
  box : W.heap[w.heap.size + 1 + 1]? = some (.cells #[.int .i64 1, .int .i64 2, .int .i64 3, .slice (some ⟨w.heap.size, 0, none⟩) 2 2, .slice (some ⟨w.heap.size + 1, 0, none⟩) 1 1] 42 (0, 0))
  row : RowAt W (.slice (some ⟨w.heap.size, 0, none⟩) 2 2) wds
  row' : layC.Row W (.slice (some ⟨w.heap.size + 1, 0, none⟩) 1 1) wcs
theorem Play.on {w W W' : World} (h : Play w W) (hb : Below W.heap.size W W') : Play w W' :=
  ⟨h.below.trans (hb.mono h.below.size), Nat.lt_of_lt_of_le h.lt hb.size, (hb.block _ h.lt).trans h.box, h.row.on hb, h.row'.on hb⟩
theorem Play.five {w W : World} (h : Play w W) : W.cell? ⟨w.heap.size + 1 + 1, 0, none⟩ = some (.int .i64 1) ∧ W.cell? ⟨w.heap.size + 1 + 1, 1, none⟩ = some (.int .i64 2) ∧ W.cell? ⟨w.heap.size + 1 + 1, 2, none⟩ = some (.int .i64 3) ∧ W.cell? ⟨w.heap.size + 1 + 1, 3, none⟩ = some (.slice (some ⟨w.heap.size, 0, none⟩) 2 2) ∧ W.cell? ⟨w.heap.size + 1 + 1, 4, none⟩ = some (.slice (some ⟨w.heap.size + 1, 0, none⟩) 1 1) :=
  ⟨cell_row h.box rfl, cell_row h.box rfl, cell_row h.box rfl, cell_row h.box rfl, cell_row h.box rfl⟩
theorem Play.start (w : World) : Play w (((w.alloc (.cells #[.int .i64 0, .int .i64 1, .int .i64 1, .int .i64 1] 32)).alloc (.cells #[.int .i64 1, .string ⟨#[97]⟩, .float .f64 0] 55)).alloc (.cells #[.int .i64 1, .int .i64 2, .int .i64 3, .slice (some ⟨w.heap.size, 0, none⟩) 2 2, .slice (some ⟨w.heap.size + 1, 0, none⟩) 1 1] 42)) := by
  have b0 := Cmd.below_one w (.cells #[.int .i64 0, .int .i64 1, .int .i64 1, .int .i64 1] 32)
  have e1 := heap_alloc_new w (.cells #[.int .i64 0, .int .i64 1, .int .i64 1, .int .i64 1] 32)
  have s1 : (w.alloc (.cells #[.int .i64 0, .int .i64 1, .int .i64 1, .int .i64 1] 32)).heap.size = w.heap.size + 1 := by simp
  generalize w.alloc (.cells #[.int .i64 0, .int .i64 1, .int .i64 1, .int .i64 1] 32) = W1 at *
  have b1 := Cmd.below_one W1 (.cells #[.int .i64 1, .string ⟨#[97]⟩, .float .f64 0] 55)
  have e2 := heap_alloc_new W1 (.cells #[.int .i64 1, .string ⟨#[97]⟩, .float .f64 0] 55)
  have s2 : (W1.alloc (.cells #[.int .i64 1, .string ⟨#[97]⟩, .float .f64 0] 55)).heap.size = w.heap.size + 1 + 1 := by simp [s1]
  rw [s1] at e2
  generalize W1.alloc (.cells #[.int .i64 1, .string ⟨#[97]⟩, .float .f64 0] 55) = W2 at *
  have b2 := Cmd.below_one W2 (.cells #[.int .i64 1, .int .i64 2, .int .i64 3, .slice (some ⟨w.heap.size, 0, none⟩) 2 2, .slice (some ⟨w.heap.size + 1, 0, none⟩) 1 1] 42)
  have e3 := heap_alloc_new W2 (.cells #[.int .i64 1, .int .i64 2, .int .i64 3, .slice (some ⟨w.heap.size, 0, none⟩) 2 2, .slice (some ⟨w.heap.size + 1, 0, none⟩) 1 1] 42)
  rw [s2] at e3
  have r1 := (rowI (ds := wds) e1 (by decide)).on (b1.trans (b2.mono b1.size))
  have r2 := (rowC (cs := wcs) e2 (by decide)).on b2
  exact ⟨(b0.trans (b1.mono (by omega))).trans (b2.mono (by omega)), by simp [s2], e3, r1, r2⟩

end Go.Proofs.YtomidcbpnaajeaaGreat.Rec
