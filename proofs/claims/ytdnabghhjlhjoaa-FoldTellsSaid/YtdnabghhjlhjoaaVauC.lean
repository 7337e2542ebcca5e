/- Items (a batch, and whose it is), what keys have behind them, their logs and what is told, plain; lists of items in memory (layer 13, vault). Conditions: those in each statement. -/
import Derived.Test.YtdnabghhjlhjoaaCelB
import Derived.Test.YtdnabghhjlhjoaaBatG
import Derived.Test.YtdnabghhjlhjoaaWid
namespace Go.Proofs.Ytdnabghhjlhjoaa.Vau
open Go.RowKit Cmd Bat Cel
set_option linter.unusedVariables false

/-! ### Plain -/
abbrev Itm := (Int × Int) × List Cmdn
/-- A writer: its id, its place. -/
abbrev Wr := (Int × Int) × Int
/-- A result: its id, its place, what was told. -/
abbrev Rs := (Int × Int) × Int × Cell2
def stepK (s : List UInt8) (c : Cell2) (x : Cmdn) : Cell2 := if x.2.1 = s then (doC c x.1 x.2.1 x.2.2).1 else c
def cellB (s : List UInt8) (c : Cell2) (cs : List Cmdn) : Cell2 := cs.foldl (stepK s) c
def cellL (s : List UInt8) (c : Cell2) (xs : List Itm) : Cell2 := xs.foldl (fun c x => cellB s c x.2) c
/-- What a key has behind items. -/
def cellOf (xs : List Itm) (s : List UInt8) : Cell2 := cellL s (false, 0) xs
def wrote (s : List UInt8) (x : Cmdn) : Bool := decide (x.2.1 = s) && (right x && decide (x.1 ≠ 1))
/-- The places of the commands that write a key. -/
def logB (s : List UInt8) (id : Int × Int) : Nat → List Cmdn → List Wr
  | _, [] => []
  | k, x :: cs => (if wrote s x then [(id, (k : Int))] else []) ++ logB s id (k + 1) cs
def logOf (xs : List Itm) (s : List UInt8) : List Wr := xs.flatMap fun x => logB s x.1 0 x.2
def cmdsOf (xs : List Itm) : List Cmdn := xs.flatMap fun x => x.2
def allOf (xs : List Itm) : List (List UInt8) := kset (keys (cmdsOf xs))
def keysOf (xs : List Itm) : List (List UInt8) := (allOf xs).filter fun s => (cellOf xs s).1
/-- What the commands of a batch tell, behind items. -/
def toldB (xs : List Itm) (id : Int × Int) (cs : List Cmdn) (k : Nat) : Rs :=
  (id, (k : Int), (doC (cellB (layC.at cs k).2.1 (cellOf xs (layC.at cs k).2.1) (cs.take k)) (layC.at cs k).1 (layC.at cs k).2.1 (layC.at cs k).2.2).2)
def resB (xs : List Itm) (id : Int × Int) (cs : List Cmdn) : List Rs := (List.range cs.length).map (toldB xs id cs)
theorem cellB_nil (s : List UInt8) (c : Cell2) : cellB s c [] = c := rfl
theorem cellB_snoc (s : List UInt8) (c : Cell2) (cs : List Cmdn) (x : Cmdn) : cellB s c (cs ++ [x]) = stepK s (cellB s c cs) x := by unfold cellB; rw [List.foldl_append]; rfl
theorem cellB_append (s : List UInt8) (c : Cell2) (cs ds : List Cmdn) : cellB s c (cs ++ ds) = cellB s (cellB s c cs) ds := by unfold cellB; rw [List.foldl_append]
theorem cellL_snoc (s : List UInt8) (c : Cell2) (xs : List Itm) (x : Itm) : cellL s c (xs ++ [x]) = cellB s (cellL s c xs) x.2 := by unfold cellL; rw [List.foldl_append]; rfl
theorem cellOf_snoc (s : List UInt8) (xs : List Itm) (x : Itm) : cellOf (xs ++ [x]) s = cellB s (cellOf xs s) x.2 := cellL_snoc s _ xs x
theorem cellB_step {s : List UInt8} {c : Cell2} {cs : List Cmdn} {k : Nat} (h : k < cs.length) : cellB s c (cs.take (k + 1)) = stepK s (cellB s c (cs.take k)) (layC.at cs k) := by rw [layC.take h, cellB_snoc]
theorem stepK_yes {s t : List UInt8} {c : Cell2} {k : Int} {v : Nat} (h : decide (t = s) = true) : stepK s c (k, t, v) = (doC c k t v).1 := by unfold stepK; rw [if_pos (of_decide_eq_true h)]
theorem stepK_no {s t : List UInt8} {c : Cell2} {k : Int} {v : Nat} (h : decide (t = s) = false) : stepK s c (k, t, v) = c := by unfold stepK; rw [if_neg (of_decide_eq_false h)]
theorem logB_snoc (s : List UInt8) (id : Int × Int) : ∀ (cs : List Cmdn) (k : Nat) (x : Cmdn), logB s id k (cs ++ [x]) = logB s id k cs ++ (if wrote s x then [(id, ((k + cs.length : Nat) : Int))] else [])
  | [], k, x => by simp [logB]
  | y :: cs, k, x => by
    rw [List.cons_append]
    show _ ++ logB s id (k + 1) (cs ++ [x]) = _ ++ logB s id (k + 1) cs ++ _
    rw [logB_snoc s id cs (k + 1) x, List.append_assoc, show k + 1 + cs.length = k + (y :: cs).length by simp; omega]
theorem logB_len (s : List UInt8) (id : Int × Int) : ∀ (cs : List Cmdn) (k : Nat), (logB s id k cs).length ≤ cs.length
  | [], _ => Nat.le_refl _
  | x :: cs, k => by
    have := logB_len s id cs (k + 1)
    show (_ ++ logB s id (k + 1) cs).length ≤ _
    rw [List.length_append, List.length_cons]
    split <;> simp <;> omega
theorem logB_step {s : List UInt8} {id : Int × Int} {cs : List Cmdn} {k : Nat} (h : k < cs.length) : logB s id 0 (cs.take (k + 1)) = logB s id 0 (cs.take k) ++ (if wrote s (layC.at cs k) then [(id, (k : Int))] else []) := by
  rw [layC.take h, logB_snoc, List.length_take, Nat.min_eq_left (by omega), Nat.zero_add]
theorem logOf_snoc (xs : List Itm) (x : Itm) (s : List UInt8) : logOf (xs ++ [x]) s = logOf xs s ++ logB s x.1 0 x.2 := by unfold logOf; rw [List.flatMap_append]; simp
theorem cmdsOf_snoc (xs : List Itm) (x : Itm) : cmdsOf (xs ++ [x]) = cmdsOf xs ++ x.2 := by unfold cmdsOf; rw [List.flatMap_append]; simp
/-- At most m commands of each. -/
def Lim (m : Nat) (xs : List Itm) : Prop := ∀ x ∈ xs, x.2.length ≤ m
theorem cmdsOf_len {m : Nat} : ∀ {xs : List Itm}, Lim m xs → (cmdsOf xs).length ≤ xs.length * m
  | [], _ => by simp [cmdsOf]
  | x :: xs, h => by
    have h1 := cmdsOf_len (xs := xs) (m := m) (fun y hy => h y (List.mem_cons_of_mem _ hy))
    have h2 := h x List.mem_cons_self
    show (x.2 ++ cmdsOf xs).length ≤ _
    rw [List.length_append, List.length_cons, Nat.succ_mul]; omega
theorem logOf_len {m : Nat} (s : List UInt8) : ∀ {xs : List Itm}, Lim m xs → (logOf xs s).length ≤ xs.length * m
  | [], _ => by simp [logOf]
  | x :: xs, h => by
    have h1 := logOf_len s (xs := xs) (m := m) (fun y hy => h y (List.mem_cons_of_mem _ hy))
    have h2 := Nat.le_trans (logB_len s x.1 x.2 0) (h x List.mem_cons_self)
    show (logB s x.1 0 x.2 ++ logOf xs s).length ≤ _
    rw [List.length_append, List.length_cons, Nat.succ_mul]; omega

/-! ### In memory -/
def layT : Lay Itm := ⟨((0, 0), []), fun o j => o + j * 3, fun w b o x => w.cell? ⟨b, o, none⟩ = some (.int .i64 x.1.1) ∧ w.cell? ⟨b, o + 1, none⟩ = some (.int .i64 x.1.2) ∧ ∃ v, w.cell? ⟨b, o + 2, none⟩ = some v ∧ layC.Row w v x.2,
  fun {w w' b o x} hb h ⟨h0, h1, v, h2, h3⟩ => ⟨(h.cell (p := ⟨b, o, none⟩) hb).trans h0, (h.cell (p := ⟨b, o + 1, none⟩) hb).trans h1, v, (h.cell (p := ⟨b, o + 2, none⟩) hb).trans h2, h3.on h⟩⟩
theorem cellT {w : World} {B off : Nat} {xs : List Itm} (h : layT.In w B off xs) {k : Nat} (hk : k < xs.length) {a b : Int} {cs : List Cmdn} (hx : layT.at xs k = ((a, b), cs)) :
    w.cell? ⟨B, off + k * 3, none⟩ = some (.int .i64 a) ∧ w.cell? ⟨B, off + k * 3 + 1, none⟩ = some (.int .i64 b) ∧ ∃ v, w.cell? ⟨B, off + k * 3 + 2, none⟩ = some v ∧ layC.Row w v cs := by
  have := h.cell k hk
  rw [hx] at this; exact this
/-- The element's third cell, in parts. -/
theorem partT {w : World} {B off : Nat} {xs : List Itm} (h : layT.In w B off xs) {k : Nat} (hk : k < xs.length) {a b : Int} {cs : List Cmdn} (hx : layT.at xs k = ((a, b), cs)) :
    ∃ (p : Option Addr) (cap : Nat), w.cell? ⟨B, off + k * 3 + 2, none⟩ = some (.slice p cs.length cap) ∧ cs.length ≤ cap ∧ cap ≤ 9223372036854775807 ∧ (cs.length = 0 ∨ ∃ B' off', p = some ⟨B', off', none⟩ ∧ Hid (layC.In w B' off' cs)) := by
  obtain ⟨-, -, v, h2, p, cap, rfl, h3, h4, h5⟩ := cellT h hk hx
  refine ⟨p, cap, h2, h3, h4, ?_⟩
  by_cases hz : cs = []
  · left; rw [hz]; rfl
  · right; obtain ⟨B', off', rfl, hi⟩ := h5 hz; exact ⟨B', off', rfl, Lib.hid hi⟩
def wfT (x : Itm) : Prop := ∀ c ∈ x.2, wfC c
end Go.Proofs.Ytdnabghhjlhjoaa.Vau

/- What the document's Cell gives (layer 13, vault): what a key has behind items. Conditions: the list lies in memory as its cells say; numbers' words of 64 bits; texts of a length that Go reads. (Written by tools/gen_vaub.py.) -/
namespace Go.Proofs.Ytdnabghhjlhjoaa.Vau
open Go.RowKit F64 Cmd Bat Cel
set_option linter.unusedVariables false
set_option linter.unusedSimpArgs false

set_option maxHeartbeats 16000000 in
set_option maxRecDepth 100000 in
theorem rcell_any (v : Value) (xs : List Itm) (s : List UInt8) (w : World) (h : layT.Row w v xs) (hw : ∀ x ∈ xs, wfT x) : Calls Try.prog 10 #[v, .string (str s)] w (GivesFold (cellOf xs s) w) := by
  obtain ⟨p, cap, rfl, h1, hd⟩ := h.parts
  obtain ⟨n, hn⟩ : ∃ n, n = xs.length := ⟨_, rfl⟩
  rw [← hn] at h1 hd ⊢
  have HW := Lib.hid hw
  have HN := Lib.hid hn
  have HT : Hid (cellOf (xs.take n) s = cellOf xs s) := Lib.hid (by rw [hn, List.take_length])
  have X0 := Lib.hid (Bx2.start w false 0 false 0)
  obtain ⟨i0, i1, i2, i3⟩ := X0.out.a.facts
  obtain ⟨j0, j1, j2, j3⟩ := X0.out.b.facts
  clear h hw hn
  go_enter Try.func10, Try.ntmps10
  go_wp2_with fail
  go_loopw [6] (fun j wr => ∃ (i : Nat) (f : Bool) (z : Nat), j = .int .i64 i ∧ i ≤ n ∧ Hid (Bx2 w false 0 f z wr) ∧ Hid (Fit f z (cellOf (xs.take i) s))) (fun j _ => n - (intOf j).toNat)
  case atStart => exact ⟨0, false, 0, rfl, Nat.zero_le _, X0, Lib.hid ⟨rfl, rfl, fun _ => rfl, by decide⟩⟩
  case round =>
    obtain ⟨i, f, z, rfl, hi, HX, HF⟩ := hrel
    have i00 : (0 : Int) ≤ i := by omega
    by_cases hin : i < n
    · have kn : (i : Int) < n := by omega
      obtain ⟨B, off, rfl, HC⟩ := hd.resolve_left (by omega)
      have hix : i < xs.length := by rw [← HN.out]; exact hin
      obtain ⟨a1, a2, cs, hx⟩ : ∃ a b cs, layT.at xs i = ((a, b), cs) := ⟨_, _, _, rfl⟩
      have HX1 := Lib.hid hx
      have HIX := Lib.hid hix
      have hwf := HW.out _ (layT.at_mem hix)
      rw [hx] at hwf
      have HWC := Lib.hid hwf
      have HPT := Lib.hid (fun W (hb : Below w.heap.size w W) => partT (HC.out.on hb) hix hx)
      obtain ⟨p', cap', hp2, hm1, hm2, hd'⟩ := partT HC.out hix hx
      obtain ⟨m, hm⟩ : ∃ m, m = cs.length := ⟨_, rfl⟩
      rw [← hm] at hp2 hm1 hd'
      have HM := Lib.hid hm
      have HP2 := Lib.hid (fun W (hb : Below w.heap.size w W) => (hb.cell (p := ⟨B, off + i * 3 + 2, none⟩) HC.out.lt).trans hp2)
      obtain ⟨wq, hwq⟩ : ∃ wq, wq = wr := ⟨_, rfl⟩
      subst hwq
      clear hx hd hwf hix hm hp2
      go_wp2_with fail
      go_loopw [7] (fun j wr => ∃ (k : Nat) (f : Bool) (z : Nat), j = .int .i64 k ∧ k ≤ m ∧ Hid (Bx2 w false 0 f z wr) ∧ Hid (Fit f z (cellB s (cellOf (xs.take i) s) (cs.take k)))) (fun j _ => m - (intOf j).toNat)
      case atStart => exact ⟨0, f, z, rfl, Nat.zero_le _, HX, HF⟩
      case round =>
        obtain ⟨k, f, z, rfl, hk, HY, HG⟩ := hrel
        have k00 : (0 : Int) ≤ k := by omega
        have e2 := HP2.out _ HY.out.below
        obtain ⟨x0, x1, x2, x3⟩ := HY.out.b.facts
        by_cases hkm : k < m
        · have km : (k : Int) < m := by omega
          obtain ⟨B', off', rfl, HD⟩ := hd'.resolve_left (by omega)
          have hkx : k < cs.length := by rw [← HM.out]; exact hkm
          obtain ⟨a, t, x, hx⟩ : ∃ a t x, layC.at cs k = (a, t, x) := ⟨_, _, _, rfl⟩
          have hwf := HWC.out _ (layC.at_mem hkx)
          rw [hx] at hwf
          obtain ⟨c0, c1, c2⟩ := cellC (HD.out.on HY.out.below) hkx hx
          have HS : Hid (∀ w', Below w.heap.size w w' → w'.cell? ⟨B, off + i * 3 + 2, none⟩ = some (.slice (some ⟨B', off', none⟩) m cap') ∧ w'.cell? ⟨B', off' + k * 3, none⟩ = some (.int .i64 a) ∧ w'.cell? ⟨B', off' + k * 3 + 1, none⟩ = some (.string (str t)) ∧ w'.cell? ⟨B', off' + k * 3 + 2, none⟩ = some (.float .f64 x)) := Lib.hid fun W hb => ⟨HP2.out _ hb, cellC (HD.out.on hb) hkx hx⟩
          have CD : Hid (∀ W, Calls Try.prog 24 #[.agg #[.bool f, .float .f64 z], .agg #[.int .i64 a, .string (str t), .float .f64 x]] W (GivesDo (doC (f, z) a t x) W)) := Lib.hid fun W => refdo_any (f, z) a t x W HG.out.lt hwf.1 (by have := hwf.2; simp only [] at this; omega)
          have he := str_dec t s
          have HFS : Hid (decide (t = s) = true → ∀ g y, Fit g y (doC (f, z) a t x).1 → Fit g y (cellB s (cellOf (xs.take i) s) (cs.take (k + 1)))) := Lib.hid fun hts g y hfit => by rw [cellB_step hkx, hx, stepK_yes hts]; exact HG.out.step hfit
          have HFN : Hid (decide (t = s) = false → Fit f z (cellB s (cellOf (xs.take i) s) (cs.take (k + 1)))) := Lib.hid fun hts => by rw [cellB_step hkx, hx, stepK_no hts]; exact HG.out
          generalize doC (f, z) a t x = R at CD HFS
          clear hx hwf hkx hd'
          generalize decide (t = s) = q at he HFS HFN
          cases q
          · go_wp2_with fail
            go_roundw
            case rel => exact ⟨k + 1, f, z, by go_num, by omega, HY, Lib.hid (HFN.out (by first | exact rfl | trivial))⟩
            case measure => simp [intOf]; omega
          · have R0 := Lib.hid HY.out.below.drew
            have YD : Hid (Bx2 w false 0 f z wr.drew) := Lib.hid ⟨HY.out.below.drew, HY.out.a.drewn, HY.out.b.drewn⟩
            obtain ⟨y0, y1, y2, y3⟩ := YD.out.b.facts
            go_wp2_with fail
            refine wp_region_held_drew (S := (fun w' => w'.cell? ⟨B, off + i * 3 + 2, none⟩ = some (.slice (some ⟨B', off', none⟩) m cap') ∧ w'.cell? ⟨B', off' + k * 3, none⟩ = some (.int .i64 a) ∧ w'.cell? ⟨B', off' + k * 3 + 1, none⟩ = some (.string (str t)) ∧ w'.cell? ⟨B', off' + k * 3 + 2, none⟩ = some (.float .f64 x))) (by kernel_rfl) (HS.out _ R0.out) (fun hHeld => ?_)
            refine wpAnyH_take (i := 1) (v := ?_) rfl (by kernel_rfl) (by kernel_rfl) (by kernel_rfl) (fun _ _ _ h => h) (Or.inl ⟨by rfl, fun w hSw => ?_⟩) (by assumption) ?_
            rotate_left
            · (try dsimp only at hSw); go_simp; (try with_reducible rfl)
            try simp only [List.getElem_toArray, List.getElem_cons_succ, List.getElem_cons_zero, Act.put, List.setIfInBounds_toArray, List.set_cons_zero, List.set_cons_succ]
            refine wpAnyH_take (i := 2) (v := ?_) rfl (by kernel_rfl) (by kernel_rfl) (by kernel_rfl) (fun _ _ _ h => h) (Or.inl ⟨by rfl, fun w hSw => ?_⟩) (by assumption) ?_
            rotate_left
            · (try dsimp only at hSw); go_simp; (try with_reducible rfl)
            try simp only [List.getElem_toArray, List.getElem_cons_succ, List.getElem_cons_zero, Act.put, List.setIfInBounds_toArray, List.set_cons_zero, List.set_cons_succ]
            refine wpAnyH_take (i := 3) (v := ?_) rfl (by kernel_rfl) (by kernel_rfl) (by kernel_rfl) (fun _ _ _ h => h) (Or.inl ⟨by rfl, fun w hSw => ?_⟩) (by assumption) ?_
            rotate_left
            · (try dsimp only at hSw); go_simp; (try with_reducible rfl)
            try simp only [List.getElem_toArray, List.getElem_cons_succ, List.getElem_cons_zero, Act.put, List.setIfInBounds_toArray, List.set_cons_zero, List.set_cons_succ]
            refine wpAnyH_take (i := 4) (v := ?_) rfl (by kernel_rfl) (by kernel_rfl) (by kernel_rfl) (fun _ _ _ h => h) (Or.inl ⟨by rfl, fun w hSw => ?_⟩) (by assumption) ?_
            rotate_left
            · (try dsimp only at hSw); go_simp; (try with_reducible rfl)
            try simp only [List.getElem_toArray, List.getElem_cons_succ, List.getElem_cons_zero, Act.put, List.setIfInBounds_toArray, List.set_cons_zero, List.set_cons_succ]
            refine wpAnyH_take (i := 5) (v := ?_) rfl (by kernel_rfl) (by kernel_rfl) (by kernel_rfl) (fun _ _ _ h => h) (Or.inl ⟨by rfl, fun w hSw => ?_⟩) (by assumption) ?_
            rotate_left
            · (try dsimp only at hSw); go_simp; (try with_reducible rfl)
            try simp only [List.getElem_toArray, List.getElem_cons_succ, List.getElem_cons_zero, Act.put, List.setIfInBounds_toArray, List.set_cons_zero, List.set_cons_succ]
            refine wpAnyH_take (i := 6) (v := ?_) rfl (by kernel_rfl) (by kernel_rfl) (by kernel_rfl) (fun _ _ _ h => h) (Or.inl ⟨by rfl, fun w hSw => ?_⟩) (by assumption) ?_
            rotate_left
            · (try dsimp only at hSw); go_simp; (try with_reducible rfl)
            try simp only [List.getElem_toArray, List.getElem_cons_succ, List.getElem_cons_zero, Act.put, List.setIfInBounds_toArray, List.set_cons_zero, List.set_cons_succ]
            refine wpAnyH_take (i := 7) (v := ?_) rfl (by kernel_rfl) (by kernel_rfl) (by kernel_rfl) (fun _ _ _ h => h) (Or.inl ⟨by rfl, fun w hSw => ?_⟩) (by assumption) ?_
            rotate_left
            · (try dsimp only at hSw); go_simp; (try with_reducible rfl)
            try simp only [List.getElem_toArray, List.getElem_cons_succ, List.getElem_cons_zero, Act.put, List.setIfInBounds_toArray, List.set_cons_zero, List.set_cons_succ]
            refine wpAnyH_take (i := 8) (v := ?_) rfl (by kernel_rfl) (by kernel_rfl) (by kernel_rfl) (fun _ _ _ h => h) (Or.inl ⟨by rfl, fun w hSw => ?_⟩) (by assumption) ?_
            rotate_left
            · (try dsimp only at hSw); go_simp; (try with_reducible rfl)
            try simp only [List.getElem_toArray, List.getElem_cons_succ, List.getElem_cons_zero, Act.put, List.setIfInBounds_toArray, List.set_cons_zero, List.set_cons_succ]
            refine wpAnyH_ready (rs := [0]) (by kernel_rfl) (by simp) ?_
            refine AllReadyH.cons rfl (fun K hK => ?_) ?_
            rotate_left
            · exact AllReadyH.nil
            go_simp
            skip
            refine hK.out _ _ ?_ (fun hHeld => ?_)
            · exact HS.out _ R0.out
            clear hK K
            try simp only [List.getElem_toArray, List.getElem_cons_succ, List.getElem_cons_zero, Act.put, List.setIfInBounds_toArray, List.set_cons_zero, List.set_cons_succ]
            refine wpAnyH_ready (rs := [9]) (by kernel_rfl) (by simp) ?_
            refine AllReadyH.cons rfl (fun K hK => ?_) ?_
            rotate_left
            · exact AllReadyH.nil
            go_simp
            (go_at_call 24; (with_reducible refine (CD.out _).mono ?_); rintro E w1 ⟨f1, z1, f2, z2, rfl, h1, h2, hb⟩; have X1 := Lib.hid h1; have Y1 := Lib.hid (YD.out.on hb); obtain ⟨b0, b1, b2, b3⟩ := Y1.out.b.facts; have Y2 := Lib.hid (Y1.out.put f1 z1); clear hb h1 h2)
            refine hK.out _ _ ?_ (fun hHeld => ?_)
            · exact HS.out _ Y1.out.below
            clear hK K
            try simp only [List.getElem_toArray, List.getElem_cons_succ, List.getElem_cons_zero, Act.put, List.setIfInBounds_toArray, List.set_cons_zero, List.set_cons_succ]
            refine wpAnyH_take (i := 10) (v := ?_) rfl (by kernel_rfl) (by kernel_rfl) (by kernel_rfl) (fun _ _ _ h => h) (Or.inl ⟨by rfl, fun w hSw => ?_⟩) (by assumption) ?_
            rotate_left
            · (try dsimp only at hSw); go_simp; (try with_reducible rfl)
            try simp only [List.getElem_toArray, List.getElem_cons_succ, List.getElem_cons_zero, Act.put, List.setIfInBounds_toArray, List.set_cons_zero, List.set_cons_succ]
            refine wpAnyH_take (i := 11) (v := ?_) rfl (by kernel_rfl) (by kernel_rfl) (by kernel_rfl) (fun _ _ _ h => h) (Or.inl ⟨by rfl, fun w hSw => ?_⟩) (by assumption) ?_
            rotate_left
            · (try dsimp only at hSw); go_simp; (try with_reducible rfl)
            try simp only [List.getElem_toArray, List.getElem_cons_succ, List.getElem_cons_zero, Act.put, List.setIfInBounds_toArray, List.set_cons_zero, List.set_cons_succ]
            refine wpAnyH_take (i := 12) (v := ?_) rfl (by kernel_rfl) (by kernel_rfl) (by kernel_rfl) (fun _ _ _ h => h) (Or.inl ⟨by rfl, fun w hSw => ?_⟩) (by assumption) ?_
            rotate_left
            · (try dsimp only at hSw); go_simp; (try with_reducible rfl)
            try simp only [List.getElem_toArray, List.getElem_cons_succ, List.getElem_cons_zero, Act.put, List.setIfInBounds_toArray, List.set_cons_zero, List.set_cons_succ]
            refine wpAnyH_ready (rs := [13]) (by kernel_rfl) (by simp) ?_
            refine AllReadyH.cons rfl (fun K hK => ?_) ?_
            rotate_left
            · exact AllReadyH.nil
            go_simp
            skip
            refine hK.out _ _ ?_ (fun hHeld => ?_)
            · exact HS.out _ Y2.out.below
            clear hK K
            try simp only [List.getElem_toArray, List.getElem_cons_succ, List.getElem_cons_zero, Act.put, List.setIfInBounds_toArray, List.set_cons_zero, List.set_cons_succ]
            refine wpAnyH_done (by kernel_rfl) ?_ _
            go_wp2_with fail
            go_roundw
            case rel => exact ⟨k + 1, f1, z1, by go_num, by omega, Y2, Lib.hid (HFS.out (by first | exact rfl | trivial) _ _ X1.out)⟩
            case measure => simp [intOf]; omega
        · obtain rfl : k = m := by omega
          have km : ¬ (k : Int) < k := by omega
          have HQ : Hid (Fit f z (cellOf (xs.take (i + 1)) s)) := Lib.hid (by rw [layT.take HIX.out, HX1.out, cellOf_snoc]; have := HG.out; rw [HM.out, List.take_length] at this; exact this)
          clear hd'
          go_wp2_with fail
          go_roundw
          case rel => exact ⟨i + 1, f, z, by go_num, by omega, HY, HQ⟩
          case measure => simp [intOf]; omega
    · obtain rfl : i = n := by omega
      have kn : ¬ (i : Int) < i := by omega
      have HF2 : Hid (Fit f z (cellOf xs s)) := Lib.hid (by rw [← HT.out]; exact HF.out)
      obtain ⟨u0, u1, u2, u3⟩ := HX.out.a.facts
      obtain ⟨x0, x1, x2, x3⟩ := HX.out.b.facts
      have P := Lib.hid (boxed_put HX.out.below HX.out.a f z)
      clear hd
      go_wp2_with fail
      exact bodyPost_ret (cell_result rfl _ rfl P.out.2.facts.1 P.out.2.facts.2.1) rfl ⟨f, z, rfl, HF2.out, P.out.1⟩
end Go.Proofs.Ytdnabghhjlhjoaa.Vau

/- What the document's Log, All and Keys give, and the statements' some (layer 13, vault). Conditions: the list lies in memory as its cells say; numbers' words of 64 bits; texts of a length that Go reads; at most 100000 commands in all. (Written by tools/gen_vauc.py.) -/
namespace Go.Proofs.Ytdnabghhjlhjoaa.Vau
open Go.RowKit F64 Cmd Bat Cel Wid
set_option linter.unusedVariables false
set_option linter.unusedSimpArgs false

/-! ### Rows of writers, of results, of commands, of texts -/
def layW : Lay Wr := ⟨((0, 0), 0), fun o j => o + j * 3, fun w b o x => w.cell? ⟨b, o, none⟩ = some (.int .i64 x.1.1) ∧ w.cell? ⟨b, o + 1, none⟩ = some (.int .i64 x.1.2) ∧ w.cell? ⟨b, o + 2, none⟩ = some (.int .i64 x.2),
  fun {w w' b o x} hb h ⟨h0, h1, h2⟩ => ⟨(h.cell (p := ⟨b, o, none⟩) hb).trans h0, (h.cell (p := ⟨b, o + 1, none⟩) hb).trans h1, (h.cell (p := ⟨b, o + 2, none⟩) hb).trans h2⟩⟩
theorem three_at {a b c : Value} {w : World} {g o : Nat} (h0 : w.cell? ⟨g, o, none⟩ = some a) (h1 : w.cell? ⟨g, o + 1, none⟩ = some b) (h2 : w.cell? ⟨g, o + 2, none⟩ = some c) : ∀ i u, [a, b, c][i]? = some u → w.cell? ⟨g, o + i, none⟩ = some u
  | 0, u, hu => by injection hu with hu; subst hu; exact h0
  | 1, u, hu => by injection hu with hu; subst hu; exact h1
  | 2, u, hu => by injection hu with hu; subst hu; exact h2
  | i + 3, u, hu => by simp at hu
theorem three_one {a b c : Value} (h0 : a.oneCell' = true) (h1 : b.oneCell' = true) (h2 : c.oneCell' = true) : ∀ u ∈ [a, b, c], u.oneCell' = true := by
  intro u hu
  simp only [List.mem_cons, List.not_mem_nil, or_false] at hu
  rcases hu with rfl | rfl | rfl <;> assumption
def wdW : Wd Wr where
  L := layW
  enc x := [.int .i64 x.1.1, .int .i64 x.1.2, .int .i64 x.2]
  c := 3
  cpos := by decide
  pos _ _ := rfl
  len _ := rfl
  one _ := three_one rfl rfl rfl
  lies h := ⟨h 0 _ rfl, h 1 _ rfl, h 2 _ rfl⟩
  cells h := three_at h.1 h.2.1 h.2.2
def wdC : Wd Cmdn where
  L := layC
  enc x := [.int .i64 x.1, .string (str x.2.1), .float .f64 x.2.2]
  c := 3
  cpos := by decide
  pos _ _ := rfl
  len _ := rfl
  one _ := three_one rfl rfl rfl
  lies h := ⟨h 0 _ rfl, h 1 _ rfl, h 2 _ rfl⟩
  cells h := three_at h.1 h.2.1 h.2.2
def wdS : Wd (List UInt8) where
  L := layS
  enc x := [.string (str x)]
  c := 1
  cpos := by decide
  pos _ _ := by show _ + _ = _ + _ * 1; rw [Nat.mul_one]
  len _ := rfl
  one _ u hu := by rw [List.mem_singleton.1 hu]; rfl
  lies h := h 0 _ rfl
  cells h i u hu := by
    cases i with
    | zero => injection hu with hu; subst hu; exact h
    | succ i => simp at hu
theorem wtW : Wt wdW 34 63 (.agg #[.int .i64 0, .int .i64 0, .int .i64 0]) 24 := ⟨Try.underlying34, by kernel_rfl, by kernel_rfl, by kernel_rfl, by decide⟩
theorem wtC : Wt wdC 49 48 (.agg #[.int .i64 0, .string ⟨#[]⟩, .float .f64 0]) 32 := ⟨Try.underlying49, by kernel_rfl, by kernel_rfl, by kernel_rfl, by decide⟩

@[go_sem] theorem run_found (f : Bool) (z : Nat) (w : World) : (Instr.field 30 (.agg #[.bool f, .float .f64 z]) 0).run Try.prog w = .ok (.bool f) w := by kernel_rfl
@[go_sem] theorem run_value (f : Bool) (z : Nat) (w : World) : (Instr.field 30 (.agg #[.bool f, .float .f64 z]) 1).run Try.prog w = .ok (.float .f64 z) w := by kernel_rfl

/-! ### Bounds -/
theorem cmdsOf_app (a b : List Itm) : cmdsOf (a ++ b) = cmdsOf a ++ cmdsOf b := by unfold cmdsOf; rw [List.flatMap_append]
theorem cmds_part {xs : List Itm} {i : Nat} (h : i < xs.length) : (cmdsOf (xs.take i)).length + (layT.at xs i).2.length ≤ (cmdsOf xs).length := by
  have e : cmdsOf xs = cmdsOf (xs.take (i + 1)) ++ cmdsOf (xs.drop (i + 1)) := by rw [← cmdsOf_app, List.take_append_drop]
  rw [e, layT.take h, cmdsOf_snoc, List.length_append, List.length_append]; omega
theorem cmds_take (xs : List Itm) (i : Nat) : (cmdsOf (xs.take i)).length ≤ (cmdsOf xs).length := by
  have e : cmdsOf xs = cmdsOf (xs.take i) ++ cmdsOf (xs.drop i) := by rw [← cmdsOf_app, List.take_append_drop]
  rw [e, List.length_append]; omega
theorem logOf_le (s : List UInt8) : ∀ xs : List Itm, (logOf xs s).length ≤ (cmdsOf xs).length
  | [] => Nat.le_refl _
  | x :: xs => by
    have h1 := logOf_le s xs
    have h2 := logB_len s x.1 x.2 0
    show (logB s x.1 0 x.2 ++ logOf xs s).length ≤ (x.2 ++ cmdsOf xs).length
    rw [List.length_append, List.length_append]; omega

/-! ### Log -/
set_option maxHeartbeats 16000000 in
set_option maxRecDepth 100000 in
theorem rlog_any (v : Value) (xs : List Itm) (s : List UInt8) (w : World) (h : layT.Row w v xs) (hw : ∀ x ∈ xs, wfT x) (hl : (cmdsOf xs).length ≤ 100000) : Calls Try.prog 13 #[v, .string (str s)] w (layW.Gives (logOf xs s) w) := by
  obtain ⟨p, cap, rfl, h1, hd⟩ := h.parts
  obtain ⟨n, hn⟩ : ∃ n, n = xs.length := ⟨_, rfl⟩
  rw [← hn] at h1 hd ⊢
  have HW := Lib.hid hw
  have HN := Lib.hid hn
  have HL := Lib.hid hl
  have HT : Hid (logOf (xs.take n) s = logOf xs s) := Lib.hid (by rw [hn, List.take_length])
  have B0 := Lib.hid (Cmd.below_one w (.cells #[] 63))
  have O0 := Lib.hid (Wd.Own.made (D := wdW) 63 w (Nat.le_refl _))
  clear h hw hn hl
  go_enter Try.func13, Try.ntmps13
  go_wp2_with fail
  go_loopw [5, 6] (fun o j wr => ∃ i : Nat, j = .int .i64 i ∧ i ≤ n ∧ Hid (Below w.heap.size w wr) ∧ Hid (wdW.Own 63 wr w.heap.size o (logOf (xs.take i) s))) (fun _ j _ => n - (intOf j).toNat)
  case atStart => exact ⟨0, rfl, Nat.zero_le _, B0, O0⟩
  case round =>
    obtain ⟨i, rfl, hi, HX, HF⟩ := hrel
    have i00 : (0 : Int) ≤ i := by omega
    by_cases hin : i < n
    · have kn : (i : Int) < n := by omega
      obtain ⟨B, off, rfl, HC⟩ := hd.resolve_left (by omega)
      have hix : i < xs.length := by rw [← HN.out]; exact hin
      obtain ⟨a1, a2, cs, hx⟩ : ∃ a b cs, layT.at xs i = ((a, b), cs) := ⟨_, _, _, rfl⟩
      have HX1 := Lib.hid hx
      have HIX := Lib.hid hix
      have hwf := HW.out _ (layT.at_mem hix)
      rw [hx] at hwf
      have HWC := Lib.hid hwf
      have hpart := cmds_part hix
      rw [hx] at hpart
      have HLP : Hid ((logOf (xs.take i) s).length + cs.length ≤ 100000) := Lib.hid (Nat.le_trans (Nat.add_le_add_right (logOf_le s (xs.take i)) _) (Nat.le_trans hpart HL.out))
      obtain ⟨p', cap', hp2, hm1, hm2, hd'⟩ := partT HC.out hix hx
      obtain ⟨m, hm⟩ : ∃ m, m = cs.length := ⟨_, rfl⟩
      rw [← hm] at hp2 hm1 hd' HLP
      have HM := Lib.hid hm
      have HP2 := Lib.hid (fun W (hb : Below w.heap.size w W) => (hb.cell (p := ⟨B, off + i * 3 + 2, none⟩) HC.out.lt).trans hp2)
      have HP0 := Lib.hid (fun W (hb : Below w.heap.size w W) => cellT (HC.out.on hb) hix hx)
      obtain ⟨wq, hwq⟩ : ∃ wq, wq = wr := ⟨_, rfl⟩
      subst hwq
      clear hx hd hwf hix hm hp2 hpart
      go_wp2_with fail
      go_loopw [5, 7] (fun o j wr => ∃ k : Nat, j = .int .i64 k ∧ k ≤ m ∧ Hid (Below w.heap.size w wr) ∧ Hid (wdW.Own 63 wr w.heap.size o (logOf (xs.take i) s ++ logB s (a1, a2) 0 (cs.take k)))) (fun _ j _ => m - (intOf j).toNat)
      case atStart => exact ⟨0, rfl, Nat.zero_le _, HX, Lib.hid (by show wdW.Own _ _ _ _ (_ ++ []); rw [List.append_nil]; exact HF.out)⟩
      case round =>
        obtain ⟨k, rfl, hk, HY, HG⟩ := hrel
        have k00 : (0 : Int) ≤ k := by omega
        have e2 := HP2.out _ HY.out
        obtain ⟨e0, e1, -⟩ := HP0.out _ HY.out
        by_cases hkm : k < m
        · have km : (k : Int) < m := by omega
          obtain ⟨B', off', rfl, HD⟩ := hd'.resolve_left (by omega)
          have hkx : k < cs.length := by rw [← HM.out]; exact hkm
          obtain ⟨a, t, x, hx⟩ : ∃ a t x, layC.at cs k = (a, t, x) := ⟨_, _, _, rfl⟩
          have hwf := HWC.out _ (layC.at_mem hkx)
          rw [hx] at hwf
          obtain ⟨c0, c1, c2⟩ := cellC (HD.out.on HY.out) hkx hx
          have CR := Lib.hid (fun W => right_any a t x W hwf.1 (by have := hwf.2; simp only [] at this; omega))
          have he := str_dec t s
          have HE : Hid (wrote s (a, t, x) = (decide (t = s) && (cRight a t x && decide (a ≠ 1)))) := Lib.hid rfl
          have HS : Hid (logB s (a1, a2) 0 (cs.take (k + 1)) = logB s (a1, a2) 0 (cs.take k) ++ (if wrote s (a, t, x) then [((a1, a2), (k : Int))] else [])) := Lib.hid (by rw [logB_step hkx, hx])
          have hlen : (logOf (xs.take i) s ++ logB s (a1, a2) 0 (cs.take k)).length + 1 ≤ 1000000 := by
            have h1 := logB_len s (a1, a2) (cs.take k) 0
            have h2 := HLP.out
            rw [List.length_take] at h1
            rw [List.length_append]; omega
          have HLN := Lib.hid hlen
          clear hx hwf hkx hd' hlen
          generalize cRight a t x = r at CR HE
          generalize decide (t = s) = q at he HE
          have HA : Hid (wrote s (a, t, x) = true → ∀ o W, wdW.Own 63 W w.heap.size o (logOf (xs.take i) s ++ logB s (a1, a2) 0 (cs.take k) ++ [((a1, a2), (k : Int))]) → wdW.Own 63 W w.heap.size o (logOf (xs.take i) s ++ logB s (a1, a2) 0 (cs.take (k + 1)))) := Lib.hid fun hw o W ho => by rw [HS.out, if_pos hw, ← List.append_assoc]; exact ho
          have HB : Hid (wrote s (a, t, x) = false → ∀ o W, wdW.Own 63 W w.heap.size o (logOf (xs.take i) s ++ logB s (a1, a2) 0 (cs.take k)) → wdW.Own 63 W w.heap.size o (logOf (xs.take i) s ++ logB s (a1, a2) 0 (cs.take (k + 1)))) := Lib.hid fun hw o W ho => by rw [HS.out, if_neg (by rw [hw]; decide), List.append_nil]; exact ho
          cases q
          · go_wp2_with fail
            go_roundw
            case rel => exact ⟨k + 1, by go_num, by omega, HY, Lib.hid (HB.out (by rw [HE.out]; rfl) _ _ HG.out)⟩
            case measure => simp [intOf]; omega
          · cases r
            · go_wp2_with (go_at_call 26; (with_reducible refine (CR.out _).mono ?_); rintro E w1 ⟨rfl, hb⟩; have Y1 := Lib.hid (HY.out.trans (hb.mono HY.out.size)); have G1 := Lib.hid (HG.out.below hb); have f2 := HP2.out _ Y1.out; obtain ⟨g0, g1, g2⟩ := cellC (HD.out.on Y1.out) (by rw [← HM.out]; exact hkm) rfl; clear hb)
              go_roundw
              case rel => exact ⟨k + 1, by go_num, by omega, Y1, Lib.hid (HB.out (by rw [HE.out]; rfl) _ _ G1.out)⟩
              case measure => simp [intOf]; omega
            · by_cases ha : a = 1
              · have ha1 : (a == 1) = true := beq_iff_eq.2 ha
                have HDA : Hid (decide (a ≠ 1) = false) := Lib.hid (decide_eq_false (by simpa using ha))
                clear ha
                go_wp2_with (go_at_call 26; (with_reducible refine (CR.out _).mono ?_); rintro E w1 ⟨rfl, hb⟩; have Y1 := Lib.hid (HY.out.trans (hb.mono HY.out.size)); have G1 := Lib.hid (HG.out.below hb); have f2 := HP2.out _ Y1.out; have f3 := (hb.cell (p := ⟨B', off' + k * 3, none⟩) (HD.out.on HY.out).lt).trans c0; clear hb)
                go_roundw
                case rel => exact ⟨k + 1, by go_num, by omega, Y1, Lib.hid (HB.out (by rw [HE.out, HDA.out]; rfl) _ _ G1.out)⟩
                case measure => simp [intOf]; omega
              · have ha1 : (a == 1) = false := beq_eq_false_iff_ne.2 ha
                have HDA : Hid (decide (a ≠ 1) = true) := Lib.hid (decide_eq_true ha)
                clear ha
                go_wp2_with (first
                  | (go_at_call 26; (with_reducible refine (CR.out _).mono ?_); rintro E w1 ⟨rfl, hb⟩; have Y1 := Lib.hid (HY.out.trans (hb.mono HY.out.size)); have G1 := Lib.hid (HG.out.below hb); have f2 := HP2.out _ Y1.out; have f3 := (hb.cell (p := ⟨B', off' + k * 3, none⟩) (HD.out.on HY.out).lt).trans c0; obtain ⟨h0, h1, -⟩ := HP0.out _ Y1.out; clear hb)
                  | (at_builtin; refine wp_wide wtW rfl _ _ rfl w.heap.size _ _ rfl (G1.out.below (Cmd.below_one _ _)) (by have := Y1.out.size; simp only [World.size_alloc]; omega) _ [((a1, a2), (k : Int))] rfl (Wd.lone (D := wdW) _ w1 _ _ rfl) HLN.out ?_; intro v1 w3 o1 o2 o3; have Y3 := Lib.hid ((Y1.out.alloc Y1.out.size _).trans o2.out); clear o2 o3))
                go_roundw
                case rel => exact ⟨k + 1, by go_num, by omega, Y3, Lib.hid (HA.out (by rw [HE.out, HDA.out]; rfl) _ _ o1.out)⟩
                case measure => simp [intOf]; omega
        · obtain rfl : k = m := by omega
          have km : ¬ (k : Int) < k := by omega
          have HQ : Hid (logOf (xs.take (i + 1)) s = logOf (xs.take i) s ++ logB s (a1, a2) 0 (cs.take k)) := Lib.hid (by rw [layT.take HIX.out, HX1.out, logOf_snoc, HM.out, List.take_length])
          clear hd'
          go_wp2_with fail
          go_roundw
          case rel => exact ⟨i + 1, by go_num, by omega, HY, Lib.hid (by rw [HQ.out]; exact HG.out)⟩
          case measure => simp [intOf]; omega
    · obtain rfl : i = n := by omega
      have kn : ¬ (i : Int) < i := by omega
      clear hd
      go_wp2_with fail
      go_ret
      exact ⟨_, rfl, by rw [← HT.out]; exact HF.out.row, HX.out⟩

/-! ### All, Keys -/
theorem allOf_len (xs : List Itm) : (allOf xs).length ≤ (cmdsOf xs).length := by unfold allOf; exact Nat.le_trans (kset_len _) (by unfold keys; rw [List.length_map]; exact Nat.le_refl _)
end Go.Proofs.Ytdnabghhjlhjoaa.Vau
