/- Items (a batch, and whose it is), which of their commands write a key, and the document's Log and SameLog (layer 13, vault), for the later layers: parts of VauC and VauE. Conditions: the lists lie in memory as their cells say; numbers' words of 64 bits; texts of a length that Go reads; at most 100000 commands in all. -/
import Derived.Test.YtomidcbpnaajeaaGreatBatE
import Derived.Test.YtomidcbpnaajeaaGreatWid
import Derived.Laws.StructEq
import Derived.Deep.DeepCutAuto
import Derived.Deep.QuietTactic
namespace Go.Proofs.YtomidcbpnaajeaaGreat.Vau
open Go.RowKit F64 Cmd Bat Wid
set_option linter.unusedVariables false
set_option linter.unusedSimpArgs false

abbrev Itm := (Int × Int) × List Cmdn
/-- A writer: its id, its place. -/
abbrev Wr := (Int × Int) × Int
def wrote (s : List UInt8) (x : Cmdn) : Bool := decide (x.2.1 = s) && (right x && decide (x.1 ≠ 1))
/-- The places of the commands that write a key. -/
def logB (s : List UInt8) (id : Int × Int) : Nat → List Cmdn → List Wr
  | _, [] => []
  | k, x :: cs => (if wrote s x then [(id, (k : Int))] else []) ++ logB s id (k + 1) cs
def logOf (xs : List Itm) (s : List UInt8) : List Wr := xs.flatMap fun x => logB s x.1 0 x.2
def cmdsOf (xs : List Itm) : List Cmdn := xs.flatMap fun x => x.2
theorem logB_snoc (s : List UInt8) (id : Int × Int) : ∀ (cs : List Cmdn) (k : Nat) (x : Cmdn), logB s id k (cs ++ [x]) = logB s id k cs ++ (if wrote s x then [(id, ((k + cs.length : Nat) : Int))] else [])
  | [], k, x => by simp [logB]
  | y :: cs, k, x => by
    rw [List.cons_append]
    show _ ++ logB s id (k + 1) (cs ++ [x]) = _ ++ logB s id (k + 1) cs ++ _
    rw [logB_snoc s id cs (k + 1) x, List.append_assoc, show k + 1 + cs.length = k + (y :: cs).length by simp; omega]
theorem logB_len (s : List UInt8) (id : Int × Int) : ∀ (cs : List Cmdn) (k : Nat), (logB s id k cs).length ≤ cs.length
  | [], _ => Nat.le_refl _
  | x :: cs, k => by
    have := logB_len s id cs (k + 1)
    show (_ ++ logB s id (k + 1) cs).length ≤ _
    rw [List.length_append, List.length_cons]
    split <;> simp <;> omega
theorem logB_step {s : List UInt8} {id : Int × Int} {cs : List Cmdn} {k : Nat} (h : k < cs.length) : logB s id 0 (cs.take (k + 1)) = logB s id 0 (cs.take k) ++ (if wrote s (layC.at cs k) then [(id, (k : Int))] else []) := by
  rw [layC.take h, logB_snoc, List.length_take, Nat.min_eq_left (by omega), Nat.zero_add]
theorem logOf_snoc (xs : List Itm) (x : Itm) (s : List UInt8) : logOf (xs ++ [x]) s = logOf xs s ++ logB s x.1 0 x.2 := by unfold logOf; rw [List.flatMap_append]; simp
theorem cmdsOf_snoc (xs : List Itm) (x : Itm) : cmdsOf (xs ++ [x]) = cmdsOf xs ++ x.2 := by unfold cmdsOf; rw [List.flatMap_append]; simp
def layT : Lay Itm := ⟨((0, 0), []), fun o j => o + j * 3, fun w b o x => w.cell? ⟨b, o, none⟩ = some (.int .i64 x.1.1) ∧ w.cell? ⟨b, o + 1, none⟩ = some (.int .i64 x.1.2) ∧ ∃ v, w.cell? ⟨b, o + 2, none⟩ = some v ∧ layC.Row w v x.2,
  fun {w w' b o x} hb h ⟨h0, h1, v, h2, h3⟩ => ⟨(h.cell (p := ⟨b, o, none⟩) hb).trans h0, (h.cell (p := ⟨b, o + 1, none⟩) hb).trans h1, v, (h.cell (p := ⟨b, o + 2, none⟩) hb).trans h2, h3.on h⟩⟩
theorem cellT {w : World} {B off : Nat} {xs : List Itm} (h : layT.In w B off xs) {k : Nat} (hk : k < xs.length) {a b : Int} {cs : List Cmdn} (hx : layT.at xs k = ((a, b), cs)) :
    w.cell? ⟨B, off + k * 3, none⟩ = some (.int .i64 a) ∧ w.cell? ⟨B, off + k * 3 + 1, none⟩ = some (.int .i64 b) ∧ ∃ v, w.cell? ⟨B, off + k * 3 + 2, none⟩ = some v ∧ layC.Row w v cs := by
  have := h.cell k hk
  rw [hx] at this; exact this
/-- The element's third cell, in parts. -/
theorem partT {w : World} {B off : Nat} {xs : List Itm} (h : layT.In w B off xs) {k : Nat} (hk : k < xs.length) {a b : Int} {cs : List Cmdn} (hx : layT.at xs k = ((a, b), cs)) :
    ∃ (p : Option Addr) (cap : Nat), w.cell? ⟨B, off + k * 3 + 2, none⟩ = some (.slice p cs.length cap) ∧ cs.length ≤ cap ∧ cap ≤ 9223372036854775807 ∧ (cs.length = 0 ∨ ∃ B' off', p = some ⟨B', off', none⟩ ∧ Hid (layC.In w B' off' cs)) := by
  obtain ⟨-, -, v, h2, p, cap, rfl, h3, h4, h5⟩ := cellT h hk hx
  refine ⟨p, cap, h2, h3, h4, ?_⟩
  by_cases hz : cs = []
  · left; rw [hz]; rfl
  · right; obtain ⟨B', off', rfl, hi⟩ := h5 hz; exact ⟨B', off', rfl, Lib.hid hi⟩
def wfT (x : Itm) : Prop := ∀ c ∈ x.2, wfC c
def layW : Lay Wr := ⟨((0, 0), 0), fun o j => o + j * 3, fun w b o x => w.cell? ⟨b, o, none⟩ = some (.int .i64 x.1.1) ∧ w.cell? ⟨b, o + 1, none⟩ = some (.int .i64 x.1.2) ∧ w.cell? ⟨b, o + 2, none⟩ = some (.int .i64 x.2),
  fun {w w' b o x} hb h ⟨h0, h1, h2⟩ => ⟨(h.cell (p := ⟨b, o, none⟩) hb).trans h0, (h.cell (p := ⟨b, o + 1, none⟩) hb).trans h1, (h.cell (p := ⟨b, o + 2, none⟩) hb).trans h2⟩⟩
theorem three_at {a b c : Value} {w : World} {g o : Nat} (h0 : w.cell? ⟨g, o, none⟩ = some a) (h1 : w.cell? ⟨g, o + 1, none⟩ = some b) (h2 : w.cell? ⟨g, o + 2, none⟩ = some c) : ∀ i u, [a, b, c][i]? = some u → w.cell? ⟨g, o + i, none⟩ = some u
  | 0, u, hu => by injection hu with hu; subst hu; exact h0
  | 1, u, hu => by injection hu with hu; subst hu; exact h1
  | 2, u, hu => by injection hu with hu; subst hu; exact h2
  | i + 3, u, hu => by simp at hu
theorem three_one {a b c : Value} (h0 : a.oneCell' = true) (h1 : b.oneCell' = true) (h2 : c.oneCell' = true) : ∀ u ∈ [a, b, c], u.oneCell' = true := by
  intro u hu
  simp only [List.mem_cons, List.not_mem_nil, or_false] at hu
  rcases hu with rfl | rfl | rfl <;> assumption
def wdW : Wd Wr where
  L := layW
  enc x := [.int .i64 x.1.1, .int .i64 x.1.2, .int .i64 x.2]
  c := 3
  cpos := by decide
  pos _ _ := rfl
  len _ := rfl
  one _ := three_one rfl rfl rfl
  lies h := ⟨h 0 _ rfl, h 1 _ rfl, h 2 _ rfl⟩
  cells h := three_at h.1 h.2.1 h.2.2
theorem wtW : Wt wdW 46 74 (.agg #[.int .i64 0, .int .i64 0, .int .i64 0]) 24 := ⟨Tryz.underlying46, by kernel_rfl, by kernel_rfl, by kernel_rfl, by decide⟩
theorem cmdsOf_app (a b : List Itm) : cmdsOf (a ++ b) = cmdsOf a ++ cmdsOf b := by unfold cmdsOf; rw [List.flatMap_append]
theorem cmds_part {xs : List Itm} {i : Nat} (h : i < xs.length) : (cmdsOf (xs.take i)).length + (layT.at xs i).2.length ≤ (cmdsOf xs).length := by
  have e : cmdsOf xs = cmdsOf (xs.take (i + 1)) ++ cmdsOf (xs.drop (i + 1)) := by rw [← cmdsOf_app, List.take_append_drop]
  rw [e, layT.take h, cmdsOf_snoc, List.length_append, List.length_append]; omega
theorem logOf_le (s : List UInt8) : ∀ xs : List Itm, (logOf xs s).length ≤ (cmdsOf xs).length
  | [] => Nat.le_refl _
  | x :: xs => by
    have h1 := logOf_le s xs
    have h2 := logB_len s x.1 x.2 0
    show (logB s x.1 0 x.2 ++ logOf xs s).length ≤ (x.2 ++ cmdsOf xs).length
    rw [List.length_append, List.length_append]; omega
set_option maxHeartbeats 16000000 in
set_option maxRecDepth 100000 in
theorem rlog_any (v : Value) (xs : List Itm) (s : List UInt8) (w : World) (h : layT.Row w v xs) (hw : ∀ x ∈ xs, wfT x) (hl : (cmdsOf xs).length ≤ 100000) : Calls Tryz.prog 16 #[v, .string (str s)] w (layW.Gives (logOf xs s) w) := by
  obtain ⟨p, cap, rfl, h1, hd⟩ := h.parts
  obtain ⟨n, hn⟩ : ∃ n, n = xs.length := ⟨_, rfl⟩
  rw [← hn] at h1 hd ⊢
  have HW := Lib.hid hw
  have HN := Lib.hid hn
  have HL := Lib.hid hl
  have HT : Hid (logOf (xs.take n) s = logOf xs s) := Lib.hid (by rw [hn, List.take_length])
  have B0 := Lib.hid (Cmd.below_one w (.cells #[] 74))
  have O0 := Lib.hid (Wd.Own.made (D := wdW) 74 w (Nat.le_refl _))
  clear h hw hn hl
  go_enter Tryz.func16, Tryz.ntmps16
  go_wp2_with fail
  go_loopw [5, 6] (fun o j wr => ∃ i : Nat, j = .int .i64 i ∧ i ≤ n ∧ Hid (Below w.heap.size w wr) ∧ Hid (wdW.Own 74 wr w.heap.size o (logOf (xs.take i) s))) (fun _ j _ => n - (intOf j).toNat)
  case atStart => exact ⟨0, rfl, Nat.zero_le _, B0, O0⟩
  case round =>
    obtain ⟨i, rfl, hi, HX, HF⟩ := hrel
    have i00 : (0 : Int) ≤ i := by omega
    by_cases hin : i < n
    · have kn : (i : Int) < n := by omega
      obtain ⟨B, off, rfl, HC⟩ := hd.resolve_left (by omega)
      have hix : i < xs.length := by rw [← HN.out]; exact hin
      obtain ⟨a1, a2, cs, hx⟩ : ∃ a b cs, layT.at xs i = ((a, b), cs) := ⟨_, _, _, rfl⟩
      have HX1 := Lib.hid hx
      have HIX := Lib.hid hix
      have hwf := HW.out _ (layT.at_mem hix)
      rw [hx] at hwf
      have HWC := Lib.hid hwf
      have hpart := cmds_part hix
      rw [hx] at hpart
      have HLP : Hid ((logOf (xs.take i) s).length + cs.length ≤ 100000) := Lib.hid (Nat.le_trans (Nat.add_le_add_right (logOf_le s (xs.take i)) _) (Nat.le_trans hpart HL.out))
      obtain ⟨p', cap', hp2, hm1, hm2, hd'⟩ := partT HC.out hix hx
      obtain ⟨m, hm⟩ : ∃ m, m = cs.length := ⟨_, rfl⟩
      rw [← hm] at hp2 hm1 hd' HLP
      have HM := Lib.hid hm
      have HP2 := Lib.hid (fun W (hb : Below w.heap.size w W) => (hb.cell (p := ⟨B, off + i * 3 + 2, none⟩) HC.out.lt).trans hp2)
      have HP0 := Lib.hid (fun W (hb : Below w.heap.size w W) => cellT (HC.out.on hb) hix hx)
      obtain ⟨wq, hwq⟩ : ∃ wq, wq = wr := ⟨_, rfl⟩
      subst hwq
      clear hx hd hwf hix hm hp2 hpart
      go_wp2_with fail
      go_loopw [5, 7] (fun o j wr => ∃ k : Nat, j = .int .i64 k ∧ k ≤ m ∧ Hid (Below w.heap.size w wr) ∧ Hid (wdW.Own 74 wr w.heap.size o (logOf (xs.take i) s ++ logB s (a1, a2) 0 (cs.take k)))) (fun _ j _ => m - (intOf j).toNat)
      case atStart => exact ⟨0, rfl, Nat.zero_le _, HX, Lib.hid (by show wdW.Own _ _ _ _ (_ ++ []); rw [List.append_nil]; exact HF.out)⟩
      case round =>
        obtain ⟨k, rfl, hk, HY, HG⟩ := hrel
        have k00 : (0 : Int) ≤ k := by omega
        have e2 := HP2.out _ HY.out
        obtain ⟨e0, e1, -⟩ := HP0.out _ HY.out
        by_cases hkm : k < m
        · have km : (k : Int) < m := by omega
          obtain ⟨B', off', rfl, HD⟩ := hd'.resolve_left (by omega)
          have hkx : k < cs.length := by rw [← HM.out]; exact hkm
          obtain ⟨a, t, x, hx⟩ : ∃ a t x, layC.at cs k = (a, t, x) := ⟨_, _, _, rfl⟩
          have hwf := HWC.out _ (layC.at_mem hkx)
          rw [hx] at hwf
          obtain ⟨c0, c1, c2⟩ := cellC (HD.out.on HY.out) hkx hx
          have CR := Lib.hid (fun W => right_any a t x W hwf.1 (by have := hwf.2; simp only [] at this; omega))
          have he := str_dec t s
          have HE : Hid (wrote s (a, t, x) = (decide (t = s) && (cRight a t x && decide (a ≠ 1)))) := Lib.hid rfl
          have HS : Hid (logB s (a1, a2) 0 (cs.take (k + 1)) = logB s (a1, a2) 0 (cs.take k) ++ (if wrote s (a, t, x) then [((a1, a2), (k : Int))] else [])) := Lib.hid (by rw [logB_step hkx, hx])
          have hlen : (logOf (xs.take i) s ++ logB s (a1, a2) 0 (cs.take k)).length + 1 ≤ 1000000 := by
            have h1 := logB_len s (a1, a2) (cs.take k) 0
            have h2 := HLP.out
            rw [List.length_take] at h1
            rw [List.length_append]; omega
          have HLN := Lib.hid hlen
          clear hx hwf hkx hd' hlen
          generalize cRight a t x = r at CR HE
          generalize decide (t = s) = q at he HE
          have HA : Hid (wrote s (a, t, x) = true → ∀ o W, wdW.Own 74 W w.heap.size o (logOf (xs.take i) s ++ logB s (a1, a2) 0 (cs.take k) ++ [((a1, a2), (k : Int))]) → wdW.Own 74 W w.heap.size o (logOf (xs.take i) s ++ logB s (a1, a2) 0 (cs.take (k + 1)))) := Lib.hid fun hw o W ho => by rw [HS.out, if_pos hw, ← List.append_assoc]; exact ho
          have HB : Hid (wrote s (a, t, x) = false → ∀ o W, wdW.Own 74 W w.heap.size o (logOf (xs.take i) s ++ logB s (a1, a2) 0 (cs.take k)) → wdW.Own 74 W w.heap.size o (logOf (xs.take i) s ++ logB s (a1, a2) 0 (cs.take (k + 1)))) := Lib.hid fun hw o W ho => by rw [HS.out, if_neg (by rw [hw]; decide), List.append_nil]; exact ho
          cases q
          · go_wp2_with fail
            go_roundw
            case rel => exact ⟨k + 1, by go_num, by omega, HY, Lib.hid (HB.out (by rw [HE.out]; rfl) _ _ HG.out)⟩
            case measure => simp [intOf]; omega
          · cases r
            · go_wp2_with (go_at_call 32; (with_reducible refine (CR.out _).mono ?_); rintro E w1 ⟨rfl, hb⟩; have Y1 := Lib.hid (HY.out.trans (hb.mono HY.out.size)); have G1 := Lib.hid (HG.out.below hb); have f2 := HP2.out _ Y1.out; obtain ⟨g0, g1, g2⟩ := cellC (HD.out.on Y1.out) (by rw [← HM.out]; exact hkm) rfl; clear hb)
              go_roundw
              case rel => exact ⟨k + 1, by go_num, by omega, Y1, Lib.hid (HB.out (by rw [HE.out]; rfl) _ _ G1.out)⟩
              case measure => simp [intOf]; omega
            · by_cases ha : a = 1
              · have ha1 : (a == 1) = true := beq_iff_eq.2 ha
                have HDA : Hid (decide (a ≠ 1) = false) := Lib.hid (decide_eq_false (by simpa using ha))
                clear ha
                go_wp2_with (go_at_call 32; (with_reducible refine (CR.out _).mono ?_); rintro E w1 ⟨rfl, hb⟩; have Y1 := Lib.hid (HY.out.trans (hb.mono HY.out.size)); have G1 := Lib.hid (HG.out.below hb); have f2 := HP2.out _ Y1.out; have f3 := (hb.cell (p := ⟨B', off' + k * 3, none⟩) (HD.out.on HY.out).lt).trans c0; clear hb)
                go_roundw
                case rel => exact ⟨k + 1, by go_num, by omega, Y1, Lib.hid (HB.out (by rw [HE.out, HDA.out]; rfl) _ _ G1.out)⟩
                case measure => simp [intOf]; omega
              · have ha1 : (a == 1) = false := beq_eq_false_iff_ne.2 ha
                have HDA : Hid (decide (a ≠ 1) = true) := Lib.hid (decide_eq_true ha)
                clear ha
                go_wp2_with (first
                  | (go_at_call 32; (with_reducible refine (CR.out _).mono ?_); rintro E w1 ⟨rfl, hb⟩; have Y1 := Lib.hid (HY.out.trans (hb.mono HY.out.size)); have G1 := Lib.hid (HG.out.below hb); have f2 := HP2.out _ Y1.out; have f3 := (hb.cell (p := ⟨B', off' + k * 3, none⟩) (HD.out.on HY.out).lt).trans c0; obtain ⟨h0, h1, -⟩ := HP0.out _ Y1.out; clear hb)
                  | (at_builtin; refine wp_wide wtW rfl _ _ rfl w.heap.size _ _ rfl (G1.out.below (Cmd.below_one _ _)) (by have := Y1.out.size; simp only [World.size_alloc]; omega) _ [((a1, a2), (k : Int))] rfl (Wd.lone (D := wdW) _ w1 _ _ rfl) HLN.out ?_; intro v1 w3 o1 o2 o3; have Y3 := Lib.hid ((Y1.out.alloc Y1.out.size _).trans o2.out); clear o2 o3))
                go_roundw
                case rel => exact ⟨k + 1, by go_num, by omega, Y3, Lib.hid (HA.out (by rw [HE.out, HDA.out]; rfl) _ _ o1.out)⟩
                case measure => simp [intOf]; omega
        · obtain rfl : k = m := by omega
          have km : ¬ (k : Int) < k := by omega
          have HQ : Hid (logOf (xs.take (i + 1)) s = logOf (xs.take i) s ++ logB s (a1, a2) 0 (cs.take k)) := Lib.hid (by rw [layT.take HIX.out, HX1.out, logOf_snoc, HM.out, List.take_length])
          clear hd'
          go_wp2_with fail
          go_roundw
          case rel => exact ⟨i + 1, by go_num, by omega, HY, Lib.hid (by rw [HQ.out]; exact HG.out)⟩
          case measure => simp [intOf]; omega
    · obtain rfl : i = n := by omega
      have kn : ¬ (i : Int) < i := by omega
      clear hd
      go_wp2_with fail
      go_ret
      exact ⟨_, rfl, by rw [← HT.out]; exact HF.out.row, HX.out⟩
theorem und_id : Tryz.prog.underlying 32 = some (.struct (Tryz.prog.fieldsOf 32)) := by kernel_rfl
theorem und_wr : Tryz.prog.underlying 74 = some (.struct (Tryz.prog.fieldsOf 74)) := by kernel_rfl
theorem equal_idn (n : Nat) (w : World) (a b c d : Int) : (Op.equalIn (n + 2) 32 (.agg #[.int .i64 a, .int .i64 b]) (.agg #[.int .i64 c, .int .i64 d])).run Tryz.prog w = .ok (a == c && b == d) w := by
  have u3 := Tryz.underlying3
  have a3 := Tryz.isAgg3
  have z3 := Tryz.sizeOf3
  have hS := und_id
  have hp : Tryz.prog.stoodInHeld 32 = false := by kernel_rfl
  rw [run_equalIn_agg w (n + 1) 32 _ _ hS hp]
  simp only [Program.fieldsOf, Tryz.underlying32]
  go_simp
  by_cases h1 : a = c <;> by_cases h2 : b = d <;> simp [h1, h2]
theorem equal_wr (w : World) (a b k c d l : Int) : (Op.equalIn 10000 74 (.agg #[.int .i64 a, .int .i64 b, .int .i64 k]) (.agg #[.int .i64 c, .int .i64 d, .int .i64 l])).run Tryz.prog w = .ok ((a == c && b == d) && k == l) w := by
  have u3 := Tryz.underlying3
  have a3 := Tryz.isAgg3
  have z3 := Tryz.sizeOf3
  have a4 := Tryz.isAgg32
  have z4 := Tryz.sizeOf32
  have hS := und_wr
  have hI := fun w a b c d => equal_idn 9997 w a b c d
  have hp : Tryz.prog.stoodInHeld 74 = false := by kernel_rfl
  rw [show (10000 : Nat) = 9999 + 1 from rfl, run_equalIn_agg w 9999 74 _ _ hS hp]
  simp only [Program.fieldsOf, Tryz.underlying74]
  go_simp
  by_cases h1 : a = c <;> by_cases h2 : b = d <;> by_cases h3 : k = l <;> simp [h1, h2, h3]
@[go_sem] theorem neq_wr (w : World) (a b k c d l : Int) : (binOp .neq 74 (.agg #[.int .i64 a, .int .i64 b, .int .i64 k]) (.agg #[.int .i64 c, .int .i64 d, .int .i64 l])).run Tryz.prog w = .ok (.bool !((a == c && b == d) && k == l)) w := by
  rw [run_neq_struct, equal_wr]; rfl
theorem cellW {w : World} {B off : Nat} {zs : List Wr} (h : layW.In w B off zs) {k : Nat} (hk : k < zs.length) {a b c : Int} (hx : layW.at zs k = ((a, b), c)) :
    w.cell? ⟨B, off + k * 3, none⟩ = some (.int .i64 a) ∧ w.cell? ⟨B, off + k * 3 + 1, none⟩ = some (.int .i64 b) ∧ w.cell? ⟨B, off + k * 3 + 2, none⟩ = some (.int .i64 c) := by
  have := h.cell k hk
  rw [hx] at this; exact this
set_option maxHeartbeats 16000000 in
set_option maxRecDepth 100000 in
theorem slog_any (v u : Value) (xs ys : List Wr) (w : World) (h : layW.Row w v xs) (g : layW.Row w u ys) : Calls Tryz.prog 14 #[v, u] w (RetBelow (.bool (decide (xs = ys))) w) := by
  obtain ⟨p, cap, rfl, h1, hd⟩ := h.parts
  obtain ⟨q, caq, rfl, g1, gd⟩ := g.parts
  by_cases hl : xs.length = ys.length
  · have HLX := Lib.hid hl
    obtain ⟨n, hn⟩ : ∃ n, n = xs.length := ⟨_, rfl⟩
    have hm : n = ys.length := by omega
    rw [← hn] at h1 hd ⊢
    rw [← hm] at g1 gd ⊢
    have HN := Lib.hid hn
    have HM := Lib.hid hm
    have HXX := Lib.hid (fun (h : ∀ j, j < xs.length → layW.at xs j = layW.at ys j) => layW.ext hl h)
    generalize hr : decide (xs = ys) = r
    have HR := Lib.hid hr
    clear h g hn hm hr hl
    go_enter Tryz.func14, Tryz.ntmps14
    go_wp2_with fail
    go_loopw [5] (fun j wr => ∃ k : Nat, j = .int .i64 k ∧ k ≤ n ∧ Hid (Below w.heap.size w wr) ∧ Hid (∀ j, j < k → layW.at xs j = layW.at ys j)) (fun j _ => n - (intOf j).toNat)
    case atStart => exact ⟨0, rfl, Nat.zero_le _, Lib.hid (Below.refl _ _), Lib.hid fun j hj => absurd hj (Nat.not_lt_zero _)⟩
    case round =>
      obtain ⟨k, rfl, hk, HB, HNo⟩ := hrel
      have k0 : (0 : Int) ≤ k := by omega
      by_cases hkn : k < n
      · have kn : (k : Int) < n := by omega
        obtain ⟨B, off, rfl, HC⟩ := hd.resolve_left (by omega)
        obtain ⟨B', off', rfl, HD⟩ := gd.resolve_left (by omega)
        obtain ⟨a, b, c, hx⟩ : ∃ a b c, layW.at xs k = ((a, b), c) := ⟨_, _, _, rfl⟩
        obtain ⟨a', b', c', hy⟩ : ∃ a b c, layW.at ys k = ((a, b), c) := ⟨_, _, _, rfl⟩
        obtain ⟨c0, c1, c2⟩ := cellW (HC.out.on HB.out) (by rw [← HN.out]; exact hkn) hx
        obtain ⟨d0, d1, d2⟩ := cellW (HD.out.on HB.out) (by rw [← HM.out]; exact hkn) hy
        by_cases he : ((a, b), c) = ((a', b'), c')
        · have h3 : ((a == a' && b == b') && c == c') = true := by
            rw [Prod.mk.injEq, Prod.mk.injEq] at he; rw [he.1.1, he.1.2, he.2]; simp
          have HX : Hid (layW.at xs k = layW.at ys k) := Lib.hid (by rw [hx, hy]; exact he)
          have hq : ∀ w, (binOp .neq 74 (.agg #[.int .i64 a, .int .i64 b, .int .i64 c]) (.agg #[.int .i64 a', .int .i64 b', .int .i64 c'])).run Tryz.prog w = .ok (.bool false) w := fun w => by rw [neq_wr, h3]; rfl
          clear he hx hy h3 hd gd
          go_wp2_with fail
          go_quiet (fail)
          go_wp2_with fail
          go_roundw
          case rel => exact ⟨k + 1, by go_num, by omega, Lib.hid (HB.out.trans ((below_draws _ _).mono HB.out.size)), Lib.hid fun j hj => by
            by_cases e : j = k
            · rw [e]; exact HX.out
            · exact HNo.out j (by omega)⟩
          case measure => simp [intOf]; omega
        · have h3 : ((a == a' && b == b') && c == c') = false := by
            rw [Bool.eq_false_iff]; intro h; rw [Bool.and_eq_true, Bool.and_eq_true, beq_iff_eq, beq_iff_eq, beq_iff_eq] at h; exact he (by rw [h.1.1, h.1.2, h.2])
          have HX : Hid (layW.at xs k ≠ layW.at ys k) := Lib.hid (by rw [hx, hy]; exact he)
          have hq : ∀ w, (binOp .neq 74 (.agg #[.int .i64 a, .int .i64 b, .int .i64 c]) (.agg #[.int .i64 a', .int .i64 b', .int .i64 c'])).run Tryz.prog w = .ok (.bool true) w := fun w => by rw [neq_wr, h3]; rfl
          clear he hx hy h3 hd gd
          go_wp2_with fail
          go_quiet (fail)
          go_wp2_with fail
          go_ret
          refine ⟨ret_bool ?_, HB.out.trans ((below_draws _ _).mono HB.out.size)⟩
          rw [← HR.out]
          exact (decide_eq_false fun h => HX.out (by rw [h])).symm
      · obtain rfl : k = n := by omega
        have kn : ¬ (k : Int) < k := by omega
        clear hd gd
        go_wp2_with fail
        go_ret
        refine ⟨ret_bool ?_, HB.out⟩
        rw [← HR.out]
        exact (decide_eq_true (HXX.out fun j hj => HNo.out j (by rw [HN.out]; exact hj))).symm
  · have hr : decide (xs = ys) = false := decide_eq_false fun e => hl (by rw [e])
    have hq : ((xs.length : Int) == (ys.length : Int)) = false := beq_eq_false_iff_ne.2 (by omega)
    rw [hr]
    clear hd gd h g hl hr
    generalize xs.length = n at hq h1
    generalize ys.length = m at hq g1
    go_enter Tryz.func14, Tryz.ntmps14
    go_wp2_with fail
    go_ret
    exact ⟨rfl, Below.refl _ _⟩
abbrev Qt := (Int × Int) × (Option Addr × Nat × Nat)
def sl (q : Option Addr × Nat × Nat) : Value := .slice q.1 q.2.1 q.2.2
def layQ : Lay Qt := ⟨((0, 0), (none, 0, 0)), fun o j => o + j * 3, fun w b o x => w.cell? ⟨b, o, none⟩ = some (.int .i64 x.1.1) ∧ w.cell? ⟨b, o + 1, none⟩ = some (.int .i64 x.1.2) ∧ w.cell? ⟨b, o + 2, none⟩ = some (sl x.2),
  fun {w w' b o x} hb h ⟨h0, h1, h2⟩ => ⟨(h.cell (p := ⟨b, o, none⟩) hb).trans h0, (h.cell (p := ⟨b, o + 1, none⟩) hb).trans h1, (h.cell (p := ⟨b, o + 2, none⟩) hb).trans h2⟩⟩
def wdQ : Wd Qt where
  L := layQ
  enc x := [.int .i64 x.1.1, .int .i64 x.1.2, sl x.2]
  c := 3
  cpos := by decide
  pos _ _ := rfl
  len _ := rfl
  one _ := three_one rfl rfl rfl
  lies h := ⟨h 0 _ rfl, h 1 _ rfl, h 2 _ rfl⟩
  cells h := three_at h.1 h.2.1 h.2.2
theorem wtQ : Wt wdQ 36 44 (.agg #[.int .i64 0, .int .i64 0, .slice none 0 0]) 40 := ⟨Tryz.underlying36, by kernel_rfl, by kernel_rfl, by kernel_rfl, by decide⟩
/-- Which items the cells are. -/
structure Match (w : World) (qs : List Qt) (xs : List Itm) : Prop where
  len : qs.length = xs.length
  id : ∀ j, j < qs.length → (layQ.at qs j).1 = (layT.at xs j).1
  row : ∀ j, j < qs.length → layC.Row w (sl (layQ.at qs j).2) (layT.at xs j).2
theorem Match.on {w w' : World} {qs : List Qt} {xs : List Itm} (h : Match w qs xs) (hb : Below w.heap.size w w') : Match w' qs xs := ⟨h.len, h.id, fun j hj => (h.row j hj).on hb⟩
theorem Match.nil (w : World) : Match w [] [] := ⟨rfl, fun j hj => absurd hj (Nat.not_lt_zero _), fun j hj => absurd hj (Nat.not_lt_zero _)⟩
theorem Match.one {w : World} {a b : Int} {q : Option Addr × Nat × Nat} {cs : List Cmdn} (h : layC.Row w (sl q) cs) : Match w [((a, b), q)] [((a, b), cs)] :=
  ⟨rfl, fun j hj => by obtain rfl : j = 0 := by simpa using hj
                       rfl, fun j hj => by obtain rfl : j = 0 := by simpa using hj
                                           exact h⟩
theorem Match.of {w : World} {v : Value} {xs : List Itm} (h : layT.Row w v xs) : ∃ qs, layQ.Row w v qs ∧ Match w qs xs := by
  obtain ⟨p, cap, rfl, h1, h2, h3⟩ := h
  by_cases hz : xs = []
  · subst hz; exact ⟨[], ⟨p, cap, rfl, h1, h2, fun h => absurd rfl h⟩, .nil w⟩
  · obtain ⟨b, off, rfl, hi⟩ := h3 hz
    have ht : ∀ j : Nat, ∃ q : Option Addr × Nat × Nat, j < xs.length → w.cell? ⟨b, off + j * 3 + 2, none⟩ = some (sl q) ∧ layC.Row w (sl q) (layT.at xs j).2 := fun j => by
      by_cases hj : j < xs.length
      · obtain ⟨-, -, v, c2, hr⟩ := hi.cell j hj
        have hr' := hr
        obtain ⟨p, cap, rfl, h⟩ := hr'
        exact ⟨(p, _, cap), fun _ => ⟨c2, hr⟩⟩
      · exact ⟨(none, 0, 0), fun h => absurd h hj⟩
    obtain ⟨q, hq⟩ := Classical.axiomOfChoice ht
    have hlen : ((List.range xs.length).map fun j => (((layT.at xs j).1, q j) : Qt)).length = xs.length := by rw [List.length_map, List.length_range]
    have hat : ∀ j, j < xs.length → layQ.at ((List.range xs.length).map fun j => (((layT.at xs j).1, q j) : Qt)) j = ((layT.at xs j).1, q j) := fun j hj => by
      rw [layQ.at_get (by rw [hlen]; exact hj), List.getElem_map, List.getElem_range]
    refine ⟨_, ⟨_, cap, by rw [hlen], by rw [hlen]; exact h1, h2, fun _ => ⟨b, off, rfl, hi.lt, fun j hj => ?_⟩⟩, hlen, fun j hj => ?_, fun j hj => ?_⟩
    · rw [hlen] at hj
      rw [hat j hj]
      obtain ⟨c0, c1, -⟩ := hi.cell j hj
      exact ⟨c0, c1, (hq j hj).1⟩
    · rw [hlen] at hj; rw [hat j hj]
    · rw [hlen] at hj; rw [hat j hj]; exact (hq j hj).2
end Go.Proofs.YtomidcbpnaajeaaGreat.Vau
