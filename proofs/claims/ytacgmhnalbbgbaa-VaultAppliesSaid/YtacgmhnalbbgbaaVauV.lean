/- What the statements' tells and works of layer 13 (vault) give: true. Conditions: the vault lies in memory as its cells and its maps say, the items as their cells say; every command may be; bounds on how much there is. -/
import Derived.Test.YtacgmhnalbbgbaaVauS
import Derived.Test.YtacgmhnalbbgbaaVauO
import Derived.Test.YtacgmhnalbbgbaaBatE
namespace Go.Proofs.Ytacgmhnalbbgbaa.Vau
open Go.RowKit F64 Cmd Bat Cel Wid Go.Maps Go.WideElems Go.ChangeMaps Go.Sort
set_option linter.unusedVariables false
set_option linter.unusedSimpArgs false

/-! ### Plain -/
theorem fit_same' {f g : Bool} {z y : Nat} {c : Cell2} (h : Fit f z c) (k : Fit g y c) : sameC (f, z) (g, y) = true := alike_same (h.alike.trans k.alike.symm)
theorem cellB_none {s : Key} : ∀ (cs : List Cmdn) (c : Cell2), s ∉ keys cs → cellB s c cs = c
  | [], _, _ => rfl
  | x :: cs, c, h => by
    unfold keys at h
    rw [List.map_cons, List.mem_cons, not_or] at h
    show cellB s (stepK s c x) cs = c
    have e : stepK s c x = c := by unfold stepK; rw [if_neg (fun e => h.1 e.symm)]
    rw [e]; exact cellB_none cs c h.2
theorem logB_none {s : Key} {id : Int × Int} : ∀ (cs : List Cmdn) (k : Nat), s ∉ keys cs → logB s id k cs = []
  | [], _, _ => rfl
  | x :: cs, k, h => by
    unfold keys at h
    rw [List.map_cons, List.mem_cons, not_or] at h
    show (if wrote s x then [(id, (k : Int))] else []) ++ logB s id (k + 1) cs = []
    have e : wrote s x = false := by unfold wrote; rw [decide_eq_false (fun e => h.1 e.symm)]; rfl
    rw [e, logB_none cs (k + 1) h.2]; rfl
theorem keys_app (a b : List Cmdn) : keys (a ++ b) = keys a ++ keys b := by unfold keys; rw [List.map_append]
theorem cellL_none {s : Key} : ∀ (xs : List Itm) (c : Cell2), s ∉ keys (cmdsOf xs) → cellL s c xs = c
  | [], _, _ => rfl
  | x :: xs, c, h => by
    have e : cmdsOf (x :: xs) = x.2 ++ cmdsOf xs := rfl
    rw [e, keys_app, List.mem_append, not_or] at h
    show cellL s (cellB s c x.2) xs = c
    rw [cellB_none _ _ h.1]; exact cellL_none xs c h.2
theorem cellOf_none {s : Key} {xs : List Itm} (h : s ∉ keys (cmdsOf xs)) : cellOf xs s = (false, 0) := cellL_none xs _ h
theorem logOf_none {s : Key} : ∀ {xs : List Itm}, s ∉ keys (cmdsOf xs) → logOf xs s = []
  | [], _ => rfl
  | x :: xs, h => by
    have e : cmdsOf (x :: xs) = x.2 ++ cmdsOf xs := rfl
    rw [e, keys_app, List.mem_append, not_or] at h
    show logB s x.1 0 x.2 ++ logOf xs s = []
    rw [logB_none _ _ h.1, logOf_none h.2]; rfl
theorem keysOf_mem (xs : List Itm) (s : Key) : s ∈ keysOf xs ↔ (cellOf xs s).1 = true := by
  unfold keysOf
  rw [List.mem_filter]
  refine ⟨fun h => h.2, fun h => ⟨?_, h⟩⟩
  unfold allOf
  rw [kset_mem]
  refine Classical.byContradiction fun hn => ?_
  rw [cellOf_none hn] at h; cases h
theorem keysOf_rise (xs : List Itm) : kset (keysOf xs) = keysOf xs := rise_eq (kset_rise _) ((kset_rise (keys (cmdsOf xs))).filter _) fun s => kset_mem _ _
/-- Every command may be. -/
def RightAll (xs : List Itm) : Prop := ∀ x ∈ xs, bErr x.2 = 0
theorem right_key {xs : List Itm} (h : RightAll xs) {s : Key} (hs : s ∈ keys (cmdsOf xs)) : s.length ≤ 12 := by
  unfold keys cmdsOf at hs
  rw [List.mem_map] at hs
  obtain ⟨c, hc, rfl⟩ := hs
  rw [List.mem_flatMap] at hc
  obtain ⟨x, hx, hc⟩ := hc
  have hr := (bErr_ok (h x hx)).2 c hc
  exact (key_parts (right_parts hr).1).2.1
theorem keysOf_few {xs : List Itm} (h : RightAll xs) : ∀ s ∈ keysOf xs, s.length ≤ 1000 := fun s hs => by
  have h1 : s ∈ allOf xs := (List.mem_filter.1 hs).1
  unfold allOf at h1
  rw [kset_mem] at h1
  have := right_key h h1
  omega
theorem cmds_few {xs : List Itm} (h : RightAll xs) : (cmdsOf xs).length ≤ xs.length * 8 := cmdsOf_len (m := 8) fun x hx => (bErr_ok (h x hx)).1
theorem kC_cellOf (xs : List Itm) (x : Itm) : kC (cellOf xs) x.2 = cellOf (xs ++ [x]) := by funext t; unfold kC; rw [cellOf_snoc]
theorem kL_logOf (xs : List Itm) (x : Itm) : kL (logOf xs) x.1 x.2 = logOf (xs ++ [x]) := by funext t; unfold kL; rw [logOf_snoc]

/-! ### tells -/
set_option maxHeartbeats 16000000 in
set_option maxRecDepth 100000 in
theorem vtells_any {w : World} {base : Nat} {F : Nat → Prop} {g : Nat} {N : Nat} {xs : List Itm} (V : VP w base F g (cellOf xs) (logOf xs) N (xs.length : Int)) (hN : N ≤ 100000) (l : Value) (s : Key) (h : layT.Row w l xs) (hw : ∀ x ∈ xs, wfT x) (hr : RightAll xs) (hx : xs.length ≤ 1000) (hs : s.length ≤ 140737488351232) :
    Calls Try.prog 13 #[vptr g, l, .string (str s)] w (RetBelow (.bool true) w) := by
  have hc : (cmdsOf xs).length ≤ 100000 := Nat.le_trans (cmds_few hr) (by omega)
  have hll : ∀ t, (logOf xs t).length ≤ 100000 := fun t => Nat.le_trans (logOf_le t xs) hc
  have C1 : Hid (∀ W, Below w.heap.size w W → Calls Try.prog 24 #[.pointer (some ⟨g, 0, none⟩), .string (str s)] W (GivesFold (cellOf xs s) W)) := Lib.hid fun W hb => vget_any (V.on hb) s hs
  have C2 : Hid (∀ W, Below w.heap.size w W → Calls Try.prog 21 #[l, .string (str s)] W (GivesFold (cellOf xs s) W)) := Lib.hid fun W hb => rcell_any l xs s W (h.on hb) hw
  have C3 : Hid (∀ W, Below w.heap.size w W → Calls Try.prog 35 #[.pointer (some ⟨g, 0, none⟩)] W (layS.Gives (keysOf xs) W)) := Lib.hid fun W hb => by
    have := vkeys_any (V.on hb) hN (keysOf xs) (keysOf_mem xs)
    rw [keysOf_rise] at this; exact this
  have C4 : Hid (∀ W, Below w.heap.size w W → Calls Try.prog 36 #[l] W (layS.Gives (keysOf xs) W)) := Lib.hid fun W hb => rkeys_any l xs W (h.on hb) hw hc
  have C5 : Hid (∀ W, Below w.heap.size w W → Calls Try.prog 25 #[.pointer (some ⟨g, 0, none⟩), .string (str s)] W (GivesL (logOf xs s) W)) := Lib.hid fun W hb => vlog_any (V.on hb) s hs (hll s)
  have C6 : Hid (∀ W, Below w.heap.size w W → Calls Try.prog 23 #[l, .string (str s)] W (layW.Gives (logOf xs s) W)) := Lib.hid fun W hb => rlog_any l xs s W (h.on hb) hw hc
  have C7 : Hid (∀ W, Below w.heap.size w W → Calls Try.prog 17 #[.pointer (some ⟨g, 0, none⟩)] W (RetBelow (.int .i64 (xs.length : Int)) W)) := Lib.hid fun W hb => vcount_any (V.on hb)
  have C8 : Hid (∀ W, Below w.heap.size w W → Calls Try.prog 19 #[.pointer (some ⟨g, 0, none⟩)] W (Dig.RetBelowN (digV (cellOf xs) (keysOf xs)) W)) := Lib.hid fun W hb => by
    have := vdigest_any (V.on hb) hN (keysOf xs) (keysOf_mem xs) (by rw [keysOf_rise]; exact keysOf_few hr)
    rw [keysOf_rise] at this; exact this
  have C9 : Hid (∀ W, Below w.heap.size w W → Calls Try.prog 37 #[l] W (Dig.RetBelowN (digV (cellOf xs) (keysOf xs)) W)) := Lib.hid fun W hb => rdigest_any l xs W (h.on hb) hw hc (keysOf_few hr)
  obtain ⟨p, cap, rfl, -⟩ := h
  generalize cellOf xs s = c at C1 C2
  generalize digV (cellOf xs) (keysOf xs) = d at C8 C9
  generalize keysOf xs = kk at C3 C4
  generalize logOf xs s = lg at C5 C6
  generalize xs.length = n at C2 C4 C6 C7 C9 ⊢
  have B0 := Lib.hid (Below.refl w.heap.size w)
  unfold vptr
  clear V hN hw hr hx hs hc hll
  go_enter Try.func13, Try.ntmps13
  go_wp2_with (first
    | (go_at_call 24; ((with_reducible refine (C1.out _ B0.out).mono ?_); rintro E w1 ⟨f1, z1, rfl, hf, hb⟩; have F1 := Lib.hid hf; have B1 := Lib.hid (B0.out.trans (hb.mono B0.out.size)); clear hf hb))
    | (go_at_call 21; ((with_reducible refine (C2.out _ B1.out).mono ?_); rintro E w2 ⟨f2, z2, rfl, hf, hb⟩; have B2 := Lib.hid (B1.out.trans (hb.mono B1.out.size)); have CS : Hid (∀ W, Calls Try.prog 20 #[.agg #[.bool f1, .float .f64 z1], .agg #[.bool f2, .float .f64 z2]] W (RetBelow (.bool true) W)) := Lib.hid (fun W => (rcsame (f1, z1) (f2, z2) W F1.out.lt hf.lt).mono fun E w' h => by rw [fit_same' F1.out hf] at h; exact h); clear hf hb))
    | (go_at_call 20; ((with_reducible refine (CS.out _).mono ?_); rintro E w3 ⟨rfl, hb⟩; have B3 := Lib.hid (B2.out.trans (hb.mono B2.out.size)); clear hb))
    | (go_at_call 35; ((with_reducible refine (C3.out _ B3.out).mono ?_); rintro E w4 ⟨v4, rfl, hr4, hb⟩; have R4 := Lib.hid hr4; have B4 := Lib.hid (B3.out.trans (hb.mono B3.out.size)); clear hr4 hb))
    | (go_at_call 36; ((with_reducible refine (C4.out _ B4.out).mono ?_); rintro E w5 ⟨v5, rfl, hr5, hb⟩; have CT : Hid (Calls Try.prog 34 #[v4, v5] w5 (RetBelow (.bool true) w5)) := Lib.hid ((sametexts_any v4 v5 kk kk w5 (R4.out.on hb) hr5).mono fun E w' h => by rw [decide_eq_true rfl] at h; exact h); have B5 := Lib.hid (B4.out.trans (hb.mono B4.out.size)); clear hr5 hb))
    | (go_at_call 34; ((with_reducible refine CT.out.mono ?_); rintro E w6 ⟨rfl, hb⟩; have B6 := Lib.hid (B5.out.trans (hb.mono B5.out.size)); clear hb))
    | (go_at_call 25; ((with_reducible refine (C5.out _ B6.out).mono ?_); rintro E w7 ⟨v7, rfl, ho7, hb⟩; have R7 := Lib.hid (Wd.Own.row ho7); have B7 := Lib.hid (B6.out.trans (hb.mono B6.out.size)); clear ho7 hb))
    | (go_at_call 23; ((with_reducible refine (C6.out _ B7.out).mono ?_); rintro E w8 ⟨v8, rfl, hr8, hb⟩; have CL : Hid (Calls Try.prog 22 #[v7, v8] w8 (RetBelow (.bool true) w8)) := Lib.hid ((slog_any v7 v8 lg lg w8 (R7.out.on hb) hr8).mono fun E w' h => by rw [decide_eq_true rfl] at h; exact h); have B8 := Lib.hid (B7.out.trans (hb.mono B7.out.size)); clear hr8 hb))
    | (go_at_call 22; ((with_reducible refine CL.out.mono ?_); rintro E w9 ⟨rfl, hb⟩; have B9 := Lib.hid (B8.out.trans (hb.mono B8.out.size)); clear hb))
    | (go_at_call 17; ((with_reducible refine (C7.out _ B9.out).mono ?_); rintro E w10 ⟨rfl, hb⟩; have B10 := Lib.hid (B9.out.trans (hb.mono B9.out.size)); clear hb))
    | (go_at_call 19; ((with_reducible refine (C8.out _ B10.out).mono ?_); rintro E w11 ⟨rfl, hb⟩; have B11 := Lib.hid (B10.out.trans (hb.mono B10.out.size)); clear hb))
    | (go_at_call 37; ((with_reducible refine (C9.out _ B11.out).mono ?_); rintro E w12 ⟨rfl, hb⟩; have B12 := Lib.hid (B11.out.trans (hb.mono B11.out.size)); clear hb)))
  go_ret
  exact ⟨rfl, B12.out⟩
end Go.Proofs.Ytacgmhnalbbgbaa.Vau

/- What the statements' works of layer 13 (vault) gives: true. No condition. -/
namespace Go.Proofs.Ytacgmhnalbbgbaa.Vau
open Go.RowKit F64 Cmd Bat Cel Wid Go.Maps Go.WideElems Go.ChangeMaps Go.Sort
set_option linter.unusedVariables false
set_option linter.unusedSimpArgs false

def playC : List Cmdn := [(2, [97], 4611686018427387904), (1, [97], 0)]
abbrev playO : Obj := .cells #[.int .i64 2, .string ⟨#[97]⟩, .float .f64 4611686018427387904, .int .i64 1, .string ⟨#[97]⟩, .float .f64 0] 37
theorem play_row {W : World} {b : Nat} (h : W.heap[b]? = some (.cells #[.int .i64 2, .string ⟨#[97]⟩, .float .f64 4611686018427387904, .int .i64 1, .string ⟨#[97]⟩, .float .f64 0] 37 (0, 0))) : layC.Row W (.slice (some ⟨b, 0, none⟩) 2 2) playC := by
  refine ⟨_, 2, rfl, Nat.le_refl _, by omega, fun _ => ⟨b, 0, rfl, (Array.getElem?_eq_some_iff.1 h).1, fun j hj => ?_⟩⟩
  have hj' : j < 2 := hj
  have hc : ∀ i (hi : i < 6), W.cell? ⟨b, i, none⟩ = (#[.int .i64 2, .string ⟨#[97]⟩, .float .f64 4611686018427387904, .int .i64 1, .string ⟨#[97]⟩, .float .f64 0] : Array Value)[i]? := fun i hi => by simp [World.cell?, h]
  match j, hj' with
  | 0, _ => exact ⟨hc 0 (by omega), hc 1 (by omega), hc 2 (by omega)⟩
  | 1, _ => exact ⟨hc 3 (by omega), hc 4 (by omega), hc 5 (by omega)⟩
theorem canon_two {z : Nat} (h : canon z = 4611686018427387904) : z = 4611686018427387904 := by
  unfold canon at h
  split at h
  · omega
  · exact h
theorem play_res0 : (resA noC (1, 1) playC 0).2.2 = (false, 0) := by decide
theorem play_res1 : (resA noC (1, 1) playC 1).2.2 = (true, 4611686018427387904) := by decide
theorem play_cell : kC noC playC [97] = (true, 4611686018427387904) := by decide
theorem play_log : kL noL (1, 1) playC [97] = [((1, 1), 0)] := by decide
theorem play_ok : bErr playC = 0 := by decide
theorem play_wf : ∀ x ∈ playC, wfC x := by
  intro x hx
  unfold playC at hx
  rw [List.mem_cons, List.mem_singleton] at hx
  rcases hx with rfl | rfl
  · exact ⟨by decide, by decide⟩
  · exact ⟨by decide, by decide⟩
def GivesPlay (w : World) (g : Nat) (E : Ending) (w' : World) : Prop := ∃ (tb : Nat) (G : Nat → Prop), E = .returned (.tuple #[.slice (some ⟨tb, 0, none⟩) 2 2, .int .i64 0]) ∧ w'.cell? ⟨tb, 3, none⟩ = some (.bool false) ∧ w'.cell? ⟨tb, 9, none⟩ = some (.float .f64 4611686018427387904) ∧
  VP w' w.heap.size G g (kC noC playC) (kL noL (1, 1) playC) 4 1 ∧ Below w.heap.size w w'
theorem play_apply {w w1 : World} {g : Nat} (V : VP w1 w.heap.size (More (fun _ => False) w.heap.size w1.heap.size) g noC noL 0 0) (hb : Below w.heap.size w w1) : Calls Try.prog 9 #[.pointer (some ⟨g, 0, none⟩), .agg #[.int .i64 1, .int .i64 1], .slice (some ⟨w1.heap.size, 0, none⟩) 2 2] (w1.alloc (.cells #[.int .i64 2, .string ⟨#[97]⟩, .float .f64 4611686018427387904, .int .i64 1, .string ⟨#[97]⟩, .float .f64 0] 37)) (GivesPlay w g) := by
  have hb2 := Cmd.below_one w1 playO
  have hfoot := V.foot
  refine (vapply_any (V.on hb2) (Nat.le_trans hb.size hb2.size) 1 1 (.slice (some ⟨w1.heap.size, 0, none⟩) 2 2) playC (fun W ho => ?_) play_wf play_ok (by omega) (fun s => Nat.zero_le _) (by omega) (by omega)).mono ?_
  · refine play_row ((ho.block w1.heap.size (by simp) (fun e => ?_)).trans (heap_alloc_new w1 _))
    have := (hfoot _ e).2; omega
  · rintro E w' ⟨tb, ys, G, hE, ht, hlen, hfit, hv, ho, hG, htb⟩
    have h0 := ht.cell 0 (by rw [hlen]; decide)
    have h1 := ht.cell 1 (by rw [hlen]; decide)
    have f0 := (hfit.one 0 (by rw [hlen]; decide)).cell
    have f1 := (hfit.one 1 (by rw [hlen]; decide)).cell
    have e0 : layR.at (resQ noC (1, 1) playC playC.length) 0 = resA noC (1, 1) playC 0 := rfl
    have e1 : layR.at (resQ noC (1, 1) playC playC.length) 1 = resA noC (1, 1) playC 1 := rfl
    rw [e0, play_res0] at f0
    rw [e1, play_res1] at f1
    obtain ⟨-, -, -, c3, -⟩ := h0
    obtain ⟨-, -, -, -, c4⟩ := h1
    rw [f0.found] at c3
    rw [canon_two (f1.val.trans (by decide))] at c4
    refine ⟨tb, G, hE, c3, c4, hv, ?_⟩
    exact (hb.trans (hb2.mono hb.size)).trans (ho.low (Nat.le_trans hb.size hb2.size) (fun k hk => (hfoot k hk).1))
set_option maxHeartbeats 16000000 in
set_option maxRecDepth 100000 in
theorem vplay_any (w : World) : Calls Try.prog 6 #[] w (RetBelow (.bool true) w) := by
  have CN := Lib.hid (vnew_any w w.heap.size (Nat.le_refl _))
  unfold GivesV vptr at CN
  go_enter Try.func6, Try.ntmps6
  go_wp2_with (first
    | (go_at_call 7; ((with_reducible refine CN.out.mono ?_); rintro E w1 ⟨g, rfl, hv, hb⟩; have HV := Lib.hid hv; have B1 := Lib.hid hb; have CA := Lib.hid (play_apply HV.out B1.out); clear hv hb))
    | (go_at_call 9; ((with_reducible refine CA.out.mono ?_); rintro E w3 ⟨tb, G, rfl, c3, c9, hv, hb⟩; have HV3 := Lib.hid hv; have B3 := Lib.hid hb; have CG : Hid (Calls Try.prog 24 #[.pointer (some ⟨g, 0, none⟩), .string ⟨#[97]⟩] w3 (GivesFold (true, 4611686018427387904) w3)) := Lib.hid (by have := vget_any HV3.out [97] (by decide); rw [play_cell] at this; exact this); clear hv hb))
    | (go_at_call 24; ((with_reducible refine CG.out.mono ?_); rintro E w4 ⟨f, z, rfl, hf, hb⟩; obtain rfl := canon_two (hf.val.trans (by decide)); have HV4 := Lib.hid (HV3.out.on hb); have B4 := Lib.hid (B3.out.trans (hb.mono B3.out.size)); have CL : Hid (Calls Try.prog 25 #[.pointer (some ⟨g, 0, none⟩), .string ⟨#[97]⟩] w4 (GivesL [((1, 1), 0)] w4)) := Lib.hid (by have := vlog_any HV4.out [97] (by decide) (by rw [play_log]; decide); rw [play_log] at this; exact this); clear hf hb))
    | (go_at_call 25; ((with_reducible refine CL.out.mono ?_); rintro E w5 ⟨v5, rfl, ho, hb⟩; obtain ⟨p5, c5, rfl, -⟩ := Wd.Own.row ho; have HV5 := Lib.hid (HV4.out.on hb); have B5 := Lib.hid (B4.out.trans (hb.mono B4.out.size)); have CC : Hid (Calls Try.prog 17 #[.pointer (some ⟨g, 0, none⟩)] w5 (RetBelow (.int .i64 1) w5)) := Lib.hid (vcount_any HV5.out); clear ho hb))
    | (go_at_call 17; ((with_reducible refine CC.out.mono ?_); rintro E w6 ⟨rfl, hb⟩; have B6 := Lib.hid (B5.out.trans (hb.mono B5.out.size)); clear hb)))
  go_ret
  exact ⟨rfl, B6.out⟩
end Go.Proofs.Ytacgmhnalbbgbaa.Vau

/- Apply told at once, whether the batch may be or not; batches that do not conflict may be swapped, plain (layer 13, vault). Conditions: those in each statement. -/
namespace Go.Proofs.Ytacgmhnalbbgbaa.Vau
open Go.RowKit F64 Cmd Bat Cel Wid Go.Maps Go.WideElems Go.ChangeMaps Go.Sort
set_option linter.unusedVariables false
set_option linter.unusedSimpArgs false

/-! ### What is told, in memory -/
def TR (v : Value) (ys : List Rs) (W : World) : Prop := (v = .slice none 0 0 ∧ ys = []) ∨ ∃ tb n, v = .slice (some ⟨tb, 0, none⟩) n n ∧ Tl tb n ys W ∧ ys.length = n ∧ n ≤ 8
theorem TR.row {v : Value} {ys : List Rs} {W : World} (h : TR v ys W) : layR.Row W v ys := by
  rcases h with ⟨rfl, rfl⟩ | ⟨tb, n, rfl, h1, h2, h3⟩
  · exact ⟨none, 0, rfl, Nat.le_refl _, by omega, fun h => absurd rfl h⟩
  · exact h1.row h2 (by omega)
theorem TR.shape {v : Value} {ys : List Rs} {W : World} (h : TR v ys W) : ∃ p c, v = .slice p ys.length c := by
  obtain ⟨p, c, e, _⟩ := h.row
  exact ⟨p, c, e⟩
theorem TR.same {v : Value} {ys : List Rs} {W W' : World} (h : TR v ys W) (hb : ∀ k, v.ownBlock = some k → W'.heap[k]? = W.heap[k]?) : TR v ys W' := by
  rcases h with h | ⟨tb, n, rfl, h1, h2, h3⟩
  · exact .inl h
  · exact .inr ⟨tb, n, rfl, h1.same (hb tb rfl), h2, h3⟩
theorem TR.lt {v : Value} {ys : List Rs} {W : World} (h : TR v ys W) : ∀ k, v.ownBlock = some k → k < W.heap.size := fun k hk => by
  rcases h with ⟨rfl, _⟩ | ⟨tb, n, rfl, h1, _⟩
  · cases hk
  · cases hk; exact h1.lt
theorem TR.on {v : Value} {ys : List Rs} {W W' : World} (h : TR v ys W) (hb : Below W.heap.size W W') : TR v ys W' := h.same fun k hk => hb.block k (h.lt k hk)
theorem TR.far {v : Value} {ys : List Rs} {W W' : World} {G : Nat → Prop} (h : TR v ys W) (ho : Only G W W') (hG : ∀ k, v.ownBlock = some k → ¬ G k) : TR v ys W' := h.same fun k hk => ho.block k (h.lt k hk) (hG k hk)

/-! ### Apply -/
def stC (C : Key → Cell2) (cs : List Cmdn) : Key → Cell2 := if bErr cs = 0 then kC C cs else C
def stL (L : Key → List Wr) (id : Int × Int) (cs : List Cmdn) : Key → List Wr := if bErr cs = 0 then kL L id cs else L
def stR (C : Key → Cell2) (id : Int × Int) (cs : List Cmdn) : List Rs := if bErr cs = 0 then resQ C id cs cs.length else []
def GivesAp (base : Nat) (F : Nat → Prop) (g : Nat) (C : Key → Cell2) (L : Key → List Wr) (N : Nat) (cnt : Int) (id : Int × Int) (cs : List Cmdn) (w : World) (E : Ending) (w' : World) : Prop :=
  ∃ (t : Value) (ys : List Rs) (G : Nat → Prop) (c' : Int), E = .returned (.tuple #[t, .int .i64 (bErr cs)]) ∧ TR t ys w' ∧ Fits ys (stR C id cs) ∧ VP w' base G g (stC C cs) (stL L id cs) (N + 16) c' ∧ Only F w w' ∧ (∀ j, G j → F j ∨ w.heap.size ≤ j) ∧ (∀ k, t.ownBlock = some k → ¬ G k ∧ w.heap.size ≤ k) ∧ (c' = if bErr cs = 0 then cnt + 1 else cnt)
theorem vap_any {w : World} {base : Nat} {F : Nat → Prop} {g : Nat} {C : Key → Cell2} {L : Key → List Wr} {N : Nat} {cnt : Int} (V : VP w base F g C L N cnt) (hbase : base ≤ w.heap.size) (a b : Int) (v : Value) (cs : List Cmdn) (hrow : ∀ W, Only F w W → layC.Row W v cs) (hw : ∀ x ∈ cs, wfC x) (hN : N ≤ 50000) (hL : ∀ s, (L s).length ≤ 50000) (hc0 : 0 ≤ cnt) (hc1 : cnt ≤ 100000) :
    Calls Try.prog 9 #[.pointer (some ⟨g, 0, none⟩), .agg #[.int .i64 a, .int .i64 b], v] w (GivesAp base F g C L N cnt (a, b) cs w) := by
  by_cases he : bErr cs = 0
  · refine (vapply_any V hbase a b v cs hrow hw he hN hL hc0 hc1).mono ?_
    rintro E w' ⟨tb, ys, G, hE, ht, hlen, hfit, hv, ho, hG, htb⟩
    have h8 := (bErr_ok he).1
    have hfoot := V.foot
    refine ⟨_, ys, G, cnt + 1, by rw [he]; exact hE, .inr ⟨tb, cs.length, rfl, ht, hlen, h8⟩, by unfold stR; rw [if_pos he]; exact hfit, ?_, ho, fun j hj => (hG j hj).imp id (fun e => by omega), fun k hk => ?_, by rw [if_pos he]⟩
    · unfold stC stL
      rw [if_pos he, if_pos he]
      exact hv.mono (by omega)
    · have hk' : tb = k := Option.some.inj hk
      subst hk'
      refine ⟨fun hg => ?_, htb⟩
      rcases hG _ hg with e | e
      · have := (hfoot _ e).2; omega
      · omega
  · refine (vapply_wrong g a b v cs w (hrow w (Only.refl F w)) hw he).mono ?_
    rintro E w' ⟨hE, hb⟩
    refine ⟨_, [], F, cnt, hE, .inl ⟨rfl, rfl⟩, by unfold stR; rw [if_neg he]; exact Fits.nil, ?_, Only.of F hb, fun j hj => .inl hj, fun k hk => (by cases hk), by rw [if_neg he]⟩
    unfold stC stL
    rw [if_neg he, if_neg he]
    exact (V.on hb).mono (by omega)
theorem VP.keys {w : World} {base : Nat} {F : Nat → Prop} {g : Nat} {C : Key → Cell2} {L : Key → List Wr} {N : Nat} {cnt : Int} (V : VP w base F g C L N cnt) : ∃ kk : List Key, (∀ s, s ∈ kk ↔ (C s).1 = true) ∧ ∀ s ∈ kset kk, s.length ≤ 1000 := by
  obtain ⟨mc, ml, f, h, V⟩ := V
  obtain ⟨D, ks, hD, S, hle⟩ := V.cm
  refine ⟨ks, fun s => by rw [S.mem s, V.isome s], fun s hs => S.few s ?_⟩
  rw [kset_mem] at hs
  exact (S.mem s).1 hs
theorem stL_len {L : Key → List Wr} {id : Int × Int} {cs : List Cmdn} {m : Nat} (h : ∀ s, (L s).length ≤ m) (s : Key) : (stL L id cs s).length ≤ m + 8 := by
  unfold stL
  split
  · rename_i he
    have := kL_len (id := id) (cs := cs) h s
    have := (bErr_ok he).1
    omega
  · have := h s; omega

/-! ### Swapped, plain -/
theorem do_pl (c : Cell2) (k : Int) (s : Key) (x : Nat) : Pl (doC c k s x).1 := by
  intro h
  unfold doC at h ⊢
  split at h <;> rename_i h1
  · rw [if_pos h1]; exact fz_pl c h
  · rw [if_neg h1]
    split at h <;> rename_i h2
    · cases h
    · rw [if_neg h2]
      split at h <;> rename_i h3
      · rw [if_pos h3]
      · rw [if_neg h3]
        split at h <;> rename_i h4
        · cases h
        · rw [if_neg h4]; exact fz_pl c h
theorem step_pl {s : Key} {c : Cell2} (h : Pl c) (x : Cmdn) : Pl (stepK s c x) := by
  unfold stepK; split
  · exact do_pl _ _ _ _
  · exact h
theorem cellB_pl {s : Key} : ∀ (cs : List Cmdn) (c : Cell2), Pl c → Pl (cellB s c cs)
  | [], _, h => h
  | x :: cs, c, h => cellB_pl cs (stepK s c x) (step_pl h x)
theorem stC_pl {C : Key → Cell2} {cs : List Cmdn} (h : ∀ s, Pl (C s)) (s : Key) : Pl (stC C cs s) := by
  unfold stC; split
  · exact cellB_pl cs _ (h s)
  · exact h s
theorem fz_of_pl {c : Cell2} (h : Pl c) : fz c = c := by
  unfold fz; split
  · rfl
  · rename_i hc
    have h1 : c.1 = false := Bool.eq_false_iff.2 hc
    have h2 := h h1
    exact Prod.ext h1.symm h2.symm
/-- Whoever has the key does not write it. -/
def Quiet (s : Key) (cs : List Cmdn) : Prop := ∀ x ∈ cs, x.2.1 = s → right x = true ∧ x.1 = 1
theorem quiet_cell {s : Key} : ∀ (cs : List Cmdn) (c : Cell2), Pl c → Quiet s cs → cellB s c cs = c
  | [], _, _, _ => rfl
  | x :: cs, c, hp, hq => by
    show cellB s (stepK s c x) cs = c
    have e : stepK s c x = c := by
      unfold stepK; split
      · rename_i hk
        obtain ⟨hr, h1⟩ := hq x List.mem_cons_self hk
        unfold doC
        rw [if_neg (by unfold right at hr; rw [hr]; decide), if_neg (by omega), if_neg (by omega), if_neg (by omega)]
        exact fz_of_pl hp
      · rfl
    rw [e]; exact quiet_cell cs c hp fun y hy => hq y (List.mem_cons_of_mem _ hy)
theorem quiet_log {s : Key} {id : Int × Int} : ∀ (cs : List Cmdn) (k : Nat), Quiet s cs → logB s id k cs = []
  | [], _, _ => rfl
  | x :: cs, k, hq => by
    show (if wrote s x then [(id, (k : Int))] else []) ++ logB s id (k + 1) cs = []
    have e : wrote s x = false := by
      unfold wrote
      by_cases hk : x.2.1 = s
      · rw [(hq x List.mem_cons_self hk).2]; simp
      · rw [decide_eq_false hk]; rfl
    rw [e, quiet_log cs (k + 1) fun y hy => hq y (List.mem_cons_of_mem _ hy)]; rfl
theorem quiet_or {xs ys : List Cmdn} (hx : ∀ x ∈ xs, right x = true) (hy : ∀ y ∈ ys, right y = true) (hc : bConf xs ys = false) (s : Key) : s ∉ keys xs ∨ s ∉ keys ys ∨ (Quiet s xs ∧ Quiet s ys) := by
  by_cases h1 : s ∈ keys xs
  · by_cases h2 : s ∈ keys ys
    · refine .inr (.inr ?_)
      have hno : ∀ x ∈ xs, ∀ y ∈ ys, x.2.1 = s → y.2.1 = s → x.1 = 1 ∧ y.1 = 1 := fun x hx' y hy' ex ey => by
        have hf : conf x y = false := by
          cases hcf : conf x y with
          | false => rfl
          | true =>
            have : bConf xs ys = true := List.any_eq_true.2 ⟨x, hx', List.any_eq_true.2 ⟨y, hy', hcf⟩⟩
            rw [hc] at this; cases this
        have r1 := hx x hx'
        have r2 := hy y hy'
        unfold right at r1 r2
        unfold conf cConf at hf
        rw [r1, r2, ex, ey] at hf
        simpa using hf
      unfold keys at h1 h2
      rw [List.mem_map] at h1 h2
      obtain ⟨x0, hx0, ex0⟩ := h1
      obtain ⟨y0, hy0, ey0⟩ := h2
      exact ⟨fun x hx' ex => ⟨hx x hx', (hno x hx' y0 hy0 ex ey0).1⟩, fun y hy' ey => ⟨hy y hy', (hno x0 hx0 y hy' ex0 ey).2⟩⟩
    · exact .inr (.inl h2)
  · exact .inl h1
theorem swapC {C : Key → Cell2} {xs ys : List Cmdn} (hp : ∀ s, Pl (C s)) (hc : bConf xs ys = false) : stC (stC C xs) ys = stC (stC C ys) xs := by
  unfold stC
  by_cases hx : bErr xs = 0
  · by_cases hy : bErr ys = 0
    · rw [if_pos hx, if_pos hy, if_pos hy, if_pos hx]
      funext s
      show cellB s (cellB s (C s) xs) ys = cellB s (cellB s (C s) ys) xs
      rcases quiet_or (bErr_ok hx).2 (bErr_ok hy).2 hc s with h | h | ⟨h1, h2⟩
      · rw [cellB_none xs _ h, cellB_none xs _ h]
      · rw [cellB_none ys _ h, cellB_none ys _ h]
      · rw [quiet_cell xs _ (hp s) h1, quiet_cell ys _ (hp s) h2, quiet_cell xs _ (hp s) h1]
    · rw [if_pos hx, if_neg hy, if_neg hy, if_pos hx]
  · by_cases hy : bErr ys = 0
    · rw [if_neg hx, if_pos hy, if_neg hx]
    · rw [if_neg hx, if_neg hy, if_neg hx]
theorem swapL {L : Key → List Wr} {xs ys : List Cmdn} (i j : Int × Int) (hc : bConf xs ys = false) : stL (stL L i xs) j ys = stL (stL L j ys) i xs := by
  unfold stL
  by_cases hx : bErr xs = 0
  · by_cases hy : bErr ys = 0
    · rw [if_pos hx, if_pos hy, if_pos hy, if_pos hx]
      funext s
      show (L s ++ logB s i 0 xs) ++ logB s j 0 ys = (L s ++ logB s j 0 ys) ++ logB s i 0 xs
      rcases quiet_or (bErr_ok hx).2 (bErr_ok hy).2 hc s with h | h | ⟨h1, h2⟩
      · rw [logB_none xs _ h]; simp
      · rw [logB_none ys _ h]; simp
      · rw [quiet_log xs _ h1, quiet_log ys _ h2]
    · rw [if_pos hx, if_neg hy, if_neg hy, if_pos hx]
  · by_cases hy : bErr ys = 0
    · rw [if_neg hx, if_pos hy, if_neg hx]
    · rw [if_neg hx, if_neg hy, if_neg hx]
theorem key_of_at {cs : List Cmdn} {k : Nat} (h : k < cs.length) : (layC.at cs k).2.1 ∈ keys cs := List.mem_map.2 ⟨_, layC.at_mem h, rfl⟩
theorem resQ_congr {C C' : Key → Cell2} {id : Int × Int} {cs : List Cmdn} (h : ∀ s ∈ keys cs, C s = C' s) : ∀ k, k ≤ cs.length → resQ C id cs k = resQ C' id cs k
  | 0, _ => rfl
  | k + 1, hk => by
    rw [resQ_succ, resQ_succ, resQ_congr h k (by omega)]
    unfold resA
    rw [h _ (key_of_at (by omega))]
theorem swapR {C : Key → Cell2} {xs ys : List Cmdn} (i : Int × Int) (hp : ∀ s, Pl (C s)) (hc : bConf xs ys = false) : stR C i xs = stR (stC C ys) i xs := by
  unfold stR stC
  by_cases hx : bErr xs = 0
  · rw [if_pos hx, if_pos hx]
    by_cases hy : bErr ys = 0
    · rw [if_pos hy]
      refine resQ_congr (fun s hs => ?_) _ (Nat.le_refl _)
      show C s = cellB s (C s) ys
      rcases quiet_or (bErr_ok hx).2 (bErr_ok hy).2 hc s with h | h | ⟨h1, h2⟩
      · exact absurd hs h
      · rw [cellB_none ys _ h]
      · rw [quiet_cell ys _ (hp s) h2]
    · rw [if_neg hy]
  · rw [if_neg hx, if_neg hx]
theorem conf_comm (x y : Cmdn) : conf x y = conf y x := by
  unfold conf cConf
  rw [Bool.and_comm (cRight x.1 x.2.1 x.2.2), Bool.or_comm (decide (x.1 ≠ 1)), decide_eq_decide.2 (eq_comm (a := x.2.1) (b := y.2.1))]
theorem bConf_comm (xs ys : List Cmdn) : bConf xs ys = bConf ys xs := by
  rw [Bool.eq_iff_iff]
  unfold bConf
  simp only [List.any_eq_true]
  constructor
  · rintro ⟨x, hx, y, hy, h⟩; exact ⟨y, hy, x, hx, by rw [conf_comm]; exact h⟩
  · rintro ⟨x, hx, y, hy, h⟩; exact ⟨y, hy, x, hx, by rw [conf_comm]; exact h⟩
theorem eqC_self (C : Key → Cell2) : eqC C C = true := eqC_true fun s => alike_same (Alike.refl _)
theorem eqL_self (L : Key → List Wr) : eqL L L = true := eqL_true fun s => rfl
end Go.Proofs.Ytacgmhnalbbgbaa.Vau
