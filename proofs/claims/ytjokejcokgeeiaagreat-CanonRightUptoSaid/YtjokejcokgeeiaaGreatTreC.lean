/- What the developers' tree gives (layer 17, comps): what is gone along next from one id that is left. Conditions: the function of next ids gives rows of its own of ids that are numbers of 64 bits, whatever the set has become; there are not more than 1000 ids, and not more than 100000 next ones of any. -/
import Derived.Test.YtjokejcokgeeiaaGreatReg
import Derived.Test.YtjokejcokgeeiaaGreatTreA
import Derived.Test.YtjokejcokgeeiaaGreatGrbA
import Derived.BigQuiet
namespace Go.Proofs.YtjokejcokgeeiaaGreat.Cps
open Go.RowKit Cmd Bat Ids Rec Wid Gra
set_option linter.unusedVariables false
set_option linter.unusedSimpArgs false

/-- What is asked of the function of next ids. -/
structure Nexts (fn : Nat) (bs lb : Array Value) (nx : Idn → List Idn) (ms : Nat) (W : World) : Prop where
  enter : ∀ args w, (callFunc fn args).run Tryz.prog w = .ok (.enter fn args) w
  call : ∀ X, W.grownBy X (some ms) → ∀ x y : Int, wfId (x, y) → Calls Tryz.prog fn (bs.push (.agg #[.int .i64 x, .int .i64 y]) ++ lb) X (GivesOwned (nx (x, y)) X)
  wf : ∀ x y, y ∈ nx x → wfId y
  few : ∀ x, (nx x).length ≤ 100000
theorem del_none {L : List Idn} {x : Idn} (h : x ∉ L) : del L x = L := by
  unfold del
  exact List.filter_eq_self.2 fun z hz => decide_eq_true fun e => h (e ▸ hz)
/-- Of an id that is not left there is nothing. -/
theorem tree_no (fn : Nat) (bs lb : Array Value) (gs ms : Nat) (L : List Idn) (a b : Int) (W : World) (hset : SetP W gs ms L) (hab : (a, b) ∉ L) (hw : wfId (a, b)) :
    Calls Tryz.prog 84 #[.agg #[.int .i64 a, .int .i64 b], .pointer (some ⟨gs, 0, none⟩), .func (.func fn) bs lb] W fun E W' => E = .returned (.slice none 0 0) ∧ SetP W' gs ms L ∧ W.grownBy W' (some ms) := by
  have hb1 := Cmd.below_one W (.cells #[.int .i64 a, .int .i64 b] 43)
  have hx := heap_alloc_new W (.cells #[.int .i64 a, .int .i64 b] 43)
  have c0 := cell_row (i := 0) hx rfl
  have c1 := cell_row (i := 1) hx rfl
  have HR := Lib.hid (remove_p gs ms L a b (W.alloc (.cells #[.int .i64 a, .int .i64 b] 43)) (hset.on hb1) hw)
  rw [decide_eq_false hab, del_none hab] at HR
  have HB := Lib.hid hb1
  clear hb1 hx hset hab hw
  go_enter Tryz.func84, Tryz.ntmps84
  go_wp2_with (first
    | (go_at_call 81; (with_reducible refine HR.out.mono ?_); rintro E w1 ⟨rfl, ht⟩; have HT := Lib.hid ht; clear ht))
  go_ret
  exact ⟨rfl, HT.out.set, (grown_lowT (some ms) HB.out).andThen HT.out.grown (fun j hj => .inr hj)⟩
/-- What a tree has left: what is gone, what is left. -/
def GivesTree (nx : Idn → List Idn) (L0 : List Idn) (r : Idn) (gs ms : Nat) (W : World) (E : Ending) (W' : World) : Prop :=
  ∃ (v : Value) (gone L' : List Idn), E = .returned v ∧ Came nx L0 r L' [] gone ∧ SetP W' gs ms L' ∧ W.grownBy W' (some ms) ∧ Owns W' W.heap.size v gone
/-- The first step of a way. -/
theorem Trm.first {gs ms : Nat} {W W1 Y0 Y1 : World} {L : List Idn} {a b : Int} {p1 : Option Addr} {n1 k1 : Nat} {os : List Idn} (hset : SetP W1 gs ms L) (hlow : gs < W.heap.size ∧ ms < W.heap.size) (hg : W.grownBy W1 (some ms)) (h0 : Below W1.heap.size W1 Y0) (h1 : Below Y0.heap.size Y0 Y1) (ho : Owns Y1 Y0.heap.size (.slice p1 n1 k1) os) :
    Trm gs ms W.heap.size W (.slice none 0 0) (.slice (some ⟨Y1.heap.size, 0, none⟩) 1 1) L [] [((a, b), (p1, n1, k1), os)] (Y1.alloc (.cells #[.int .i64 a, .int .i64 b, .slice p1 n1 k1] 140)) := by
  have h2 := Cmd.below_one Y1 (.cells #[.int .i64 a, .int .i64 b, .slice p1 n1 k1] 140)
  have hb : Below W1.heap.size W1 (Y1.alloc (.cells #[.int .i64 a, .int .i64 b, .slice p1 n1 k1] 140)) := (h0.trans (h1.mono h0.size)).trans (h2.mono (Nat.le_trans h0.size h1.size))
  have hs : W.heap.size ≤ Y1.heap.size := Nat.le_trans hg.size (Nat.le_trans h0.size h1.size)
  refine ⟨⟨hlow.1, hlow.2, rfl⟩, hset.on hb, hg.andThen (grown_lowT none hb) (fun j hj => by cases hj), World.ownsRow_nil _ _ _ _, ?_, fun q hq => ?_⟩
  · exact World.ownsRow_lit Y1 #[.int .i64 a, .int .i64 b, .slice p1 n1 k1] 1 hs (by decide) rfl
  · rw [List.mem_singleton] at hq; subst hq
    have hl := World.ownsRow.lt ho
    have hO : Owns (Y1.alloc (.cells #[.int .i64 a, .int .i64 b, .slice p1 n1 k1] 140)) Y0.heap.size (.slice p1 n1 k1) os := Bat.own_below ho h2
    refine ⟨hO.row, fun c e => ?_⟩
    have := hl c e
    refine ⟨(by simp; omega), (fun e2 => by cases e2), fun e2 => ?_⟩
    injection e2 with e2
    have e3 : Y1.heap.size = c := e2
    omega
set_option maxRecDepth 100000 in
set_option maxHeartbeats 8000000 in
theorem tree_yes (fn : Nat) (bs lb : Array Value) (nx : Idn → List Idn) (gs ms : Nat) (L0 : List Idn) (a b : Int) (W : World) (hset : SetP W gs ms L0) (hab : (a, b) ∈ L0) (hw : wfId (a, b)) (hl : L0.length ≤ 100000) (N : Nexts fn bs lb nx ms W) :
    Calls Tryz.prog 84 #[.agg #[.int .i64 a, .int .i64 b], .pointer (some ⟨gs, 0, none⟩), .func (.func fn) bs lb] W (GivesTree nx L0 (a, b) gs ms W) := by
  have hb1 := Cmd.below_one W (.cells #[.int .i64 a, .int .i64 b] 43)
  have hx := heap_alloc_new W (.cells #[.int .i64 a, .int .i64 b] 43)
  have c0 := cell_row (i := 0) hx rfl
  have c1 := cell_row (i := 1) hx rfl
  have HR := Lib.hid (remove_p gs ms L0 a b (W.alloc (.cells #[.int .i64 a, .int .i64 b] 43)) (hset.on hb1) hw)
  rw [decide_eq_true hab] at HR
  have eg := N.enter
  have hmap := (hset.on hb1).set.isMap
  have HB := Lib.hid hb1
  have HX := Lib.hid hx
  have HM := Lib.hid hmap
  have HS0 := Lib.hid hset
  have HN := Lib.hid N
  have HAB := Lib.hid hab
  have HW := Lib.hid hw
  have HL := Lib.hid hl
  have HND := Lib.hid (Ids.rise_nodup hset.set.rise)
  clear hb1 hx hset hab hw hl hmap N
  go_enter Tryz.func84, Tryz.ntmps84
  go_wp2_with (first
    | (go_at_call 81; (with_reducible refine HR.out.mono ?_); rintro E W1 ⟨rfl, ht⟩; have HT := Lib.hid ht; clear ht c0 c1)
    | fail)
  have HG1 : Hid (W.grownBy W1 (some ms)) := Lib.hid ((grown_lowT (some ms) HB.out).andThen HT.out.grown (fun j hj => .inr hj))
  have d0 : W1.cell? ⟨W.heap.size, 0, none⟩ = some (.int .i64 a) := grown_cell HT.out.grown HM.out (cell_row (i := 0) HX.out rfl)
  have d1 : W1.cell? ⟨W.heap.size, 1, none⟩ = some (.int .i64 b) := grown_cell HT.out.grown HM.out (cell_row (i := 1) HX.out rfl)
  have HD := Lib.hid (And.intro d0 d1)
  have HK : Hid (∀ w', Below W1.heap.size W1 w' → w'.cell? ⟨W.heap.size, 0, none⟩ = some (.int .i64 a) ∧ w'.cell? ⟨W.heap.size, 1, none⟩ = some (.int .i64 b)) := Lib.hid fun w' hb => ⟨(hb.cell (p := ⟨W.heap.size, 0, none⟩) (World.block_lt_of_cell? _ _ HD.out.1)).trans HD.out.1, (hb.cell (p := ⟨W.heap.size, 1, none⟩) (World.block_lt_of_cell? _ _ HD.out.2)).trans HD.out.2⟩
  clear d0 d1 HR
  have HY0 : Hid (Below W1.heap.size W1 W1.drew) := Lib.hid (Below.refl _ _).drew
  refine wp_region_held_drew (S := (fun w' => w'.cell? ⟨W.heap.size, 0, none⟩ = some (.int .i64 a) ∧ w'.cell? ⟨W.heap.size, 1, none⟩ = some (.int .i64 b))) (by kernel_rfl) (HK.out _ HY0.out) (fun hHeld => ?_)
  generalize W1.drew = Y0 at HY0 hHeld ⊢
  have HG0 := Lib.hid (HG1.out.andThen (grown_lowT none HY0.out) (fun j hj => by cases hj))
  have HK := Lib.hid fun (w' : World) (hb : Below Y0.heap.size Y0 w') => HK.out w' (HY0.out.trans (hb.mono HY0.out.size))
  have HNX := Lib.hid HN.out.call
  refine ty (v := ?_) 0 (fun w hSw => ?_) ?_
  rotate_left
  · (try dsimp only at hSw); go_simp; (try with_reducible rfl)
  try simp only [List.getElem_toArray, List.getElem_cons_succ, List.getElem_cons_zero, Act.put, List.setIfInBounds_toArray, List.set_cons_zero, List.set_cons_succ]
  refine ty (v := ?_) 1 (fun w hSw => ?_) ?_
  rotate_left
  · (try dsimp only at hSw); go_simp; (try with_reducible rfl)
  try simp only [List.getElem_toArray, List.getElem_cons_succ, List.getElem_cons_zero, Act.put, List.setIfInBounds_toArray, List.set_cons_zero, List.set_cons_succ]
  refine ty (v := ?_) 2 (fun w hSw => ?_) ?_
  rotate_left
  · (try dsimp only at hSw); go_simp; (try with_reducible rfl)
  try simp only [List.getElem_toArray, List.getElem_cons_succ, List.getElem_cons_zero, Act.put, List.setIfInBounds_toArray, List.set_cons_zero, List.set_cons_succ]
  refine tr 3 (fun K hK => ?_)
  go_simp
  (go_at_fn fn; (with_reducible refine (HNX.out _ HG0.out a b HW.out).mono ?_); rintro E Y1 ⟨v1, rfl, ho1, hb⟩; obtain ⟨p1, n1, k1, rfl⟩ := own_is ho1; have HO1 := Lib.hid ho1; have HB1 := Lib.hid hb; have HC1 := Lib.hid (HK.out _ hb); clear ho1 hb)
  refine hK.out _ _ ?_ (fun hHeld => ?_)
  · exact HC1.out
  clear hK K
  try simp only [List.getElem_toArray, List.getElem_cons_succ, List.getElem_cons_zero, Act.put, List.setIfInBounds_toArray, List.set_cons_zero, List.set_cons_succ]
  refine ty (v := ?_) 4 (fun w hSw => ?_) ?_
  rotate_left
  · (try dsimp only at hSw); go_simp; (try with_reducible rfl)
  try simp only [List.getElem_toArray, List.getElem_cons_succ, List.getElem_cons_zero, Act.put, List.setIfInBounds_toArray, List.set_cons_zero, List.set_cons_succ]
  refine tr 5 (fun K hK => ?_)
  go_simp
  have hb := Cmd.below_one Y1 (.cells #[.int .i64 a, .int .i64 b, .slice p1 n1 k1] 140)
  have HB2 := Lib.hid hb
  have HC2 := Lib.hid (HK.out _ (HB1.out.trans (hb.mono HB1.out.size)))
  clear hb
  refine hK.out _ _ ?_ (fun hHeld => ?_)
  · exact HC2.out
  clear hK K
  try simp only [List.getElem_toArray, List.getElem_cons_succ, List.getElem_cons_zero, Act.put, List.setIfInBounds_toArray, List.set_cons_zero, List.set_cons_succ]
  refine ty (v := ?_) 6 (fun w hSw => ?_) ?_
  rotate_left
  · (try dsimp only at hSw); go_simp; (try with_reducible rfl)
  try simp only [List.getElem_toArray, List.getElem_cons_succ, List.getElem_cons_zero, Act.put, List.setIfInBounds_toArray, List.set_cons_zero, List.set_cons_succ]
  refine wpAnyH_done (by kernel_rfl) ?_ _
  have HF := Lib.hid (Trm.first (a := a) (b := b) HT.out.set ⟨HS0.out.lt, HS0.out.set.lt⟩ HG1.out HY0.out HB1.out HO1.out)
  have HCA : Hid (Came nx L0 (a, b) (del L0 (a, b)) [((a, b), nx (a, b))] []) := Lib.hid (.start HAB.out)
  have HTD : Hid (todoL nx (del L0 (a, b)) + todoW [((a, b), nx (a, b))] ≤ todoL nx L0) := Lib.hid (by
    have h1 := todo_del nx HND.out HAB.out
    have h2 : todoW [((a, b), nx (a, b))] = (nx (a, b)).length + 1 := by unfold todoW; simp
    omega)
  clear HO1 HB1 HC1 HB2 HC2 hHeld
  go_wp2
  go_loopg [7, 8] (todoL nx L0) (fun kk vg vw wr => ∃ (L gone : List Idn) (qs : List Stp) (p : Option Addr) (n cap : Nat), vw = .slice p n cap ∧ Hid (Trm gs ms W.heap.size W vg (.slice p n cap) L gone qs wr) ∧ Hid (Came nx L0 (a, b) L (qs.map stw) gone) ∧ Hid (n = qs.length ∧ todoL nx L + todoW (qs.map stw) ≤ kk))
  case atStart => exact ⟨del L0 (a, b), [], [((a, b), (p1, n1, k1), nx (a, b))], _, 1, 1, rfl, HF, HCA, Lib.hid ⟨rfl, HTD.out⟩⟩
  case round =>
    clear HF HCA HTD
    obtain ⟨L, gone, qs, p, n, cap, rfl, hT, hC, hN⟩ := hrel
    cases n with
    | zero =>
      have hq : qs = [] := List.eq_nil_of_length_eq_zero hN.out.1.symm
      subst hq
      have n0 : ¬ ((0 : Int) > 0) := by omega
      go_wp2
      go_ret
      exact ⟨_, gone, L, rfl, hC.out, hT.out.set, hT.out.grown, hT.out.own⟩
    | succ m =>
      obtain ⟨qs', q, rfl⟩ : ∃ qs' q, qs = qs' ++ [q] := by
        rcases List.eq_nil_or_concat qs with h | ⟨a, b, h⟩
        · have := hN.out.1; rw [h] at this; simp at this
        · exact ⟨a, b, by rw [h, List.concat_eq_append]⟩
      obtain ⟨⟨x1, x2⟩, ⟨pq, nq, cq⟩, os⟩ := q
      have hm : m = qs'.length := by have := hN.out.1; simp at this; exact this
      obtain ⟨g, rfl, -, hg0, hg1, hcap, hcm⟩ := wd_ptr hT.out.way (by simp)
      have hcap : m + 1 ≤ cap := by have := hN.out.1; omega
      obtain ⟨z0, z1, z2, sf⟩ := stp_last hT.out.way
      rw [← hm] at z0 z1 z2
      have s0 : wr.cell? ⟨g, m * 3, none⟩ = some (.int .i64 x1) := z0
      have s1 : wr.cell? ⟨g, m * 3 + 1, none⟩ = some (.int .i64 x2) := z1
      have s2 : wr.cell? ⟨g, m * 3 + 2, none⟩ = some (.slice pq nq cq) := z2
      clear z0 z1 z2
      have m0 : (0 : Int) ≤ m := by omega
      have w2 : IntKind.i64.wrap (m : Int) = m := IntWalk.i64_in _ (by omega)
      have w1 : IntKind.i64.wrap ((m : Int) + 1 - 1) = m := by rw [show (m : Int) + 1 - 1 = m by omega]; exact w2
      have mg : (m : Int) + 1 > 0 := by omega
      have HMQ := Lib.hid hm
      clear hm hg0 hg1
      cases os with
      | nil =>
        obtain rfl : nq = 0 := rowat_nil (hT.out.item _ (List.mem_append_right _ (List.mem_singleton.2 rfl))).1
        have hb8 := Cmd.below_one wr (.cells #[.int .i64 x1, .int .i64 x2] 43)
        have HT8 := Lib.hid (hT.out.below hb8)
        have HG8 : Hid (∃ v' w', (Builtin.append_ #[38, 38] 38 #[u7, .slice (some ⟨wr.heap.size, 0, none⟩) 1 1]).run Tryz.prog (wr.alloc (.cells #[.int .i64 x1, .int .i64 x2] 43)) = .ok v' w' ∧ (Owns w' W.heap.size v' (gone ++ [(x1, x2)]) ∧ (wr.alloc (.cells #[.int .i64 x1, .int .i64 x2] 43)).grownBy w' u7.ownBlock ∧ (v'.ownBlock = u7.ownBlock ∨ v'.ownBlock = some (wr.alloc (.cells #[.int .i64 x1, .int .i64 x2] 43)).heap.size))) := Lib.hid (by
          have hcl := (came_len hC.out HND.out).2
          exact grow_ids (wr.alloc (.cells #[.int .i64 x1, .int .i64 x2] 43)) 38 W.heap.size u7 gone HT8.out.own (by have := HT8.out.grown.size; omega) wr.heap.size x1 x2 (heap_alloc_new wr _) (by have := HL.out; omega))
        have hcut := fun w => cut_wide wtStp (some ⟨g, 0, none⟩) (m + 1) cap m (by omega) w
        clear hb8
        go_wp2_with (first
          | (at_builtin; refine wp_app rfl _ _ 38 rfl _ _ rfl rfl HG8.out ?_; intro v8 w8 HV8)
          | fail)
        have hpos : 1 ≤ gk := by
          have h1 := hN.out.2
          rw [stw_snoc, todoW_snoc] at h1
          omega
        go_roundg (gk - 1)
        case measure => omega
        case rel =>
          exact ⟨L, gone ++ [(x1, x2)], qs', _, m, cap, rfl, Lib.hid (by rw [HMQ.out]; exact HT8.out.pop HV8.out.1 HV8.out.2.1 HV8.out.2.2), Lib.hid (by have := hC.out; rw [stw_snoc] at this; exact .pop this), Lib.hid ⟨HMQ.out, by
            have h1 := hN.out.2
            rw [stw_snoc, todoW_snoc] at h1
            omega⟩⟩
      | cons y os =>
        obtain ⟨y1, y2⟩ := y
        obtain ⟨B, off, rfl, hnq, hqc, hqm, z0, z1⟩ := rowat_head (hT.out.item _ (List.mem_append_right _ (List.mem_singleton.2 rfl))).1
        obtain ⟨nq', hnq'⟩ : ∃ k, k = os.length := ⟨_, rfl⟩
        rw [← hnq'] at hnq
        subst hnq
        have e0 : wr.cell? ⟨B, off, none⟩ = some (.int .i64 y1) := z0
        have e1 : wr.cell? ⟨B, off + 1, none⟩ = some (.int .i64 y2) := z1
        obtain ⟨PP, hPP⟩ : ∃ PP, PP = cutl (some ⟨B, off, none⟩) 1 cq 2 := ⟨_, rfl⟩
        obtain ⟨CC, hCC⟩ : ∃ CC, CC = cq - 1 := ⟨_, rfl⟩
        have hcut : ∀ w, (Instr.slice 38 (.slice (some ⟨B, off, none⟩) (nq' + 1) cq) (some (.int .i64 1)) none none).run Tryz.prog w = .ok (.slice PP nq' CC) w := fun w => by
          rw [hPP, hCC]; exact cut1 (some ⟨B, off, none⟩) (nq' + 1) cq (by omega) w
        have hq0 : 0 < nq' + 1 := by omega
        have hqe : ((nq' : Int) + 1 == 0) = false := by simp; omega
        have hb1 := Cmd.below_one wr (.cells #[.int .i64 y1, .int .i64 y2] 43)
        have hT1 := hT.out.below hb1
        have hx1 := heap_alloc_new wr (.cells #[.int .i64 y1, .int .i64 y2] 43)
        obtain ⟨-, -, a2, af⟩ := stp_last hT1.way
        rw [← HMQ.out] at a2
        have f2 : (wr.alloc (.cells #[.int .i64 y1, .int .i64 y2] 43)).cell? ⟨g, m * 3 + 2, none⟩ = some (.slice (some ⟨B, off, none⟩) (nq' + 1) cq) := a2
        have ff : (wr.alloc (.cells #[.int .i64 y1, .int .i64 y2] 43)).frozen? ⟨g, m * 3 + 2, none⟩ = false := af _
        have hgl : g < wr.heap.size := (hT.out.vwlt rfl).2
        have hT2 : Trm gs ms W.heap.size W u7 (.slice (some ⟨g, 0, none⟩) (m + 1) cap) L gone (qs' ++ [((x1, x2), (PP, nq', CC), os)]) ((wr.alloc (.cells #[.int .i64 y1, .int .i64 y2] 43)).setCell ⟨g, m * 3 + 2, none⟩ (.slice PP nq' CC)) := by
          have h := hT1.store
          rw [← HMQ.out, ← hPP, ← hCC] at h
          exact h
        have hx2 : ((wr.alloc (.cells #[.int .i64 y1, .int .i64 y2] 43)).setCell ⟨g, m * 3 + 2, none⟩ (.slice PP nq' CC)).heap[wr.heap.size]? = some (.cells #[.int .i64 y1, .int .i64 y2] 43 (0, 0)) := by
          rw [Below.heap_setCell _ _ _ _ (by show wr.heap.size ≠ g; omega)]; exact hx1
        have b0 : ((wr.alloc (.cells #[.int .i64 y1, .int .i64 y2] 43)).setCell ⟨g, m * 3 + 2, none⟩ (.slice PP nq' CC)).cell? ⟨wr.heap.size, 0, none⟩ = some (.int .i64 y1) := cell_row (i := 0) hx2 rfl
        have b1 : ((wr.alloc (.cells #[.int .i64 y1, .int .i64 y2] 43)).setCell ⟨g, m * 3 + 2, none⟩ (.slice PP nq' CC)).cell? ⟨wr.heap.size, 1, none⟩ = some (.int .i64 y2) := cell_row (i := 1) hx2 rfl
        have HIN : Hid (Came nx L0 (a, b) L (qs'.map stw ++ [((x1, x2), (y1, y2) :: os)]) gone) := Lib.hid (by have := hC.out; rw [stw_snoc] at this; exact this)
        have HWY : Hid (wfId (y1, y2)) := Lib.hid (HN.out.wf (x1, x2) (y1, y2) (by
          have h := HIN.out.alls (P := fun _ => True) trivial (fun _ _ _ _ _ => trivial)
          exact h.sub ((x1, x2), (y1, y2) :: os) (by simp) (y1, y2) List.mem_cons_self))
        have HR2 := Lib.hid (remove_p gs ms L y1 y2 _ hT2.set HWY.out)
        have HM2 := Lib.hid hT2.set.set.isMap
        have HT2 := Lib.hid hT2
        have HX2 := Lib.hid hx2
        have HGL := Lib.hid hgl
        have HTD : Hid (todoL nx L + (todoW (qs'.map stw) + (os.length + 2)) ≤ gk) := Lib.hid (by
          have h1 := hN.out.2
          rw [stw_snoc, todoW_snoc] at h1
          simp only [List.length_cons] at h1
          omega)
        clear hnq' hPP hCC hb1 hT1 hx1 a2 af hgl hT2 hx2 z0 z1 hN hC s0 s1
        by_cases hy : (y1, y2) ∈ L
        · rw [decide_eq_true hy] at HR2
          have HYL := Lib.hid hy
          clear hy
          go_wp2_with (first
            | (go_at_call 81; (with_reducible refine HR2.out.mono ?_); rintro E w3 ⟨rfl, ht⟩; have HT3 := Lib.hid ht; clear ht)
            | fail)
          have HY0 : Hid (Trm gs ms W.heap.size W u7 (.slice (some ⟨g, 0, none⟩) (m + 1) cap) (del L (y1, y2)) gone (qs' ++ [((x1, x2), (PP, nq', CC), os)]) w3.drew) := Lib.hid ((HT2.out.turn HT3.out).below (Below.refl _ _).drew)
          have d0 : w3.cell? ⟨wr.heap.size, 0, none⟩ = some (.int .i64 y1) := grown_cell HT3.out.grown HM2.out (cell_row (i := 0) HX2.out rfl)
          have d1 : w3.cell? ⟨wr.heap.size, 1, none⟩ = some (.int .i64 y2) := grown_cell HT3.out.grown HM2.out (cell_row (i := 1) HX2.out rfl)
          have HK3 : Hid (∀ w', Below w3.drew.heap.size w3.drew w' → w'.cell? ⟨wr.heap.size, 0, none⟩ = some (.int .i64 y1) ∧ w'.cell? ⟨wr.heap.size, 1, none⟩ = some (.int .i64 y2)) := Lib.hid fun w' hb => ⟨(hb.cell (p := ⟨wr.heap.size, 0, none⟩) (World.block_lt_of_cell? _ _ d0)).trans d0, (hb.cell (p := ⟨wr.heap.size, 1, none⟩) (World.block_lt_of_cell? _ _ d1)).trans d1⟩
          have HLQ : Hid ((qs' ++ [((x1, x2), ((PP, nq', CC) : Slc), os)]).length + 1 ≤ 1000000) := Lib.hid (by
            have h1 := (came_len HIN.out HND.out).2
            have h2 := HL.out
            simp only [List.length_append, List.length_map, List.length_cons, List.length_nil] at h1 ⊢
            omega)
          have HZL : Hid (wr.heap.size < w3.drew.heap.size) := Lib.hid (World.block_lt_of_cell? w3 ⟨wr.heap.size, 0, none⟩ d0)
          clear d0 d1 HK HT2 HX2 b0 b1 hcut hq0 hqe f2 ff e0 e1 s2
          refine wp_region_held_drew (S := (fun w' => w'.cell? ⟨wr.heap.size, 0, none⟩ = some (.int .i64 y1) ∧ w'.cell? ⟨wr.heap.size, 1, none⟩ = some (.int .i64 y2))) (by kernel_rfl) (HK3.out _ (Below.refl _ _)) (fun hHeld => ?_)
          generalize w3.drew = Y0 at HY0 HK3 HZL hHeld ⊢
          have HK := HK3
          refine ty (v := ?_) 0 (fun w hSw => ?_) ?_
          rotate_left
          · (try dsimp only at hSw); go_simp; (try with_reducible rfl)
          try simp only [List.getElem_toArray, List.getElem_cons_succ, List.getElem_cons_zero, Act.put, List.setIfInBounds_toArray, List.set_cons_zero, List.set_cons_succ]
          refine ty (v := ?_) 1 (fun w hSw => ?_) ?_
          rotate_left
          · (try dsimp only at hSw); go_simp; (try with_reducible rfl)
          try simp only [List.getElem_toArray, List.getElem_cons_succ, List.getElem_cons_zero, Act.put, List.setIfInBounds_toArray, List.set_cons_zero, List.set_cons_succ]
          refine ty (v := ?_) 2 (fun w hSw => ?_) ?_
          rotate_left
          · (try dsimp only at hSw); go_simp; (try with_reducible rfl)
          try simp only [List.getElem_toArray, List.getElem_cons_succ, List.getElem_cons_zero, Act.put, List.setIfInBounds_toArray, List.set_cons_zero, List.set_cons_succ]
          refine ty (v := ?_) 3 (fun w hSw => ?_) ?_
          rotate_left
          · (try dsimp only at hSw); go_simp; (try with_reducible rfl)
          try simp only [List.getElem_toArray, List.getElem_cons_succ, List.getElem_cons_zero, Act.put, List.setIfInBounds_toArray, List.set_cons_zero, List.set_cons_succ]
          refine tr 4 (fun K hK => ?_)
          go_simp
          (go_at_fn fn; (with_reducible refine (HNX.out _ HY0.out.grown y1 y2 HWY.out).mono ?_); rintro E Y1 ⟨v1, rfl, ho1, hb⟩; obtain ⟨p1, n1, k1, rfl⟩ := own_is ho1; have HO1 := Lib.hid ho1; have HB1 := Lib.hid hb; have HY1 := Lib.hid (HY0.out.below hb); have HC1 := Lib.hid (HK.out _ hb); clear ho1 hb)
          refine hK.out _ _ ?_ (fun hHeld => ?_)
          · exact HC1.out
          clear hK K
          try simp only [List.getElem_toArray, List.getElem_cons_succ, List.getElem_cons_zero, Act.put, List.setIfInBounds_toArray, List.set_cons_zero, List.set_cons_succ]
          refine ty (v := ?_) 5 (fun w hSw => ?_) ?_
          rotate_left
          · (try dsimp only at hSw); go_simp; (try with_reducible rfl)
          try simp only [List.getElem_toArray, List.getElem_cons_succ, List.getElem_cons_zero, Act.put, List.setIfInBounds_toArray, List.set_cons_zero, List.set_cons_succ]
          refine tr 6 (fun K hK => ?_)
          go_simp
          have hb := Cmd.below_one Y1 (.cells #[.int .i64 y1, .int .i64 y2, .slice p1 n1 k1] 140)
          have HE2 := Lib.hid (heap_alloc_new Y1 (.cells #[.int .i64 y1, .int .i64 y2, .slice p1 n1 k1] 140))
          have HY2 := Lib.hid (HY1.out.below hb)
          have HB2 := Lib.hid hb
          have HO2 := Lib.hid (Bat.own_below HO1.out hb)
          have HC2 := Lib.hid (HK.out _ (HB1.out.trans (hb.mono HB1.out.size)))
          clear hb
          refine hK.out _ _ ?_ (fun hHeld => ?_)
          · exact HC2.out
          clear hK K
          obtain ⟨Y2, hY2⟩ : ∃ Y2, Y2 = Y1.alloc (.cells #[.int .i64 y1, .int .i64 y2, .slice p1 n1 k1] 140) := ⟨_, rfl⟩
          rw [← hY2] at HE2 HY2 HB2 HO2 hHeld ⊢
          have HG2 := Lib.hid (grow_wd wtStp Y2 141 W.heap.size (.slice (some ⟨g, 0, none⟩) (m + 1) cap) (qs' ++ [((x1, x2), (PP, nq', CC), os)]) HY2.out.way (by have := HY2.out.grown.size; omega) Y1.heap.size ((y1, y2), (p1, n1, k1), nx (y1, y2)) #[.int .i64 y1, .int .i64 y2, .slice p1 n1 k1] rfl HE2.out HLQ.out)
          have HK2 : Hid (∀ w', Y2.grownBy w' (Value.slice (some ⟨g, 0, none⟩) (m + 1) cap).ownBlock → w'.cell? ⟨wr.heap.size, 0, none⟩ = some (.int .i64 y1) ∧ w'.cell? ⟨wr.heap.size, 1, none⟩ = some (.int .i64 y2)) := Lib.hid fun w' hg => by
            have hl := HGL.out
            have e := hg.block wr.heap.size (by have := HZL.out; have := HB1.out.size; have := HB2.out.size; omega) (fun e => by injection e with e; have e2 : wr.heap.size = g := e; omega)
            exact ⟨(World.cell?_of_block (w := Y2) (a := ⟨wr.heap.size, 0, none⟩) e).trans hHeld.1, (World.cell?_of_block (w := Y2) (a := ⟨wr.heap.size, 1, none⟩) e).trans hHeld.2⟩
          clear hY2
          try simp only [List.getElem_toArray, List.getElem_cons_succ, List.getElem_cons_zero, Act.put, List.setIfInBounds_toArray, List.set_cons_zero, List.set_cons_succ]
          refine tr 7 (fun K hK => ?_)
          refine step_app rfl _ _ 141 rfl _ _ rfl rfl HG2.out ?_
          intro v3 Y3 HV3
          refine hK.out _ _ ?_ (fun hHeld => ?_)
          · exact HK2.out _ HV3.out.2.1
          clear hK K
          try simp only [List.getElem_toArray, List.getElem_cons_succ, List.getElem_cons_zero, Act.put, List.setIfInBounds_toArray, List.set_cons_zero, List.set_cons_succ]
          refine ty (v := ?_) 8 (fun w hSw => ?_) ?_
          rotate_left
          · (try dsimp only at hSw); go_simp; (try with_reducible rfl)
          try simp only [List.getElem_toArray, List.getElem_cons_succ, List.getElem_cons_zero, Act.put, List.setIfInBounds_toArray, List.set_cons_zero, List.set_cons_succ]
          refine wpAnyH_done (by kernel_rfl) ?_ _
          go_wp2
          go_roundg (gk - 1)
          case measure => have := HTD.out; omega
          case rel =>
            have hsz := HB1.out.size
            have hT3 := HY2.out.push (fun c e => by have := (HY0.out.vglt e).2; exact this) (fun c e => by have := (HY0.out.vwlt e).2; exact this) HO2.out HV3.out.1 HV3.out.2.1 HV3.out.2.2
            have hlen := wd_shape HV3.out.1
            obtain ⟨p3, c3, rfl⟩ := hlen
            exact ⟨del L (y1, y2), gone, _, p3, _, c3, rfl, Lib.hid hT3, Lib.hid (by rw [stw_snoc, stw_snoc]; exact .push HIN.out HYL.out), Lib.hid ⟨rfl, by
              have h1 := HTD.out
              have h2 := todo_del nx (came_len HIN.out HND.out).1 HYL.out
              rw [stw_snoc, todoW_snoc, stw_snoc, todoW_snoc]
              show _ + ((_ + (os.length + 1)) + ((nx (y1, y2)).length + 1)) ≤ _
              omega⟩⟩
        · rw [decide_eq_false hy] at HR2
          have HYL := Lib.hid hy
          clear hy
          go_wp2_with (first
            | (go_at_call 81; (with_reducible refine HR2.out.mono ?_); rintro E w3 ⟨rfl, ht⟩; have HT3 := Lib.hid ht; clear ht)
            | fail)
          go_roundg (gk - 1)
          case measure => have := HTD.out; omega
          case rel =>
            have hT3 := HT2.out.turn HT3.out
            rw [del_none HYL.out] at hT3
            exact ⟨L, gone, _, _, m + 1, cap, rfl, Lib.hid hT3, Lib.hid (by rw [stw_snoc]; exact .skip HIN.out HYL.out), Lib.hid ⟨by rw [HMQ.out]; simp, by
              have h1 := HTD.out
              rw [stw_snoc, todoW_snoc]
              show _ + (_ + (os.length + 1)) ≤ _
              omega⟩⟩
end Go.Proofs.YtjokejcokgeeiaaGreat.Cps
