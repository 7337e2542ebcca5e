/- What the walk of VaultApplies has in memory: one vault, and a row of items beside it; the last ones of a row; a row of the call's own that another one's writes leave (layer 13, vault). Conditions: those in each statement. -/
import Derived.Test.YtacgmhnalbbgbaaVauY
import Derived.Deep.DeepCutAuto
namespace Go.Proofs.Ytacgmhnalbbgbaa.Vau
open Go.RowKit F64 Cmd Bat Cel Wid Go.Maps Go.WideElems Go.ChangeMaps Go.Sort
set_option linter.unusedVariables false
set_option linter.unusedSimpArgs false

/-! ### The last ones of a row -/
def cutl (p : Option Addr) (l cap c : Nat) : Option Addr := if cap = l then p else p.map (·.add (l * c))
section
variable {α : Type} {D : Wd α} {t e : TypeId} {z : Value} {bytes : Nat}
theorem from_wide (T : Wt D t e z bytes) (p : Option Addr) (n cap l : Nat) (hl : l ≤ n) (w : World) :
    (Instr.slice t (.slice p n cap) (some (.int .i64 l)) none none).run Try.prog w = .ok (.slice (cutl p l cap D.c) (n - l) (cap - l)) w := by
  rw [run_slice_l w _ _ _ _ (by rw [T.und, T.el]) _ _ (by omega) (by omega), size_wide T]
  show Result.ok (sliced p (Int.toNat l) n cap D.c) w = _
  simp [sliced, cutl]
theorem row_drop {w : World} {p : Option Addr} {n cap : Nat} {zs : List α} (h : D.L.Row w (.slice p n cap) zs) (l : Nat) (hl : l ≤ zs.length) : D.L.Row w (.slice (cutl p l cap D.c) (n - l) (cap - l)) (zs.drop l) := by
  obtain ⟨p', cap', e, g1, g2, g3⟩ := h
  injection e with e1 e2 e3
  subst e1; subst e2; subst e3
  have hd : (zs.drop l).length = zs.length - l := List.length_drop
  refine ⟨_, cap - l, by rw [hd], by rw [hd]; omega, by omega, fun hz => ?_⟩
  have hlt : l < zs.length := Classical.byContradiction fun hn => hz (List.drop_eq_nil_of_le (by omega))
  obtain ⟨B, off, rfl, hi⟩ := g3 (by rintro rfl; simp at hlt)
  refine ⟨B, off + l * D.c, ?_, hi.lt, fun j hj => ?_⟩
  · unfold cutl
    rw [if_neg (by omega)]
    simp [Addr.add_lit]
  · rw [hd] at hj
    have e : D.L.at (zs.drop l) j = D.L.at zs (l + j) := by rw [D.L.at_get (by omega), D.L.at_get (by omega), List.getElem_drop]
    have := hi.cell (l + j) (by omega)
    rw [e, D.pos]
    rw [D.pos, Nat.add_mul, ← Nat.add_assoc] at this
    exact this
theorem own_only {e : TypeId} {w X : World} {base : Nat} {v : Value} {zs : List α} {F : Nat → Prop} (h : D.Own e w base v zs) (hF : ∀ k, F k → k < base) (ho : Only F w X) : D.L.Row X v zs := by
  have hlt := World.ownsRow.lt h
  have h2 : D.Own e X base v zs := ⟨h.1, h.2.imp id fun ⟨g, cap, cur, h1, h2, h3, h4⟩ => ⟨g, cap, cur, h1, h2, (ho.block g (Array.getElem?_eq_some_iff.1 h3).1 (fun hg => by have := hF g hg; omega)).trans h3, h4⟩⟩
  exact Wd.Own.row h2
end

/-! ### One vault -/
abbrev Emp : Nat → Prop := fun _ => False
structure On1 (base : Nat) (w2 : World) (F : Nat → Prop) (g : Nat) (C : Key → Cell2) (L : Key → List Wr) (N : Nat) (c : Int) (W : World) : Prop where
  v : VP W base F g C L N c
  below : Below base w2 W
  size : base ≤ W.heap.size
section
variable {base : Nat} {w2 : World} {F G R : Nat → Prop} {g : Nat} {C C' : Key → Cell2} {L L' : Key → List Wr} {N N' : Nat} {c c' : Int} {W W' W1 : World} {v v' : Value} {qs : List Qt} {xs : List Itm}
theorem On1.on (h : On1 base w2 F g C L N c W) (hb : Below W.heap.size W W') : On1 base w2 F g C L N c W' := ⟨h.v.on hb, h.below.trans (hb.mono h.size), Nat.le_trans h.size hb.size⟩
theorem On1.app (h : On1 base w2 F g C L N c W) (hv : VP W' base G g C' L' N' c') (ho : Only F W W') : On1 base w2 G g C' L' N' c' W' :=
  ⟨hv, h.below.trans (ho.low h.size (fun k hk => (h.v.foot k hk).1)), Nat.le_trans h.size ho.below.size⟩
theorem On1.far (h : On1 base w2 F g C L N c W) (ho : Only R W W') (hR : ∀ j, R j → ¬ F j) (hRb : ∀ j, R j → base ≤ j) : On1 base w2 F g C L N c W' :=
  ⟨h.v.far ho (fun j hj hr => hR j hr hj), h.below.trans (ho.low h.size hRb), Nat.le_trans h.size ho.below.size⟩
theorem Rw.push1 (h : Rw base w2 F Emp v qs xs W) (hB : On1 base w2 F g C L N c W) (hb : Below W.heap.size W W1) {q : Option Addr × Nat × Nat} {a b : Int} {cs : List Cmdn} (hq : layC.Row w2 (sl q) cs) (ho : wdQ.Own 30 W' base v' (qs ++ [((a, b), q)])) (hg : W1.grownBy W' v.ownBlock) (hn : v'.ownBlock = v.ownBlock ∨ v'.ownBlock = some W1.heap.size) :
    Rw base w2 F Emp v' (qs ++ [((a, b), q)]) (xs ++ [((a, b), cs)]) W' ∧ On1 base w2 F g C L N c W' ∧ Only (fun k => v.ownBlock = some k) W W' := by
  have hsz := hb.size
  have hO : Only (fun k => v.ownBlock = some k) W W' := (Only.of _ hb).trans (Only.row hg (fun k hk => hk)) (fun k hk => .inl hk)
  refine ⟨⟨ho, h.m.app (Match.one hq), fun k hk hg1 => ?_, fun k hk hg2 => hg2⟩, hB.far hO (fun j hj => h.no1 j hj) (fun j hj => (h.lt j hj).1), hO⟩
  rcases hn with e | e
  · rw [e] at hk; exact h.no1 k hk hg1
  · rw [e] at hk; cases hk; have := (hB.v.foot _ hg1).2; omega
/-- Another vault's row: the vault it lies beside is another one from now on. -/
theorem Rw.beside (h : Rw base w2 F G v qs xs W) (hF : ∀ k, R k → W.heap.size ≤ k) (hb : Below W.heap.size W W') : Rw base w2 R Emp v qs xs W' :=
  ⟨Wd.Own.below h.own hb, h.m, fun k hk hr => by have := (h.lt k hk).2; have := hF k hr; omega, fun k hk he => he⟩
end
theorem TR.none {t : Value} {ys : List Rs} {W : World} (h : TR t ys W) (hy : ys = []) : ∃ p c, t = .slice p 0 c := by
  subst hy
  obtain ⟨p, c, e⟩ := h.shape
  exact ⟨p, c, e⟩
theorem fits_none {ys : List Rs} (h : Fits ys []) : ys = [] := List.eq_nil_of_length_eq_zero h.len
/-- What the whole says of the last batch. -/
theorem stR_ok {xs : List Itm} {id : Int × Int} {cs : List Cmdn} (he : bErr cs = 0) : stR (cellOf xs) id cs = resB xs id cs := by
  unfold stR
  rw [if_pos he, resB_eq]
def keyA : Key := [97]
theorem row_one (b : Nat) {W : World} (h : W.heap[b]? = some (.cells #[.int .i64 2, .string ⟨#[97]⟩, .float .f64 4635118810238550016] 37 (0, 0))) : layC.Row W (.slice (some ⟨b, 0, none⟩) 1 1) [(2, [97], 4635118810238550016)] := by
  refine ⟨_, 1, rfl, Nat.le_refl _, by omega, fun _ => ⟨b, 0, rfl, (Array.getElem?_eq_some_iff.1 h).1, fun j hj => ?_⟩⟩
  obtain rfl : j = 0 := by simpa using hj
  refine ⟨?_, ?_, ?_⟩
  · show W.cell? ⟨b, 0, none⟩ = _; simp [World.cell?, h]; rfl
  · show W.cell? ⟨b, 1, none⟩ = _; simp [World.cell?, h]; rfl
  · show W.cell? ⟨b, 2, none⟩ = _; simp [World.cell?, h]; rfl
theorem one_ok : bErr [((2 : Int), ([97] : List UInt8), (4635118810238550016 : Nat))] = 0 := by decide
theorem quiet_of_log {s : Key} {id : Int × Int} : ∀ (cs : List Cmdn) (k : Nat), logB s id k cs = [] → (∀ x ∈ cs, right x = true) → Quiet s cs
  | [], _, _, _ => fun x hx => (by cases hx)
  | x :: cs, k, h, hr => fun y hy ey => by
    have h' : (if wrote s x then [(id, (k : Int))] else []) ++ logB s id (k + 1) cs = [] := h
    obtain ⟨h1, h2⟩ := List.append_eq_nil_iff.1 h'
    rcases List.mem_cons.1 hy with rfl | hy
    · refine ⟨hr _ List.mem_cons_self, ?_⟩
      have hw : wrote s y = false := by
        cases hc : wrote s y with
        | false => rfl
        | true => rw [hc] at h1; cases h1
      unfold wrote at hw
      rw [decide_eq_true ey, hr _ List.mem_cons_self] at hw
      simpa using hw
    · exact quiet_of_log cs (k + 1) h2 (fun z hz => hr z (List.mem_cons_of_mem _ hz)) y hy ey
theorem cellL_quiet {s : Key} : ∀ (xs : List Itm) (c : Cell2), Pl c → RightAll xs → logOf xs s = [] → cellL s c xs = c
  | [], _, _, _, _ => rfl
  | x :: xs, c, hp, hr, hl => by
    have h' : logB s x.1 0 x.2 ++ logOf xs s = [] := hl
    obtain ⟨h1, h2⟩ := List.append_eq_nil_iff.1 h'
    show cellL s (cellB s c x.2) xs = c
    rw [quiet_cell x.2 c hp (quiet_of_log x.2 0 h1 (bErr_ok (hr x List.mem_cons_self)).2)]
    exact cellL_quiet xs c hp (fun y hy => hr y (List.mem_cons_of_mem _ hy)) h2
theorem some_false {xs : List Itm} (hr : RightAll xs) : (eqC noC (cellOf xs) && eqL noL (logOf xs)) = (decide ((allOf xs).length = 0) || !someOf xs) := by
  have key : (∀ s, logOf xs s = []) → allC noC (cellOf xs) ∧ allL noL (logOf xs) := fun h => ⟨fun s => by
    have : cellOf xs s = (false, 0) := cellL_quiet xs _ (fun _ => rfl) hr (h s)
    rw [this]
    show sameC (false, 0) (false, 0) = true
    decide, fun s => (h s).symm⟩
  rw [Bool.eq_iff_iff, Bool.and_eq_true, Bool.or_eq_true, decide_eq_true_eq]
  constructor
  · rintro ⟨-, h2⟩
    right
    unfold eqL at h2
    have g2 := @of_decide_eq_true _ (Classical.propDecidable _) h2
    unfold someOf
    rw [Bool.not_eq_true', List.any_eq_false]
    intro s _
    rw [← g2 s]
    show ¬ (!([] : List Wr).isEmpty) = true
    simp
  · intro h
    have hall : ∀ s, logOf xs s = [] := fun s => by
      by_cases hs : s ∈ allOf xs
      · rcases h with h | h
        · rw [List.eq_nil_of_length_eq_zero h] at hs; cases hs
        · rw [Bool.not_eq_true'] at h
          unfold someOf at h
          have := List.any_eq_false.1 h s hs
          simpa using this
      · unfold allOf at hs
        rw [kset_mem] at hs
        exact logOf_none hs
    obtain ⟨h1, h2⟩ := key hall
    exact ⟨eqC_true h1, eqL_true h2⟩
end Go.Proofs.Ytacgmhnalbbgbaa.Vau

/- The statement's function of layer 13 (vault) on any items, a key and where a twin goes on: it returns true. Conditions: the items lie in memory as their cells say; numbers' words of 64 bits; texts of a length that Go reads. (Written by tools/gen_vaw.py.) -/
namespace Go.Proofs.Ytacgmhnalbbgbaa.Vau
open Go.RowKit F64 Cmd Bat Cel Wid Go.Maps Go.WideElems Go.ChangeMaps Go.Sort
set_option linter.unusedVariables false
set_option linter.unusedSimpArgs false

theorem applies_long (p : Option Addr) (n cap : Nat) (s : Key) (tw : Int) (w : World) (hl : 20 < n) : Calls Try.prog 3 #[.slice p n cap, .string (str s), .int .u8 tw] w (RetBelow (.bool true) w) := by
  have CP := Lib.hid vplay_any
  have h2 : decide ((20 : Int) < n) = true := decide_eq_true (by omega)
  have h3 : (20 : Int) < n := by omega
  clear hl
  go_enter Try.func3, Try.ntmps3
  go_wp2_with (first
    | (go_at_call 6; (with_reducible refine (CP.out _).mono ?_); rintro E w1 ⟨rfl, hb⟩; have B1 := Lib.hid hb; clear hb))
  go_ret
  exact ⟨rfl, B1.out⟩
theorem more_ge {n m k : Nat} (h : More (fun _ => False) n m k) : n ≤ k := by
  rcases h with h | h
  · exact h.elim
  · exact h.1
theorem new_lt (w : World) (o : Obj) : w.heap.size < (w.alloc o).heap.size := by simp
theorem n16 {i n : Nat} (h : n ≤ 20) (hi : i ≤ n) : 16 * i ≤ 50000 := by omega
theorem i100 {i n : Nat} (h : n ≤ 20) (hi : i ≤ n) : i ≤ 100 := by omega
theorem c100 {i n : Nat} {c : Int} (hc : c ≤ i) (h : n ≤ 20) (hi : i ≤ n) : c ≤ 100000 := by omega
theorem one_wf : ∀ x ∈ [((2 : Int), ([97] : List UInt8), (4635118810238550016 : Nat))], wfC x := by
  intro x hx
  rw [List.mem_singleton] at hx
  subst hx
  exact ⟨by decide, by decide⟩
theorem cnt_ok {xs : List Itm} {x : Itm} {cs : List Cmdn} {c' : Int} (he : bErr cs = 0) (h : c' = if bErr cs = 0 then (xs.length : Int) + 1 else (xs.length : Int)) : c' = ((xs ++ [x]).length : Int) := by
  rw [h, if_pos he, List.length_append]; simp
theorem cnt_no {xs : List Itm} {cs : List Cmdn} {c' : Int} (he : bErr cs ≠ 0) (h : c' = if bErr cs = 0 then (xs.length : Int) + 1 else (xs.length : Int)) : c' = (xs.length : Int) := by rw [h, if_neg he]
theorem row_len {v : Value} {zs : List Key} {W : World} {n : Nat} (h : layS.Row W v zs) (hn : n = zs.length) : ∃ p c, v = .slice p n c := by
  obtain ⟨p, c, e, _⟩ := h
  exact ⟨p, c, by rw [hn]; exact e⟩
theorem res_shape {v : Value} {ys : List Rs} {W : World} {n : Nat} (h : layR.Row W v ys) (hn : ys.length = n) : ∃ p c, v = .slice p n c := by
  obtain ⟨p, c, e, _⟩ := h
  exact ⟨p, c, by rw [← hn]; exact e⟩
theorem sub_len (k m : Nat) (hk : k ≤ 100000) : IntKind.i64.wrap (((k + m : Nat) : Int) - (m : Int)) = (k : Int) := by
  rw [IntKind.wrap_i64]; omega
theorem last_same {t : Value} {ts ys rs ss all : List Rs} {W : World} {pv : Option Addr} {cv kk m : Nat} (ht : layR.Row W t ts) (hr : layR.Row W (.slice pv (kk + m) cv) ys) (hft : Fits ts ss) (hfy : Fits ys all) (hall : all = rs ++ ss) (hk : kk = rs.length) :
    Calls Try.prog 12 #[t, .slice (cutl pv kk cv wdR.c) m (cv - kk)] W (RetBelow (.bool true) W) := by
  subst hall
  have hd := hfy.drop
  rw [← hk] at hd
  have hle : kk ≤ ys.length := by rw [hfy.len, List.length_append]; omega
  have h1 := row_drop (D := wdR) hr kk hle
  rw [Nat.add_sub_cancel_left] at h1
  refine (sres_any t _ ts (ys.drop kk) W ht h1 hft.wf hd.wf).mono fun E w' h => ?_
  rw [hft.same hd] at h; exact h
theorem twin_step {w W W5 W6 : World} {F F2 : Nat → Prop} {g g2 : Nat} {C : Key → Cell2} {L : Key → List Wr} {N : Nat} {c : Int} {row : Value} {qs : List Qt} {xs : List Itm} (h : On1 w.heap.size w F g C L N c W) (hr : Rw w.heap.size w F Emp row qs xs W)
    (hv : VP W5 w.heap.size F2 g2 C L N c) (hF2 : ∀ k, F2 k → W.heap.size ≤ k) (hb : Below W.heap.size W W5) (ho : Only F W5 W6) : On1 w.heap.size w F2 g2 C L N c W6 ∧ Rw w.heap.size w F2 Emp row qs xs W6 := by
  have hfoot := h.v.foot
  have hv6 : VP W6 w.heap.size F2 g2 C L N c := hv.far ho (fun j hj hf => by have := hF2 j hj; have := (hfoot j hf).2; omega)
  have hr5 := hr.beside (R := F2) hF2 hb
  refine ⟨⟨hv6, (h.below.trans (hb.mono h.size)).trans (ho.low (Nat.le_trans h.size hb.size) (fun k hk => (hfoot k hk).1)), Nat.le_trans h.size (Nat.le_trans hb.size ho.below.size)⟩, hr5.far ho (fun k hk hf => hr.no1 k hk hf)⟩
set_option maxHeartbeats 32000000 in
set_option maxRecDepth 100000 in
theorem applies_few (p : Option Addr) (cap : Nat) (xs : List Itm) (s : Key) (tw : Int) (w : World) (hrx : layT.Row w (.slice p xs.length cap) xs) (hwx : ∀ x ∈ xs, wfT x) (hs : s.length ≤ 140737488351232) (hl : xs.length ≤ 20) : Calls Try.prog 3 #[.slice p xs.length cap, .string (str s), .int .u8 tw] w (RetBelow (.bool true) w) := by
  have CP := Lib.hid vplay_any
  obtain ⟨p', cp', hpp, h1, hd⟩ := hrx.parts
  injection hpp with e1 _ e3
  subst e1; subst e3
  obtain ⟨n, hn⟩ : ∃ n, n = xs.length := ⟨_, rfl⟩
  have HN := Lib.hid hn
  have HWX := Lib.hid hwx
  have HKEY := Lib.hid hs
  have k1 : decide ((20 : Int) < n) = false := decide_eq_false (by omega)
  have k2 : ¬ (20 : Int) < n := by omega
  have KN : Hid (n ≤ 20) := Lib.hid (by omega)
  rw [← hn] at h1 hd
  rw [← hn]
  have CN : Hid (Calls Try.prog 7 #[] w (fun E w' => ∃ g, E = .returned (.pointer (some ⟨g, 0, none⟩)) ∧ VP w' w.heap.size (More (fun _ => False) w.heap.size w'.heap.size) g noC noL 0 0 ∧ Below w.heap.size w w')) := Lib.hid (vnew_any w w.heap.size (Nat.le_refl _))
  have HCV : Hid (∀ X : World, (convert 5 3 (.int .u8 tw)).run Try.prog X = .ok (.int .i64 (IntKind.i64.wrap tw)) X) := Lib.hid fun X => by kernel_rfl
  clear hrx hwx hl hn hs
  go_enter Try.func3, Try.ntmps3
  go_wp2_with (first
    | (go_at_call 7; ((with_reducible refine CN.out.mono ?_); rintro E w1 ⟨g0, rfl, hv, hb⟩; have HV1 := Lib.hid hv; have B1 := Lib.hid hb; clear hv hb CN)))
  have hb3 := Lib.hid (Cmd.below_one w1 (.cells #[] 30))
  have ON0 : Hid (On1 w.heap.size w (More (fun _ => False) w.heap.size w1.heap.size) g0 (cellOf []) (logOf []) 0 (([] : List Itm).length : Int) (w1.alloc (.cells #[] 30))) := Lib.hid (On1.on ⟨HV1.out, B1.out, B1.out.size⟩ hb3.out)
  have RW0 : Hid (Rw w.heap.size w (More (fun _ => False) w.heap.size w1.heap.size) Emp (.slice (some ⟨w1.heap.size, 0, none⟩) 0 0) [] [] (w1.alloc (.cells #[] 30))) := Lib.hid ⟨Wd.Own.made (D := wdQ) 30 w1 B1.out.size, Match.nil w, fun k hk hg => (by have hk' : w1.heap.size = k := Option.some.inj hk; rcases hg with hg | hg; exact hg; omega), fun k hk hg => hg⟩
  clear HV1 B1 hb3
  go_loopw [7, 8, 9] (fun v row idx wr => ∃ (i g : Nat) (G : Nat → Prop) (xa : List Itm) (qa : List Qt), i ≤ n ∧ idx = .int .i64 i ∧ v = .pointer (some ⟨g, 0, none⟩) ∧ Hid (On1 w.heap.size w G g (cellOf xa) (logOf xa) (16 * i) (xa.length : Int) wr) ∧ Hid (Rw w.heap.size w G Emp row qa xa wr) ∧ Hid (Few i xa (xa.length : Int))) (fun _ _ idx _ => n - (intOf idx).toNat)
  case atStart => exact ⟨0, g0, _, [], [], Nat.zero_le _, rfl, rfl, ON0, RW0, Lib.hid Few.nil⟩
  case round =>
    obtain ⟨i, g, G0, xa, qa, hi, rfl, rfl, HB, HR, HF⟩ := hrel
    have i00 : (0 : Int) ≤ i := by omega
    by_cases hin : i < n
    · have kin : (i : Int) < n := by omega
      obtain ⟨B, off, rfl, HC⟩ := hd.resolve_left (by omega)
      have hix : i < xs.length := by rw [← HN.out]; exact hin
      obtain ⟨x1, x2, cs, hx⟩ : ∃ a b cs, layT.at xs i = ((a, b), cs) := ⟨_, _, _, rfl⟩
      have HWC0 := HWX.out _ (layT.at_mem hix)
      rw [hx] at HWC0
      have HWC : Hid (∀ c ∈ cs, wfC c) := Lib.hid HWC0
      obtain ⟨p', cap2, hp2, hp3, hp4, -⟩ := partT HC.out hix hx
      obtain ⟨m', hm'⟩ : ∃ m', m' = cs.length := ⟨_, rfl⟩
      rw [← hm'] at hp2 hp3
      have HML := Lib.hid hm'
      have HS : Hid (∀ X, Below w.heap.size w X → X.cell? ⟨B, off + i * 3, none⟩ = some (.int .i64 x1) ∧ X.cell? ⟨B, off + i * 3 + 1, none⟩ = some (.int .i64 x2) ∧ X.cell? ⟨B, off + i * 3 + 2, none⟩ = some (.slice p' m' cap2)) := Lib.hid fun X hb => by
        obtain ⟨c0, c1, -⟩ := cellT (HC.out.on hb) hix hx
        exact ⟨c0, c1, (hb.cell (p := ⟨B, off + i * 3 + 2, none⟩) HC.out.lt).trans hp2⟩
      have HRC : Hid (∀ X, Below w.heap.size w X → layC.Row X (.slice p' m' cap2) cs) := Lib.hid fun X hb => by
        obtain ⟨-, -, v, e1, e2⟩ := cellT (HC.out.on hb) hix hx
        have e3 := (hb.cell (p := ⟨B, off + i * 3 + 2, none⟩) HC.out.lt).trans hp2
        rw [e1] at e3
        cases e3; exact e2
      obtain ⟨s0, s1, s2⟩ := HS.out wr HB.out.below
      have hm63 : (m' : Int) ≤ 9223372036854775807 := by omega
      clear hix hx hp2 hp3 hp4 hm' HWC0 hd
      by_cases hbig : 20 < m'
      · have q1 : decide ((20 : Int) < m') = true := decide_eq_true (by omega)
        have q2 : (20 : Int) < m' := by omega
        clear hbig
        go_wp2_with (first
          | (go_at_call 6; (with_reducible refine (CP.out _).mono ?_); rintro E y3 ⟨rfl, hb⟩; have Y3 := Lib.hid (HB.out.below.trans (hb.mono HB.out.size)); clear hb))
        go_ret
        exact ⟨rfl, Y3.out⟩
      · have q1 : decide ((20 : Int) < m') = false := decide_eq_false (by omega)
        have q2 : ¬ (20 : Int) < m' := by omega
        clear hbig
        obtain ⟨qb, hqb⟩ : ∃ qb : Bool, ((i : Int) == IntKind.i64.wrap tw) = qb := ⟨_, rfl⟩
        have hcv := HCV.out wr
        generalize IntKind.i64.wrap tw = twi at hqb hcv
        go_upto_if 40 with fail
        go_cut [7, 10] from 23 to 108 (fun v old wc => ∃ (g : Nat) (G1 : Nat → Prop), v = .pointer (some ⟨g, 0, none⟩) ∧ Hid (On1 w.heap.size w G1 g (cellOf xa) (logOf xa) (16 * i) (xa.length : Int) wc) ∧ Hid (Rw w.heap.size w G1 Emp u8 qa xa wc))
        case first =>
          cases qb with
          | false =>
            go_wp2_with fail
            go_meet
            case rel => exact ⟨g, G0, rfl, HB, HR⟩
          | true =>
            have CT := Lib.hid (vtwin_any (base' := w.heap.size) HB.out.v HB.out.size (by have := KN.out; omega) (fun s => by have := HF.out.log (by have := KN.out; omega) s; omega))
            unfold GivesV vptr at CT
            have HCN : Hid (0 ≤ (xa.length : Int) ∧ (xa.length : Int) ≤ 100) := Lib.hid ⟨HF.out.c0, by have := HF.out.c1; have := KN.out; omega⟩
            go_wp2_with (first
              | (go_at_call 8; ((with_reducible refine CT.out.mono ?_); rintro E w4 ⟨g2, rfl, hv, hb⟩; have HV4 := Lib.hid hv; have HB4 := Lib.hid hb; have hb5 := Lib.hid (Cmd.below_one w4 (.cells #[.int .i64 2, .string ⟨#[97]⟩, .float .f64 4635118810238550016] 37)); have HB5 := Lib.hid ((HB.out.on HB4.out).on hb5.out); have CA := Lib.hid (vap_any HB5.out.v HB5.out.size 0 0 (.slice (some ⟨w4.heap.size, 0, none⟩) 1 1) _ (fun X ho => row_one w4.heap.size ((ho.block w4.heap.size (new_lt w4 _) (fun hf => absurd (HB.out.v.foot _ hf).2 (Nat.not_lt.2 HB4.out.size))).trans (heap_alloc_new w4 _))) one_wf (n16 KN.out hi) (fun s => HF.out.log (i100 KN.out hi) s) HCN.out.1 (Int.le_trans HCN.out.2 (by decide))); clear hv hb))
              | (go_at_call 9; ((with_reducible refine CA.out.mono ?_); rintro E w6 ⟨t, ts, G, c', rfl, ht, hfit, hv, ho, hG, htk, hc'⟩; have HT6 := Lib.hid (twin_step HB.out HR.out (HV4.out.on hb5.out) (fun k hk => more_ge hk) (HB4.out.trans (hb5.out.mono HB4.out.size)) ho); clear ht hfit hv ho hG htk hc')))
            go_meet
            case rel => exact ⟨g2, _, rfl, Lib.hid HT6.out.1, Lib.hid HT6.out.2⟩
        case rest =>
          obtain ⟨g1, G1, rfl, HB1, HR1⟩ := hcut
          clear hqb hcv s0 s1 s2
          by_cases he : bErr cs = 0
          · have HE := Lib.hid he
            clear he
            have HB2 := Lib.hid (HB1.out.on (Below.refl _ _).drew)
            have HR2 := Lib.hid (HR1.out.on (Below.refl _ _).drew)
            have HCK : Hid (∀ X, Below w.heap.size w X → Calls Try.prog 10 #[.slice p' m' cap2] X (RetBelow (.int .i64 0) X)) := Lib.hid fun X hb => by
              have := refcheck_any _ cs X (HRC.out X hb) HWC.out
              rw [HE.out] at this; exact this
            go_wp2_with fail
            refine wp_region_held_drew (S := (fun w' => w'.cell? ⟨B, off + i * 3, none⟩ = some (.int .i64 x1) ∧ w'.cell? ⟨B, off + i * 3 + 1, none⟩ = some (.int .i64 x2) ∧ w'.cell? ⟨B, off + i * 3 + 2, none⟩ = some (.slice p' m' cap2))) (by kernel_rfl) (HS.out _ HB2.out.below) (fun hHeld => ?_)
            generalize wc.drew = W0 at HB2 HR2 hHeld ⊢
            have hba := Lib.hid (Cmd.below_one W0 (.cells #[] 37))
            have HBA := Lib.hid (HB2.out.on hba.out)
            have HM0 := Lib.hid (Wd.Own.made (D := wdC) 37 W0 (Nat.le_refl _))
            have HZA := Lib.hid hba.out.size
            have HL20 : Hid (([] : List Cmdn).length + cs.length ≤ 1000000) := Lib.hid (by have := HML.out; simp; omega)
            refine wpAnyH_take (i := 0) (v := ?_) rfl (by kernel_rfl) (by kernel_rfl) (by kernel_rfl) (fun _ _ _ h => h) (Or.inl ⟨by rfl, fun w hSw => ?_⟩) (by assumption) ?_
            rotate_left
            · (try dsimp only at hSw); go_simp; (try with_reducible rfl)
            try simp only [List.getElem_toArray, List.getElem_cons_succ, List.getElem_cons_zero, Act.put, List.setIfInBounds_toArray, List.set_cons_zero, List.set_cons_succ]
            refine wpAnyH_take (i := 1) (v := ?_) rfl (by kernel_rfl) (by kernel_rfl) (by kernel_rfl) (fun _ _ _ h => h) (Or.inl ⟨by rfl, fun w hSw => ?_⟩) (by assumption) ?_
            rotate_left
            · (try dsimp only at hSw); go_simp; (try with_reducible rfl)
            try simp only [List.getElem_toArray, List.getElem_cons_succ, List.getElem_cons_zero, Act.put, List.setIfInBounds_toArray, List.set_cons_zero, List.set_cons_succ]
            refine wpAnyH_take (i := 2) (v := ?_) rfl (by kernel_rfl) (by kernel_rfl) (by kernel_rfl) (fun _ _ _ h => h) (Or.inl ⟨by rfl, fun w hSw => ?_⟩) (by assumption) ?_
            rotate_left
            · (try dsimp only at hSw); go_simp; (try with_reducible rfl)
            try simp only [List.getElem_toArray, List.getElem_cons_succ, List.getElem_cons_zero, Act.put, List.setIfInBounds_toArray, List.set_cons_zero, List.set_cons_succ]
            refine wpAnyH_take (i := 3) (v := ?_) rfl (by kernel_rfl) (by kernel_rfl) (by kernel_rfl) (fun _ _ _ h => h) (Or.inl ⟨by rfl, fun w hSw => ?_⟩) (by assumption) ?_
            rotate_left
            · (try dsimp only at hSw); go_simp; (try with_reducible rfl)
            try simp only [List.getElem_toArray, List.getElem_cons_succ, List.getElem_cons_zero, Act.put, List.setIfInBounds_toArray, List.set_cons_zero, List.set_cons_succ]
            refine wpAnyH_take (i := 4) (v := ?_) rfl (by kernel_rfl) (by kernel_rfl) (by kernel_rfl) (fun _ _ _ h => h) (Or.inl ⟨by rfl, fun w hSw => ?_⟩) (by assumption) ?_
            rotate_left
            · (try dsimp only at hSw); go_simp; (try with_reducible rfl)
            try simp only [List.getElem_toArray, List.getElem_cons_succ, List.getElem_cons_zero, Act.put, List.setIfInBounds_toArray, List.set_cons_zero, List.set_cons_succ]
            refine wpAnyH_take (i := 5) (v := ?_) rfl (by kernel_rfl) (by kernel_rfl) (by kernel_rfl) (fun _ _ _ h => h) (Or.inl ⟨by rfl, fun w hSw => ?_⟩) (by assumption) ?_
            rotate_left
            · (try dsimp only at hSw); go_simp; (try with_reducible rfl)
            try simp only [List.getElem_toArray, List.getElem_cons_succ, List.getElem_cons_zero, Act.put, List.setIfInBounds_toArray, List.set_cons_zero, List.set_cons_succ]
            refine wpAnyH_take (i := 7) (v := ?_) rfl (by kernel_rfl) (by kernel_rfl) (by kernel_rfl) (fun _ _ _ h => h) (Or.inl ⟨by rfl, fun w hSw => ?_⟩) (by assumption) ?_
            rotate_left
            · (try dsimp only at hSw); go_simp; (try with_reducible rfl)
            try simp only [List.getElem_toArray, List.getElem_cons_succ, List.getElem_cons_zero, Act.put, List.setIfInBounds_toArray, List.set_cons_zero, List.set_cons_succ]
            refine wpAnyH_take (i := 8) (v := ?_) rfl (by kernel_rfl) (by kernel_rfl) (by kernel_rfl) (fun _ _ _ h => h) (Or.inl ⟨by rfl, fun w hSw => ?_⟩) (by assumption) ?_
            rotate_left
            · (try dsimp only at hSw); go_simp; (try with_reducible rfl)
            try simp only [List.getElem_toArray, List.getElem_cons_succ, List.getElem_cons_zero, Act.put, List.setIfInBounds_toArray, List.set_cons_zero, List.set_cons_succ]
            refine wpAnyH_take (i := 9) (v := ?_) rfl (by kernel_rfl) (by kernel_rfl) (by kernel_rfl) (fun _ _ _ h => h) (Or.inl ⟨by rfl, fun w hSw => ?_⟩) (by assumption) ?_
            rotate_left
            · (try dsimp only at hSw); go_simp; (try with_reducible rfl)
            try simp only [List.getElem_toArray, List.getElem_cons_succ, List.getElem_cons_zero, Act.put, List.setIfInBounds_toArray, List.set_cons_zero, List.set_cons_succ]
            refine wpAnyH_take (i := 10) (v := ?_) rfl (by kernel_rfl) (by kernel_rfl) (by kernel_rfl) (fun _ _ _ h => h) (Or.inl ⟨by rfl, fun w hSw => ?_⟩) (by assumption) ?_
            rotate_left
            · (try dsimp only at hSw); go_simp; (try with_reducible rfl)
            try simp only [List.getElem_toArray, List.getElem_cons_succ, List.getElem_cons_zero, Act.put, List.setIfInBounds_toArray, List.set_cons_zero, List.set_cons_succ]
            refine wpAnyH_take (i := 11) (v := ?_) rfl (by kernel_rfl) (by kernel_rfl) (by kernel_rfl) (fun _ _ _ h => h) (Or.inl ⟨by rfl, fun w hSw => ?_⟩) (by assumption) ?_
            rotate_left
            · (try dsimp only at hSw); go_simp; (try with_reducible rfl)
            try simp only [List.getElem_toArray, List.getElem_cons_succ, List.getElem_cons_zero, Act.put, List.setIfInBounds_toArray, List.set_cons_zero, List.set_cons_succ]
            refine wpAnyH_ready (rs := [6]) (by kernel_rfl) (by simp) ?_
            refine AllReadyH.cons rfl (fun K hK => ?_) ?_
            rotate_left
            · exact AllReadyH.nil
            go_simp
            skip
            refine hK.out _ _ ?_ (fun hHeld => ?_)
            · exact HS.out _ HBA.out.below
            clear hK K
            try simp only [List.getElem_toArray, List.getElem_cons_succ, List.getElem_cons_zero, Act.put, List.setIfInBounds_toArray, List.set_cons_zero, List.set_cons_succ]
            refine wpAnyH_ready (rs := [12]) (by kernel_rfl) (by simp) ?_
            refine AllReadyH.cons rfl (fun K hK => ?_) ?_
            rotate_left
            · exact AllReadyH.nil
            refine step_wide wtC (by kernel_rfl) _ _ rfl W0.heap.size _ [] rfl HM0.out HZA.out _ cs rfl (HRC.out _ HBA.out.below) HL20.out ?_
            intro v2 w2 HO2 HBW2 HGW2
            have HBB := Lib.hid (HB2.out.on (hba.out.trans HBW2.out))
            have HRR := Lib.hid (HR2.out.on (hba.out.trans HBW2.out))
            have CA := Lib.hid (vap_any HBB.out.v HBB.out.size x1 x2 v2 cs (fun X ho => own_only (D := wdC) HO2.out (fun k hk => (HB2.out.v.foot k hk).2) ho) HWC.out (n16 KN.out hi) (fun s => HF.out.log (i100 KN.out hi) s) HF.out.c0 (c100 HF.out.c1 KN.out hi))
            refine hK.out _ _ ?_ (fun hHeld => ?_)
            · exact HS.out _ HBB.out.below
            clear hK K
            try simp only [List.getElem_toArray, List.getElem_cons_succ, List.getElem_cons_zero, Act.put, List.setIfInBounds_toArray, List.set_cons_zero, List.set_cons_succ]
            refine wpAnyH_ready (rs := [13]) (by kernel_rfl) (by simp) ?_
            refine AllReadyH.cons rfl (fun K hK => ?_) ?_
            rotate_left
            · exact AllReadyH.nil
            go_simp
            (go_at_call 9; (with_reducible refine CA.out.mono ?_); rintro E w3 ⟨t, ts, G, c', rfl, ht, hfit, hv, ho, hG, htk, hc'⟩; rw [HE.out]; have HB3 : Hid (On1 w.heap.size w G g1 (cellOf (xa ++ [((x1, x2), cs)])) (logOf (xa ++ [((x1, x2), cs)])) (16 * i + 16) ((xa ++ [((x1, x2), cs)]).length : Int) w3) := Lib.hid (by have := HBB.out.app hv ho; rw [(st_ok (id := (x1, x2)) HE.out).1, (st_ok HE.out).2, cnt_ok HE.out hc'] at this; exact this); have HR3 := Lib.hid (HRR.out.app1 ho hG); have HF3 : Hid (Few (i + 1) (xa ++ [((x1, x2), cs)]) ((xa ++ [((x1, x2), cs)]).length : Int)) := Lib.hid (by have := HF.out.ok (id := (x1, x2)) HE.out HWC.out hc'; rw [cnt_ok HE.out hc'] at this; exact this); have HT3 := Lib.hid ht; have HTK : Hid (∀ k, t.ownBlock = some k → w2.heap.size ≤ k) := Lib.hid (fun k hk => (htk k hk).2); have HFI := Lib.hid hfit; clear ht hfit hv ho hG htk hc')
            refine hK.out _ _ ?_ (fun hHeld => ?_)
            · exact HS.out _ HB3.out.below
            clear hK K
            try simp only [List.getElem_toArray, List.getElem_cons_succ, List.getElem_cons_zero, Act.put, List.setIfInBounds_toArray, List.set_cons_zero, List.set_cons_succ]
            refine wpAnyH_take (i := 14) (v := ?_) rfl (by kernel_rfl) (by kernel_rfl) (by kernel_rfl) (fun _ _ _ h => h) (Or.inl ⟨by rfl, fun w hSw => ?_⟩) (by assumption) ?_
            rotate_left
            · (try dsimp only at hSw); go_simp; (try with_reducible rfl)
            try simp only [List.getElem_toArray, List.getElem_cons_succ, List.getElem_cons_zero, Act.put, List.setIfInBounds_toArray, List.set_cons_zero, List.set_cons_succ]
            refine wpAnyH_take (i := 15) (v := ?_) rfl (by kernel_rfl) (by kernel_rfl) (by kernel_rfl) (fun _ _ _ h => h) (Or.inl ⟨by rfl, fun w hSw => ?_⟩) (by assumption) ?_
            rotate_left
            · (try dsimp only at hSw); go_simp; (try with_reducible rfl)
            try simp only [List.getElem_toArray, List.getElem_cons_succ, List.getElem_cons_zero, Act.put, List.setIfInBounds_toArray, List.set_cons_zero, List.set_cons_succ]
            refine wpAnyH_take (i := 16) (v := ?_) rfl (by kernel_rfl) (by kernel_rfl) (by kernel_rfl) (fun _ _ _ h => h) (Or.inl ⟨by rfl, fun w hSw => ?_⟩) (by assumption) ?_
            rotate_left
            · (try dsimp only at hSw); go_simp; (try with_reducible rfl)
            try simp only [List.getElem_toArray, List.getElem_cons_succ, List.getElem_cons_zero, Act.put, List.setIfInBounds_toArray, List.set_cons_zero, List.set_cons_succ]
            refine wpAnyH_take (i := 17) (v := ?_) rfl (by kernel_rfl) (by kernel_rfl) (by kernel_rfl) (fun _ _ _ h => h) (Or.inl ⟨by rfl, fun w hSw => ?_⟩) (by assumption) ?_
            rotate_left
            · (try dsimp only at hSw); go_simp; (try with_reducible rfl)
            try simp only [List.getElem_toArray, List.getElem_cons_succ, List.getElem_cons_zero, Act.put, List.setIfInBounds_toArray, List.set_cons_zero, List.set_cons_succ]
            refine wpAnyH_take (i := 18) (v := ?_) rfl (by kernel_rfl) (by kernel_rfl) (by kernel_rfl) (fun _ _ _ h => h) (Or.inl ⟨by rfl, fun w hSw => ?_⟩) (by assumption) ?_
            rotate_left
            · (try dsimp only at hSw); go_simp; (try with_reducible rfl)
            try simp only [List.getElem_toArray, List.getElem_cons_succ, List.getElem_cons_zero, Act.put, List.setIfInBounds_toArray, List.set_cons_zero, List.set_cons_succ]
            refine wpAnyH_done (by kernel_rfl) ?_ _
            obtain ⟨s0, s1, s2⟩ := HS.out w3 HB3.out.below
            have CK3 := Lib.hid (HCK.out w3 HB3.out.below)
            have HFB : Hid (Fits ts (resB xa (x1, x2) cs)) := Lib.hid (by rw [← stR_ok HE.out]; exact HFI.out)
            have HTR : Hid (∀ k, t.ownBlock = some k → u8.ownBlock ≠ some k) := Lib.hid fun k hk hu => by have := HTK.out k hk; have := (HRR.out.lt k hu).2; omega
            have HQL : Hid (qa.length + 1 ≤ 1000000) := Lib.hid (by have := HR3.out.m.len; have := HF.out.len; have := KN.out; omega)
            have HXL : Hid ((xa ++ [((x1, x2), cs)]).length ≤ 100000) := Lib.hid (by have := HF3.out.len; have := KN.out; omega)
            have HCL : Hid ((cmdsOf (xa ++ [((x1, x2), cs)])).length ≤ 100000) := Lib.hid (by have h1 := cmds_few HF3.out.right; have := HF3.out.len; have := KN.out; omega)
            obtain ⟨kk, hkk⟩ : ∃ kk, kk = (resOf xa).length := ⟨_, rfl⟩
            have HKK := Lib.hid hkk
            have HKS : Hid (kk ≤ 100000) := Lib.hid (by rw [hkk]; unfold resOf; rw [resT_len xa xa.length (Nat.le_refl _), List.take_length]; have h1 := HCL.out; rw [cmdsOf_app', List.length_append] at h1; omega)
            have HRL : Hid ((resOf (xa ++ [((x1, x2), cs)])).length = kk + m') := Lib.hid (by rw [resOf_snoc, List.length_append, resB_len, hkk, HML.out])
            have HNT : Hid (16 * i + 16 ≤ 100000) := Lib.hid (by have := KN.out; omega)
            have HXK : Hid ((xa ++ [((x1, x2), cs)]).length ≤ 1000) := Lib.hid (by have := HF3.out.len; have := KN.out; omega)
            have hk0 : (0 : Int) ≤ (kk : Int) := by omega
            have hk9 : (kk : Int) ≤ 100000 := by have := HKS.out; omega
            clear hkk
            go_wp2_with (first
              | (go_at_call 10; ((with_reducible refine CK3.out.mono ?_); rintro E w4 ⟨rfl, hb⟩; have HB4 := Lib.hid (HB3.out.on hb); have HR4 := Lib.hid (HR3.out.on hb); have HT4 := Lib.hid (HT3.out.on hb); have hb5 := Lib.hid (Cmd.below_one w4 (.cells #[.int .i64 x1, .int .i64 x2, .slice p' m' cap2] 30)); have HLO := Lib.hid (lone_at (D := wdQ) (x := ((x1, x2), (p', m', cap2))) (heap_alloc_new w4 (.cells #[.int .i64 x1, .int .i64 x2, .slice p' m' cap2] 30)) rfl); have HOW := Lib.hid (Wd.Own.below HR4.out.own hb5.out); have HZ4 := Lib.hid (Nat.le_trans HB4.out.size hb5.out.size); obtain ⟨s0, s1, s2⟩ := HS.out w4 HB4.out.below; clear hb CK3))
              | (at_builtin; refine wp_push wtQ rfl _ _ rfl w.heap.size _ _ rfl HOW.out HZ4.out ⟨w4.heap.size, 0, none⟩ ((x1, x2), (p', m', cap2)) rfl HLO.out HQL.out ?_; intro v5 w5 HO5 HG5 HN5; have HP5 := Lib.hid (HR4.out.push1 HB4.out hb5.out (show layC.Row w (sl (p', m', cap2)) cs from HRC.out w (Below.refl _ _)) HO5.out HG5.out HN5.out); have HT5 := Lib.hid (HT4.out.far HP5.out.2.2 HTR.out); have HR5 := Lib.hid HP5.out.1; have HB5 := Lib.hid HP5.out.2.1; have CRS := Lib.hid (rres_any v5 _ w5 (HR5.out.row HB5.out.below) HF3.out.wf HCL.out HXL.out); clear HP5)
              | (go_at_call 11; ((with_reducible refine CRS.out.mono ?_); rintro E w6 ⟨v6, ys6, rfl, hr6, hf6, hb⟩; have HB6 := Lib.hid (HB5.out.on hb); have HR6 := Lib.hid (HR5.out.on hb); have HT6 := Lib.hid (HT5.out.on hb); obtain ⟨pv, cv, hv6⟩ := res_shape hr6 (hf6.len.trans HRL.out); subst hv6; have hcut := fun w => from_wide wtR pv (kk + m') cv kk (Nat.le_add_right _ _) w; have hsub := sub_len kk m' HKS.out; have CSR := Lib.hid (last_same (t := t) HT6.out.row hr6 HFB.out hf6 (resOf_snoc xa ((x1, x2), cs)) HKK.out); have HD5 : Hid (wdR.c = 5) := Lib.hid rfl; obtain ⟨s0, s1, s2⟩ := HS.out w6 HB6.out.below; clear hb hr6 hf6 CRS))
              | (go_at_call 12; ((with_reducible refine CSR.out.mono ?_); rintro E w7 ⟨rfl, hb⟩; have HB7 := Lib.hid (HB6.out.on hb); have HR7 := Lib.hid (HR6.out.on hb); have CTE : Hid (Calls Try.prog 13 #[.pointer (some ⟨g1, 0, none⟩), v5, .string (str s)] w7 (RetBelow (.bool true) w7)) := Lib.hid (vtells_any HB7.out.v HNT.out v5 s (HR7.out.row HB7.out.below) HF3.out.wf HF3.out.right HXK.out HKEY.out); clear hb CSR))
              | (go_at_call 13; ((with_reducible refine CTE.out.mono ?_); rintro E w8 ⟨rfl, hb⟩; have HB8 := Lib.hid (HB7.out.on hb); have HR8 := Lib.hid (HR7.out.on hb); clear hb CTE)))
            go_roundw
            case rel => exact ⟨i + 1, g1, G, xa ++ [((x1, x2), cs)], qa ++ [((x1, x2), (p', m', cap2))], by omega, by go_num, rfl, HB8, HR8, HF3⟩
            case measure => simp [intOf]; omega
          · obtain ⟨e, hee⟩ : ∃ e, e = bErr cs := ⟨_, rfl⟩
            have HE := Lib.hid he
            have HEE := Lib.hid hee
            have hz : (e != e) = false := by simp
            have hz2 : (e != 0) = true := by rw [hee]; simpa using he
            clear he hee
            have HB2 := Lib.hid (HB1.out.on (Below.refl _ _).drew)
            have HR2 := Lib.hid (HR1.out.on (Below.refl _ _).drew)
            have HCK : Hid (∀ X, Below w.heap.size w X → Calls Try.prog 10 #[.slice p' m' cap2] X (RetBelow (.int .i64 e) X)) := Lib.hid fun X hb => by
              have := refcheck_any _ cs X (HRC.out X hb) HWC.out
              rw [← HEE.out] at this; exact this
            go_wp2_with fail
            refine wp_region_held_drew (S := (fun w' => w'.cell? ⟨B, off + i * 3, none⟩ = some (.int .i64 x1) ∧ w'.cell? ⟨B, off + i * 3 + 1, none⟩ = some (.int .i64 x2) ∧ w'.cell? ⟨B, off + i * 3 + 2, none⟩ = some (.slice p' m' cap2))) (by kernel_rfl) (HS.out _ HB2.out.below) (fun hHeld => ?_)
            generalize wc.drew = W0 at HB2 HR2 hHeld ⊢
            have hba := Lib.hid (Cmd.below_one W0 (.cells #[] 37))
            have HBA := Lib.hid (HB2.out.on hba.out)
            have HM0 := Lib.hid (Wd.Own.made (D := wdC) 37 W0 (Nat.le_refl _))
            have HZA := Lib.hid hba.out.size
            have HL20 : Hid (([] : List Cmdn).length + cs.length ≤ 1000000) := Lib.hid (by have := HML.out; simp; omega)
            refine wpAnyH_take (i := 0) (v := ?_) rfl (by kernel_rfl) (by kernel_rfl) (by kernel_rfl) (fun _ _ _ h => h) (Or.inl ⟨by rfl, fun w hSw => ?_⟩) (by assumption) ?_
            rotate_left
            · (try dsimp only at hSw); go_simp; (try with_reducible rfl)
            try simp only [List.getElem_toArray, List.getElem_cons_succ, List.getElem_cons_zero, Act.put, List.setIfInBounds_toArray, List.set_cons_zero, List.set_cons_succ]
            refine wpAnyH_take (i := 1) (v := ?_) rfl (by kernel_rfl) (by kernel_rfl) (by kernel_rfl) (fun _ _ _ h => h) (Or.inl ⟨by rfl, fun w hSw => ?_⟩) (by assumption) ?_
            rotate_left
            · (try dsimp only at hSw); go_simp; (try with_reducible rfl)
            try simp only [List.getElem_toArray, List.getElem_cons_succ, List.getElem_cons_zero, Act.put, List.setIfInBounds_toArray, List.set_cons_zero, List.set_cons_succ]
            refine wpAnyH_take (i := 2) (v := ?_) rfl (by kernel_rfl) (by kernel_rfl) (by kernel_rfl) (fun _ _ _ h => h) (Or.inl ⟨by rfl, fun w hSw => ?_⟩) (by assumption) ?_
            rotate_left
            · (try dsimp only at hSw); go_simp; (try with_reducible rfl)
            try simp only [List.getElem_toArray, List.getElem_cons_succ, List.getElem_cons_zero, Act.put, List.setIfInBounds_toArray, List.set_cons_zero, List.set_cons_succ]
            refine wpAnyH_take (i := 3) (v := ?_) rfl (by kernel_rfl) (by kernel_rfl) (by kernel_rfl) (fun _ _ _ h => h) (Or.inl ⟨by rfl, fun w hSw => ?_⟩) (by assumption) ?_
            rotate_left
            · (try dsimp only at hSw); go_simp; (try with_reducible rfl)
            try simp only [List.getElem_toArray, List.getElem_cons_succ, List.getElem_cons_zero, Act.put, List.setIfInBounds_toArray, List.set_cons_zero, List.set_cons_succ]
            refine wpAnyH_take (i := 4) (v := ?_) rfl (by kernel_rfl) (by kernel_rfl) (by kernel_rfl) (fun _ _ _ h => h) (Or.inl ⟨by rfl, fun w hSw => ?_⟩) (by assumption) ?_
            rotate_left
            · (try dsimp only at hSw); go_simp; (try with_reducible rfl)
            try simp only [List.getElem_toArray, List.getElem_cons_succ, List.getElem_cons_zero, Act.put, List.setIfInBounds_toArray, List.set_cons_zero, List.set_cons_succ]
            refine wpAnyH_take (i := 5) (v := ?_) rfl (by kernel_rfl) (by kernel_rfl) (by kernel_rfl) (fun _ _ _ h => h) (Or.inl ⟨by rfl, fun w hSw => ?_⟩) (by assumption) ?_
            rotate_left
            · (try dsimp only at hSw); go_simp; (try with_reducible rfl)
            try simp only [List.getElem_toArray, List.getElem_cons_succ, List.getElem_cons_zero, Act.put, List.setIfInBounds_toArray, List.set_cons_zero, List.set_cons_succ]
            refine wpAnyH_take (i := 7) (v := ?_) rfl (by kernel_rfl) (by kernel_rfl) (by kernel_rfl) (fun _ _ _ h => h) (Or.inl ⟨by rfl, fun w hSw => ?_⟩) (by assumption) ?_
            rotate_left
            · (try dsimp only at hSw); go_simp; (try with_reducible rfl)
            try simp only [List.getElem_toArray, List.getElem_cons_succ, List.getElem_cons_zero, Act.put, List.setIfInBounds_toArray, List.set_cons_zero, List.set_cons_succ]
            refine wpAnyH_take (i := 8) (v := ?_) rfl (by kernel_rfl) (by kernel_rfl) (by kernel_rfl) (fun _ _ _ h => h) (Or.inl ⟨by rfl, fun w hSw => ?_⟩) (by assumption) ?_
            rotate_left
            · (try dsimp only at hSw); go_simp; (try with_reducible rfl)
            try simp only [List.getElem_toArray, List.getElem_cons_succ, List.getElem_cons_zero, Act.put, List.setIfInBounds_toArray, List.set_cons_zero, List.set_cons_succ]
            refine wpAnyH_take (i := 9) (v := ?_) rfl (by kernel_rfl) (by kernel_rfl) (by kernel_rfl) (fun _ _ _ h => h) (Or.inl ⟨by rfl, fun w hSw => ?_⟩) (by assumption) ?_
            rotate_left
            · (try dsimp only at hSw); go_simp; (try with_reducible rfl)
            try simp only [List.getElem_toArray, List.getElem_cons_succ, List.getElem_cons_zero, Act.put, List.setIfInBounds_toArray, List.set_cons_zero, List.set_cons_succ]
            refine wpAnyH_take (i := 10) (v := ?_) rfl (by kernel_rfl) (by kernel_rfl) (by kernel_rfl) (fun _ _ _ h => h) (Or.inl ⟨by rfl, fun w hSw => ?_⟩) (by assumption) ?_
            rotate_left
            · (try dsimp only at hSw); go_simp; (try with_reducible rfl)
            try simp only [List.getElem_toArray, List.getElem_cons_succ, List.getElem_cons_zero, Act.put, List.setIfInBounds_toArray, List.set_cons_zero, List.set_cons_succ]
            refine wpAnyH_take (i := 11) (v := ?_) rfl (by kernel_rfl) (by kernel_rfl) (by kernel_rfl) (fun _ _ _ h => h) (Or.inl ⟨by rfl, fun w hSw => ?_⟩) (by assumption) ?_
            rotate_left
            · (try dsimp only at hSw); go_simp; (try with_reducible rfl)
            try simp only [List.getElem_toArray, List.getElem_cons_succ, List.getElem_cons_zero, Act.put, List.setIfInBounds_toArray, List.set_cons_zero, List.set_cons_succ]
            refine wpAnyH_ready (rs := [6]) (by kernel_rfl) (by simp) ?_
            refine AllReadyH.cons rfl (fun K hK => ?_) ?_
            rotate_left
            · exact AllReadyH.nil
            go_simp
            skip
            refine hK.out _ _ ?_ (fun hHeld => ?_)
            · exact HS.out _ HBA.out.below
            clear hK K
            try simp only [List.getElem_toArray, List.getElem_cons_succ, List.getElem_cons_zero, Act.put, List.setIfInBounds_toArray, List.set_cons_zero, List.set_cons_succ]
            refine wpAnyH_ready (rs := [12]) (by kernel_rfl) (by simp) ?_
            refine AllReadyH.cons rfl (fun K hK => ?_) ?_
            rotate_left
            · exact AllReadyH.nil
            refine step_wide wtC (by kernel_rfl) _ _ rfl W0.heap.size _ [] rfl HM0.out HZA.out _ cs rfl (HRC.out _ HBA.out.below) HL20.out ?_
            intro v2 w2 HO2 HBW2 HGW2
            have HBB := Lib.hid (HB2.out.on (hba.out.trans HBW2.out))
            have HRR := Lib.hid (HR2.out.on (hba.out.trans HBW2.out))
            have CA := Lib.hid (vap_any HBB.out.v HBB.out.size x1 x2 v2 cs (fun X ho => own_only (D := wdC) HO2.out (fun k hk => (HB2.out.v.foot k hk).2) ho) HWC.out (n16 KN.out hi) (fun s => HF.out.log (i100 KN.out hi) s) HF.out.c0 (c100 HF.out.c1 KN.out hi))
            refine hK.out _ _ ?_ (fun hHeld => ?_)
            · exact HS.out _ HBB.out.below
            clear hK K
            try simp only [List.getElem_toArray, List.getElem_cons_succ, List.getElem_cons_zero, Act.put, List.setIfInBounds_toArray, List.set_cons_zero, List.set_cons_succ]
            refine wpAnyH_ready (rs := [13]) (by kernel_rfl) (by simp) ?_
            refine AllReadyH.cons rfl (fun K hK => ?_) ?_
            rotate_left
            · exact AllReadyH.nil
            go_simp
            (go_at_call 9; (with_reducible refine CA.out.mono ?_); rintro E w3 ⟨t, ts, G, c', rfl, ht, hfit, hv, ho, hG, htk, hc'⟩; rw [← HEE.out]; have HB3 : Hid (On1 w.heap.size w G g1 (cellOf xa) (logOf xa) (16 * i + 16) (xa.length : Int) w3) := Lib.hid (by have := HBB.out.app hv ho; rw [(st_no (L := logOf xa) (id := (x1, x2)) HE.out).1, (st_no (C := cellOf xa) HE.out).2, cnt_no HE.out hc'] at this; exact this); have HR3 := Lib.hid (HRR.out.app1 ho hG); have HF3 : Hid (Few (i + 1) xa (xa.length : Int)) := Lib.hid (by have := HF.out.no HE.out hc'; rw [cnt_no HE.out hc'] at this; exact this); have HT3 := Lib.hid ht; have HTK : Hid (∀ k, t.ownBlock = some k → w2.heap.size ≤ k) := Lib.hid (fun k hk => (htk k hk).2); have HFI := Lib.hid hfit; clear ht hfit hv ho hG htk hc')
            refine hK.out _ _ ?_ (fun hHeld => ?_)
            · exact HS.out _ HB3.out.below
            clear hK K
            try simp only [List.getElem_toArray, List.getElem_cons_succ, List.getElem_cons_zero, Act.put, List.setIfInBounds_toArray, List.set_cons_zero, List.set_cons_succ]
            refine wpAnyH_take (i := 14) (v := ?_) rfl (by kernel_rfl) (by kernel_rfl) (by kernel_rfl) (fun _ _ _ h => h) (Or.inl ⟨by rfl, fun w hSw => ?_⟩) (by assumption) ?_
            rotate_left
            · (try dsimp only at hSw); go_simp; (try with_reducible rfl)
            try simp only [List.getElem_toArray, List.getElem_cons_succ, List.getElem_cons_zero, Act.put, List.setIfInBounds_toArray, List.set_cons_zero, List.set_cons_succ]
            refine wpAnyH_take (i := 15) (v := ?_) rfl (by kernel_rfl) (by kernel_rfl) (by kernel_rfl) (fun _ _ _ h => h) (Or.inl ⟨by rfl, fun w hSw => ?_⟩) (by assumption) ?_
            rotate_left
            · (try dsimp only at hSw); go_simp; (try with_reducible rfl)
            try simp only [List.getElem_toArray, List.getElem_cons_succ, List.getElem_cons_zero, Act.put, List.setIfInBounds_toArray, List.set_cons_zero, List.set_cons_succ]
            refine wpAnyH_take (i := 16) (v := ?_) rfl (by kernel_rfl) (by kernel_rfl) (by kernel_rfl) (fun _ _ _ h => h) (Or.inl ⟨by rfl, fun w hSw => ?_⟩) (by assumption) ?_
            rotate_left
            · (try dsimp only at hSw); go_simp; (try with_reducible rfl)
            try simp only [List.getElem_toArray, List.getElem_cons_succ, List.getElem_cons_zero, Act.put, List.setIfInBounds_toArray, List.set_cons_zero, List.set_cons_succ]
            refine wpAnyH_take (i := 17) (v := ?_) rfl (by kernel_rfl) (by kernel_rfl) (by kernel_rfl) (fun _ _ _ h => h) (Or.inl ⟨by rfl, fun w hSw => ?_⟩) (by assumption) ?_
            rotate_left
            · (try dsimp only at hSw); go_simp; (try with_reducible rfl)
            try simp only [List.getElem_toArray, List.getElem_cons_succ, List.getElem_cons_zero, Act.put, List.setIfInBounds_toArray, List.set_cons_zero, List.set_cons_succ]
            refine wpAnyH_take (i := 18) (v := ?_) rfl (by kernel_rfl) (by kernel_rfl) (by kernel_rfl) (fun _ _ _ h => h) (Or.inl ⟨by rfl, fun w hSw => ?_⟩) (by assumption) ?_
            rotate_left
            · (try dsimp only at hSw); go_simp; (try with_reducible rfl)
            try simp only [List.getElem_toArray, List.getElem_cons_succ, List.getElem_cons_zero, Act.put, List.setIfInBounds_toArray, List.set_cons_zero, List.set_cons_succ]
            refine wpAnyH_done (by kernel_rfl) ?_ _
            obtain ⟨pt, ct, rfl⟩ := HT3.out.none (fits_none (by have := HFI.out; unfold stR at this; rw [if_neg HE.out] at this; exact this))
            obtain ⟨s0, s1, s2⟩ := HS.out w3 HB3.out.below
            have CK3 := Lib.hid (HCK.out w3 HB3.out.below)
            go_wp2_with (first
              | (go_at_call 10; ((with_reducible refine CK3.out.mono ?_); rintro E w4 ⟨rfl, hb⟩; have HB4 := Lib.hid (HB3.out.on hb); have HR4 := Lib.hid (HR3.out.on hb); clear hb)))
            go_roundw
            case rel => exact ⟨i + 1, g1, G, xa, qa, by omega, by go_num, rfl, HB4, HR4, HF3⟩
            case measure => simp [intOf]; omega
    · obtain rfl : i = n := by omega
      have kin : ¬ (i : Int) < i := by omega
      clear hd
      have HNL : Hid (16 * i ≤ 100000) := Lib.hid (by have := KN.out; omega)
      have HXK : Hid (xa.length ≤ 1000) := Lib.hid (by have := HF.out.len; have := KN.out; omega)
      have HCL : Hid ((cmdsOf xa).length ≤ 100000) := Lib.hid (by have h1 := cmds_few HF.out.right; have := HF.out.len; have := KN.out; omega)
      have HLL : Hid (∀ s, (logOf xa s).length ≤ 100000) := Lib.hid fun s => Nat.le_trans (logOf_le s xa) HCL.out
      have HQ := Lib.hid (some_false HF.out.right)
      have CAN : Hid (Calls Try.prog 9 #[.pointer none, .agg #[.int .i64 0, .int .i64 0], .slice none 0 0] wr (RetBelow (.tuple #[.slice none 0 0, .int .i64 2]) wr)) := Lib.hid (vapply_nil 0 0 (.slice none 0 0) [] wr ⟨none, 0, rfl, Nat.le_refl _, by omega, fun h => absurd rfl h⟩)
      have CTE : Hid (∀ X, Below wr.heap.size wr X → Calls Try.prog 13 #[.pointer (some ⟨g, 0, none⟩), u8, .string ⟨#[97]⟩] X (RetBelow (.bool true) X)) := Lib.hid fun X hb => vtells_any (HB.out.on hb).v HNL.out u8 [97] ((HR.out.on hb).row (HB.out.on hb).below) HF.out.wf HF.out.right HXK.out (by decide)
      have CTW : Hid (∀ X, Below wr.heap.size wr X → Calls Try.prog 8 #[.pointer (some ⟨g, 0, none⟩)] X (GivesV w.heap.size (cellOf xa) (logOf xa) (16 * i) (xa.length : Int) X)) := Lib.hid fun X hb => vtwin_any (HB.out.on hb).v (HB.out.on hb).size HNL.out HLL.out
      unfold GivesV vptr at CTW
      have CSN : Hid (∀ X, Below wr.heap.size wr X → Calls Try.prog 14 #[.pointer none, .pointer (some ⟨g, 0, none⟩)] X (RetBelow (.bool (eqC noC (cellOf xa) && eqL noL (logOf xa))) X)) := Lib.hid fun X hb => vsame_nil (HB.out.on hb).v
      have CAL : Hid (∀ X, Below wr.heap.size wr X → Calls Try.prog 15 #[u8] X (layS.Gives (allOf xa) X)) := Lib.hid fun X hb => rall_any u8 xa X ((HR.out.on hb).row (HB.out.on hb).below) HCL.out
      have CSO : Hid (∀ X, Below wr.heap.size wr X → Calls Try.prog 16 #[u8] X (RetBelow (.bool (someOf xa)) X)) := Lib.hid fun X hb => some_any u8 xa X ((HR.out.on hb).row (HB.out.on hb).below) HF.out.wf HCL.out
      generalize (eqC noC (cellOf xa) && eqL noL (logOf xa)) = qq at CSN HQ
      generalize someOf xa = sv at CSO HQ
      generalize allOf xa = zs at CAL HQ
      obtain ⟨nz, hnz⟩ : ∃ nz, nz = zs.length := ⟨_, rfl⟩
      rw [← hnz] at HQ
      have HNZ := Lib.hid hnz
      clear hnz
      have HBW := Lib.hid HB.out.below
      have HSW := Lib.hid HB.out.size
      have B0 := Lib.hid (Below.refl wr.heap.size wr)
      by_cases hnz0 : nz = 0
      · have hz1 : ((nz : Int) == 0) = true := by rw [hnz0]; rfl
        have HQ2 : Hid (qq = true) := Lib.hid (by rw [HQ.out, decide_eq_true hnz0]; rfl)
        rw [HQ2.out] at CSN
        clear hnz0 HQ2
        go_wp2_with (first
          | (go_at_call 9; ((with_reducible refine CAN.out.mono ?_); rintro E z1 ⟨rfl, hb⟩; have B1 := Lib.hid hb; have CTE1 := Lib.hid (CTE.out z1 B1.out); clear hb))
          | (go_at_call 13; ((with_reducible refine CTE1.out.mono ?_); rintro E z2 ⟨rfl, hb⟩; have B2 := Lib.hid (B1.out.trans (hb.mono B1.out.size)); have CTW2 := Lib.hid (CTW.out z2 B2.out); clear hb))
          | (go_at_call 8; ((with_reducible refine CTW2.out.mono ?_); rintro E z3 ⟨gt, rfl, hv, hb⟩; have B3 := Lib.hid (B2.out.trans (hb.mono B2.out.size)); have CSS : Hid (Calls Try.prog 14 #[.pointer (some ⟨g, 0, none⟩), .pointer (some ⟨gt, 0, none⟩)] z3 (RetBelow (.bool true) z3)) := Lib.hid ((vsame_any (HB.out.on B3.out).v hv).mono fun E w' h => by rw [eqC_self, eqL_self] at h; exact h); clear hv hb))
          | (go_at_call 14; ((with_reducible refine CSS.out.mono ?_); rintro E z4 ⟨rfl, hb⟩; have B4 := Lib.hid (B3.out.trans (hb.mono B3.out.size)); have CSN4 := Lib.hid (CSN.out z4 B4.out); clear hb))
          | (go_at_call 14; ((with_reducible refine CSN4.out.mono ?_); rintro E z5 ⟨rfl, hb⟩; have B5 := Lib.hid (B4.out.trans (hb.mono B4.out.size)); have CAL5 := Lib.hid (CAL.out z5 B5.out); clear hb))
          | (go_at_call 15; ((with_reducible refine CAL5.out.mono ?_); rintro E z6 ⟨v6, rfl, hr6, hb⟩; have B6 := Lib.hid (B5.out.trans (hb.mono B5.out.size)); obtain ⟨pz, cz, hz6⟩ := row_len hr6 HNZ.out; subst hz6; have CSO6 := Lib.hid (CSO.out z6 B6.out); have CC6 := Lib.hid (vcount_nil z6); clear hb hr6))
          | (go_at_call 17; ((with_reducible refine CC6.out.mono ?_); rintro E z8 ⟨rfl, hb⟩; have B8 := Lib.hid (B6.out.trans (hb.mono B6.out.size)); have CT8 := Lib.hid (vtwin_nil z8); clear hb))
          | (go_at_call 8; ((with_reducible refine CT8.out.mono ?_); rintro E z9 ⟨rfl, hb⟩; have B9 := Lib.hid (B8.out.trans (hb.mono B8.out.size)); clear hb))
          | (go_at_call 6; (with_reducible refine (CP.out _).mono ?_); rintro E z10 ⟨rfl, hb⟩; have B10 := Lib.hid (B9.out.trans (hb.mono B9.out.size)); clear hb))
        go_ret
        exact ⟨rfl, HBW.out.trans (B10.out.mono HSW.out)⟩
      · have hz1 : ((nz : Int) == 0) = false := by simpa using hnz0
        have HQ2 : Hid (qq = !sv) := Lib.hid (by rw [HQ.out, decide_eq_false hnz0]; rfl)
        rw [HQ2.out] at CSN
        clear hnz0 HQ2
        cases sv
        all_goals
          simp only [Bool.not_true, Bool.not_false] at CSN
          go_wp2_with (first
            | (go_at_call 9; ((with_reducible refine CAN.out.mono ?_); rintro E z1 ⟨rfl, hb⟩; have B1 := Lib.hid hb; have CTE1 := Lib.hid (CTE.out z1 B1.out); clear hb))
            | (go_at_call 13; ((with_reducible refine CTE1.out.mono ?_); rintro E z2 ⟨rfl, hb⟩; have B2 := Lib.hid (B1.out.trans (hb.mono B1.out.size)); have CTW2 := Lib.hid (CTW.out z2 B2.out); clear hb))
            | (go_at_call 8; ((with_reducible refine CTW2.out.mono ?_); rintro E z3 ⟨gt, rfl, hv, hb⟩; have B3 := Lib.hid (B2.out.trans (hb.mono B2.out.size)); have CSS : Hid (Calls Try.prog 14 #[.pointer (some ⟨g, 0, none⟩), .pointer (some ⟨gt, 0, none⟩)] z3 (RetBelow (.bool true) z3)) := Lib.hid ((vsame_any (HB.out.on B3.out).v hv).mono fun E w' h => by rw [eqC_self, eqL_self] at h; exact h); clear hv hb))
            | (go_at_call 14; ((with_reducible refine CSS.out.mono ?_); rintro E z4 ⟨rfl, hb⟩; have B4 := Lib.hid (B3.out.trans (hb.mono B3.out.size)); have CSN4 := Lib.hid (CSN.out z4 B4.out); clear hb))
            | (go_at_call 14; ((with_reducible refine CSN4.out.mono ?_); rintro E z5 ⟨rfl, hb⟩; have B5 := Lib.hid (B4.out.trans (hb.mono B4.out.size)); have CAL5 := Lib.hid (CAL.out z5 B5.out); clear hb))
            | (go_at_call 15; ((with_reducible refine CAL5.out.mono ?_); rintro E z6 ⟨v6, rfl, hr6, hb⟩; have B6 := Lib.hid (B5.out.trans (hb.mono B5.out.size)); obtain ⟨pz, cz, hz6⟩ := row_len hr6 HNZ.out; subst hz6; have CSO6 := Lib.hid (CSO.out z6 B6.out); have CC6 := Lib.hid (vcount_nil z6); clear hb hr6))
            | (go_at_call 16; ((with_reducible refine CSO6.out.mono ?_); rintro E z7 ⟨rfl, hb⟩; have B7 := Lib.hid (B6.out.trans (hb.mono B6.out.size)); have CC7 := Lib.hid (vcount_nil z7); clear hb))
            | (go_at_call 17; ((with_reducible refine CC7.out.mono ?_); rintro E z8 ⟨rfl, hb⟩; have B8 := Lib.hid (B7.out.trans (hb.mono B7.out.size)); have CT8 := Lib.hid (vtwin_nil z8); clear hb))
            | (go_at_call 8; ((with_reducible refine CT8.out.mono ?_); rintro E z9 ⟨rfl, hb⟩; have B9 := Lib.hid (B8.out.trans (hb.mono B8.out.size)); clear hb))
            | (go_at_call 6; (with_reducible refine (CP.out _).mono ?_); rintro E z10 ⟨rfl, hb⟩; have B10 := Lib.hid (B9.out.trans (hb.mono B9.out.size)); clear hb))
          go_ret
          exact ⟨rfl, HBW.out.trans (B10.out.mono HSW.out)⟩
end Go.Proofs.Ytacgmhnalbbgbaa.Vau
