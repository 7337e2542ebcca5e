/- What the developers' Mend gives (layer 20, premise): each record gets what lacks. Conditions: the records lie in memory as their cells say; texts of a length that Go reads; at most 1000 records. -/
import Derived.Test.YtomidcbpnaajeaaGreatPreZ
namespace Go.Proofs.YtomidcbpnaajeaaGreat.Pre
open Go.RowKit Cmd Bat Ids Rec Wid Gra Cps Vau Mpg Go.Maps
set_option linter.unusedVariables false
set_option linter.unusedSimpArgs false

/-! ### Plain -/
theorem add_full {x y : Rcd} (h : ¬ x.2.2.1.length < 16) : addD x y = x := by unfold addD; rw [if_neg (fun e => h e.2)]
theorem adds_full {x : Rcd} (h : ¬ x.2.2.1.length < 16) : ∀ ys : List Rcd, ys.foldl addD x = x
  | [] => rfl
  | y :: ys => by rw [List.foldl_cons, add_full h]; exact adds_full h ys
theorem srt_put {ds : List Idn} (h : Ids.Rise ds) (z : Idn) : srt (ds ++ [z]) = put ds z := by
  rw [srt_snoc, show srt ds = ds from Ids.rise_eq (srt_rise ds) h (srt_mem ds)]
theorem add_ok {x y : Rcd} (hf : x.2.2.1.length ≤ 16) (hr : Ids.Rise x.2.2.1) : (addD x y).2.2.1.length ≤ 16 ∧ Ids.Rise (addD x y).2.2.1 := by
  unfold addD
  split
  · rename_i h
    refine ⟨?_, put_rise hr⟩
    have := put_length x.2.2.1 y.1
    show (put x.2.2.1 y.1).length ≤ 16
    omega
  · exact ⟨hf, hr⟩
/-- The k-th of a list with one in its place. -/
theorem at_mid {α : Type} (L : Lay α) (M D : List α) (x : α) (j : Nat) : L.at (M ++ x :: D) j = if j < M.length then L.at M j else if j = M.length then x else L.at D (j - M.length - 1) := by
  unfold Lay.at
  rw [List.getD_eq_getElem?_getD, List.getD_eq_getElem?_getD, List.getD_eq_getElem?_getD]
  by_cases h : j < M.length
  · rw [if_pos h, List.getElem?_append_left h]
  · rw [if_neg h, List.getElem?_append_right (by omega)]
    by_cases e : j = M.length
    · rw [if_pos e, e, Nat.sub_self]; rfl
    · rw [if_neg e]
      obtain ⟨i, hi⟩ : ∃ i, j - M.length = i + 1 := ⟨j - M.length - 1, by omega⟩
      rw [hi, List.getElem?_cons_succ, Nat.add_sub_cancel]

/-! ### A use that gets other Deps -/
def updU (q : Use) (d : SlU) : Use := (q.1, q.2.1, d, q.2.2.2)
theorem flat_upd : ∀ (qs : List Use) (k : Nat) (d : SlU), k < qs.length → (wdUse.flat qs).set (k * 7 + 3) (sliceOf d) = wdUse.flat (qs.set k (updU (layUse.at qs k) d))
  | q :: qs, 0, d, _ => rfl
  | q :: qs, k + 1, d, h => by
    have ih := flat_upd qs k d (by simpa using h)
    have e1 : wdUse.flat (q :: qs) = wdUse.enc q ++ wdUse.flat qs := rfl
    have e2 : layUse.at (q :: qs) (k + 1) = layUse.at qs k := rfl
    have hl : (wdUse.enc q).length = 7 := rfl
    rw [e1, e2, List.set_append_right _ _ (by rw [hl]; omega), hl, show (k + 1) * 7 + 3 - 7 = k * 7 + 3 by omega, ih]
    rfl
theorem at_set (qs : List Use) (k j : Nat) (q : Use) (hk : k < qs.length) : layUse.at (qs.set k q) j = if j = k then q else layUse.at qs j := by
  unfold Lay.at
  rw [List.getD_eq_getElem?_getD, List.getD_eq_getElem?_getD, List.getElem?_set]
  by_cases e : k = j
  · rw [if_pos e, if_pos e.symm, if_pos (by omega)]; rfl
  · rw [if_neg e, if_neg (fun h => e h.symm)]
/-- What stands while the k-th use's Deps are another's: all but its Deps. -/
structure UX (w W : World) (v : Value) (qs : List Use) (out : List Rcd) (k : Nat) : Prop where
  below : Below w.heap.size w W
  own : wdUse.Own 68 W w.heap.size v qs
  len : qs.length = out.length
  is : ∀ j, j < out.length → (layUse.at qs j).1 = (layG.at out j).1 ∧ (layUse.at qs j).2.1 = (layG.at out j).2.1 ∧ OwnS W 0 (sliceOf (layUse.at qs j).2.2.2.2.1) (kset (keys (layG.at out j).2.2.2)) ∧ OwnS W 0 (sliceOf (layUse.at qs j).2.2.2.2.2) (wrS (layG.at out j).2.2.2) ∧ ∀ c ∈ (layG.at out j).2.2.2, right c = true
  rd : ∀ j, j < out.length → j ≠ k → Owns W 0 (sliceOf (layUse.at qs j).2.2.1) (layG.at out j).2.2.1
  bat : ∀ j, j < out.length → BatIs W (layUse.at qs j) (layG.at out j)
  dst : Dst qs
  low : ∀ j, j < qs.length → ∀ g, (sliceOf (layUse.at qs j).2.2.1).ownBlock = some g → w.heap.size ≤ g
section
variable {w W X : World} {v v' : Value} {qs : List Use} {out : List Rcd} {k : Nat}
/-- The k-th use's Deps turn. -/
theorem UM.turn (h : UM w W v qs out) (hk : k < out.length) (hg : W.grownBy X (sliceOf (layUse.at qs k).2.2.1).ownBlock) : UX w X v qs out k := by
  have hd := (h.uses.is k hk).rd
  have hlk : k < qs.length := by rw [h.uses.len]; exact hk
  refine ⟨Below.grown h.uses.below hg h.uses.below.size (fun g hgk => h.low k hlk g hgk), World.ownsRow.kept h.uses.own hg (two_rows (by decide) h.uses.own hd), h.uses.len, fun j hj => ?_, fun j hj hne => ?_, fun j hj => ?_, h.dst, h.low⟩
  · have hi := h.uses.is j hj
    exact ⟨hi.id, hi.seq, World.ownsRow.kept hi.ks hg (two_rows (by decide) hi.ks hd), World.ownsRow.kept hi.ws hg (two_rows (by decide) hi.ws hd), hi.ok⟩
  · refine World.ownsRow.kept (h.uses.is j hj).rd hg ?_
    cases hv : (sliceOf (layUse.at qs j).2.2.1).ownBlock with
    | none => exact .inl rfl
    | some g => exact .inr (fun e => h.dst j k (by rw [h.uses.len]; exact hj) hlk hne g hv e.symm)
  · obtain ⟨g, h1, h2⟩ := h.bat j hj
    exact ⟨g, h1, (hg.block g (Array.getElem?_eq_some_iff.1 h2).1 (fun e => box_ne (xs := #[]) h2 hd (by decide) e.symm)).trans h2⟩
theorem UX.on (h : UX w W v qs out k) (hb : Below W.heap.size W X) : UX w X v qs out k :=
  ⟨h.below.trans (hb.mono h.below.size), h.own.below hb, h.len, fun j hj => by obtain ⟨h1, h2, h3, h4, h5⟩ := h.is j hj; exact ⟨h1, h2, own_below h3 hb, own_below h4 hb, h5⟩, fun j hj hne => own_below (h.rd j hj hne) hb, fun j hj => by obtain ⟨g, h1, h2⟩ := h.bat j hj; exact ⟨g, h1, (hb.block g (Array.getElem?_eq_some_iff.1 h2).1).trans h2⟩, h.dst, h.low⟩
/-- The k-th use gets new Deps. -/
theorem UX.put {Bu m cu : Nat} {M D : List Rcd} {x : Rcd} (h : UX w W (.slice (some ⟨Bu, 0, none⟩) m cu) qs (M ++ x :: D) M.length) {d : SlU} {ds : List Idn} (hd : Owns W 0 (sliceOf d) ds) (hnew : ∀ g, (sliceOf d).ownBlock = some g → w.heap.size ≤ g ∧ ∀ j, j < qs.length → j ≠ M.length → (sliceOf (layUse.at qs j).2.2.1).ownBlock ≠ some g) :
    UM w (W.setCell ⟨Bu, M.length * 7 + 3, none⟩ (sliceOf d)) (.slice (some ⟨Bu, 0, none⟩) m cu) (qs.set M.length (updU (layUse.at qs M.length) d)) (M ++ (x.1, x.2.1, ds, x.2.2.2) :: D) := by
  have hlen : (M ++ x :: D).length = (M ++ (x.1, x.2.1, ds, x.2.2.2) :: D).length := by simp
  have hkM : M.length < qs.length := by rw [h.len]; simp
  have hm : m = qs.length := by
    obtain ⟨p, c, e⟩ := own_shape h.own
    injection e
  subst hm
  obtain ⟨r1, r2⟩ := World.ownsRow.stored h.own (M.length * 7 + 3) (sliceOf d)
  have hbu : w.heap.size ≤ Bu := (World.ownsRow.lt h.own Bu rfl).1
  have hub : ∃ cur, W.heap[Bu]? = some (.cells cur 68 (0, 0)) := by
    rcases h.own.2 with ⟨e, -⟩ | ⟨g, cap, cur, e, -, hg, -⟩
    · cases e
    · injection e with e1 e2 e3
      injection e1 with e1
      injection e1 with e1
      subst e1
      exact ⟨cur, hg⟩
  obtain ⟨cur, hub⟩ := hub
  have hS : wdUse.Own 68 (W.setCell ⟨Bu, M.length * 7 + 3, none⟩ (sliceOf d)) w.heap.size (.slice (some ⟨Bu, 0, none⟩) qs.length cu) (qs.set M.length (updU (layUse.at qs M.length) d)) := by
    unfold Wd.Own
    rw [← flat_upd qs M.length d hkM, List.length_set]
    exact r1
  have hat : ∀ j, layUse.at (qs.set M.length (updU (layUse.at qs M.length) d)) j = if j = M.length then updU (layUse.at qs M.length) d else layUse.at qs j := fun j => at_set qs M.length j _ hkM
  have hg := set_grown W Bu (M.length * 7 + 3) (sliceOf d)
  have kp : ∀ {b c n : Nat} {e : TypeId} {v : Value} {xs : List Value}, e ≠ 68 → W.ownsRow b e c v n xs → (W.setCell ⟨Bu, M.length * 7 + 3, none⟩ (sliceOf d)).ownsRow b e c v n xs := fun he ho => World.ownsRow.kept ho hg (.inr (box_ne (xs := #[]) hub ho he))
  have hout : ∀ j, j < (M ++ x :: D).length → (layG.at (M ++ (x.1, x.2.1, ds, x.2.2.2) :: D) j).1 = (layG.at (M ++ x :: D) j).1 ∧ (layG.at (M ++ (x.1, x.2.1, ds, x.2.2.2) :: D) j).2.1 = (layG.at (M ++ x :: D) j).2.1 ∧ (layG.at (M ++ (x.1, x.2.1, ds, x.2.2.2) :: D) j).2.2.2 = (layG.at (M ++ x :: D) j).2.2.2 ∧ (j ≠ M.length → layG.at (M ++ (x.1, x.2.1, ds, x.2.2.2) :: D) j = layG.at (M ++ x :: D) j) ∧ (j = M.length → (layG.at (M ++ (x.1, x.2.1, ds, x.2.2.2) :: D) j).2.2.1 = ds) := fun j _ => by
    rw [at_mid, at_mid]
    by_cases h1 : j < M.length
    · rw [if_pos h1, if_pos h1]; exact ⟨rfl, rfl, rfl, fun _ => rfl, fun e => by omega⟩
    · rw [if_neg h1, if_neg h1]
      by_cases h2 : j = M.length
      · rw [if_pos h2, if_pos h2]; exact ⟨rfl, rfl, rfl, fun e => absurd h2 e, fun _ => rfl⟩
      · rw [if_neg h2, if_neg h2]; exact ⟨rfl, rfl, rfl, fun _ => rfl, fun e => absurd e h2⟩
  refine ⟨⟨Below.grown h.below hg h.below.size (fun g e => by injection e with e; omega), hS, by rw [List.length_set, h.len, hlen], fun j hj => ?_⟩, fun j hj => ?_, fun i j hi hj hne g hgi hgj => ?_, fun j hj g hgj => ?_⟩
  · rw [← hlen] at hj
    obtain ⟨o1, o2, o3, o4, o5⟩ := hout j hj
    obtain ⟨i1, i2, i3, i4, i5⟩ := h.is j hj
    rw [hat]
    by_cases e : j = M.length
    · rw [if_pos e]
      rw [e] at o1 o2 o3 o5 i1 i2 i3 i4 i5 ⊢
      refine ⟨i1.trans o1.symm, i2.trans o2.symm, by rw [o5 rfl]; exact kp (by decide) hd, by rw [o3]; exact kp (by decide) i3, by rw [o3]; exact kp (by decide) i4, by rw [o3]; exact i5⟩
    · rw [if_neg e, o4 e]
      exact ⟨i1, i2, kp (by decide) (h.rd j hj e), kp (by decide) i3, kp (by decide) i4, i5⟩
  · rw [← hlen] at hj
    obtain ⟨o1, o2, o3, o4, o5⟩ := hout j hj
    obtain ⟨g, h1, h2⟩ := h.bat j hj
    refine ⟨g, ?_, ?_⟩
    · rw [hat, o3]
      by_cases e : j = M.length
      · rw [if_pos e]; rw [e] at h1 ⊢; exact h1
      · rw [if_neg e]; exact h1
    · rw [o3]
      refine (hg.block g (Array.getElem?_eq_some_iff.1 h2).1 (fun e => ?_)).trans h2
      injection e with e
      subst e
      rw [hub] at h2
      injection h2 with h2
      injection h2 with e1 e2
      exact absurd e2 (by decide)
  · rw [List.length_set] at hi hj
    rw [hat] at hgi hgj
    by_cases ei : i = M.length
    · rw [if_pos ei] at hgi
      rw [if_neg (by omega)] at hgj
      exact (hnew g hgi).2 j hj (by omega) hgj
    · rw [if_neg ei] at hgi
      by_cases ej : j = M.length
      · rw [if_pos ej] at hgj
        exact (hnew g hgj).2 i hi ei hgi
      · rw [if_neg ej] at hgj
        exact h.dst i j hi hj hne g hgi hgj
  · rw [List.length_set] at hj
    rw [hat] at hgj
    by_cases ej : j = M.length
    · rw [if_pos ej] at hgj; exact (hnew g hgj).1
    · rw [if_neg ej] at hgj; exact h.low j hj g hgj
end
theorem own_ptrU {W : World} {base c n : Nat} {e : TypeId} {p : Option Addr} {m cap : Nat} {xs : List Value} (h : W.ownsRow base e c (.slice p m cap) n xs) (hn : 0 < n) : ∃ g, p = some ⟨g, 0, none⟩ := by
  rcases h.2 with ⟨e, h0⟩ | ⟨g, cap', cur, e, -⟩
  · omega
  · injection e with e1 e2 e3
    exact ⟨g, e1⟩
/-! ### Rows of ids -/
def layIdP : Lay Idn := ⟨(0, 0), fun o j => o + j * 2, fun w b o x => w.cell? ⟨b, o, none⟩ = some (.int .i64 x.1) ∧ w.cell? ⟨b, o + 1, none⟩ = some (.int .i64 x.2), fun {w w' b o x} hb h ⟨h1, h2⟩ => ⟨(h.cell (p := ⟨b, o, none⟩) hb).trans h1, (h.cell (p := ⟨b, o + 1, none⟩) hb).trans h2⟩⟩
def wdIdP : Wd Idn where
  L := layIdP
  enc x := ids x
  c := 2
  cpos := by decide
  pos _ _ := rfl
  len _ := rfl
  one x u hu := by
    simp only [ids, List.mem_cons, List.not_mem_nil, or_false] at hu
    rcases hu with rfl | rfl <;> rfl
  lies h := ⟨h 0 _ rfl, h 1 _ rfl⟩
  cells h := fun i u hu => by
    match i, hu with
    | 0, hu => injection hu with hu; subst hu; exact h.1
    | 1, hu => injection hu with hu; subst hu; exact h.2
    | i + 2, hu => simp [ids] at hu
theorem wtIdP : Wt wdIdP 23 32 (.agg #[.int .i64 0, .int .i64 0]) 16 := ⟨Tryz.underlying23, by kernel_rfl, by kernel_rfl, by kernel_rfl, by decide⟩
/-- The k-th use of a row of the call's own, as cells; where they may be written. -/
theorem own_cells {W : World} {base Bu m cu : Nat} {qs : List Use} (h : wdUse.Own 68 W base (.slice (some ⟨Bu, 0, none⟩) m cu) qs) {k : Nat} (hk : k < qs.length) {a b s : Int} {p1 p2 p3 p4 : Option Addr} {n1 n2 n3 n4 c1 c2 c3 c4 : Nat} (hx : layUse.at qs k = ((a, b), s, (p1, n1, c1), (p2, n2, c2), (p3, n3, c3), (p4, n4, c4))) :
    (W.cell? ⟨Bu, k * 7, none⟩ = some (.int .i64 a) ∧ W.cell? ⟨Bu, k * 7 + 1, none⟩ = some (.int .i64 b) ∧ W.cell? ⟨Bu, k * 7 + 2, none⟩ = some (.int .i64 s) ∧ W.cell? ⟨Bu, k * 7 + 3, none⟩ = some (.slice p1 n1 c1) ∧ W.cell? ⟨Bu, k * 7 + 4, none⟩ = some (.slice p2 n2 c2) ∧ W.cell? ⟨Bu, k * 7 + 5, none⟩ = some (.slice p3 n3 c3) ∧ W.cell? ⟨Bu, k * 7 + 6, none⟩ = some (.slice p4 n4 c4)) ∧ W.frozen? ⟨Bu, k * 7 + 3, none⟩ = false := by
  refine ⟨?_, ?_⟩
  · obtain ⟨p', c', e', -, hd⟩ := (Wd.Own.row h).parts
    obtain ⟨B, o, e, I⟩ := hd.resolve_left (by omega)
    subst e
    obtain rfl : Bu = B := by injection e' with e1; injection e1 with e1; injection e1
    obtain rfl : 0 = o := by injection e' with e1; injection e1 with e1; injection e1
    have := use_cells I.out hk hx
    rw [Nat.zero_add] at this
    exact this
  · rcases h.2 with ⟨e, -⟩ | ⟨g, cap, cur, e, -, hg, -⟩
    · cases e
    · injection e with e1 e2 e3
      injection e1 with e1
      injection e1 with e1
      subst e1
      exact free_row hg
theorem own_lt {W : World} {base Bu m cu c n : Nat} {e : TypeId} {xs : List Value} (h : W.ownsRow base e c (.slice (some ⟨Bu, 0, none⟩) m cu) n xs) : Bu < W.heap.size := (World.ownsRow.lt h Bu rfl).2

/-! ### Mend -/
set_option maxRecDepth 100000 in
set_option maxHeartbeats 16000000 in
theorem pmend_any (v : Value) (rs : List Rcd) (w : World) (h : layG.Row w v rs) (hlot : Lot rs) : Calls Tryz.prog 17 #[v] w (GivesRecs (mendG rs) w) := by
  have HFi := Lib.hid (pfine_any v rs w h hlot.few hlot.wf hlot.low)
  have HT : Hid ((fineG rs).foldl mendS [] = mendG rs) := Lib.hid rfl
  have HFL : Hid ((fineG rs).length ≤ 1000) := Lib.hid (Nat.le_trans (fine_len rs) hlot.few)
  have HOk : Hid (∀ x ∈ fineG rs, OkR x) := Lib.hid (fine_ok rs).1
  have HMB : Hid (∀ x ∈ mendG rs, x.2.2.2.length ≤ 8) := Lib.hid fun x hx => (right_all ((mend_mnd rs).ok x hx).batch).2
  unfold GivesUM at HFi
  generalize fineG rs = F at HFi HT HFL HOk
  generalize mendG rs = MM at HT HMB ⊢
  obtain ⟨p, cap, rfl, -⟩ := id h
  clear h hlot
  go_enter Tryz.func17, Tryz.ntmps17
  go_wp2
  go_step3
  go_wp2_with (first
    | (go_at_call 33; ((with_reducible refine HFi.out.mono ?_); rintro E w1 ⟨vf, qf, rfl, hf⟩; obtain ⟨pu, cu, rfl⟩ := own_shape hf.uses.own; obtain ⟨m, hm⟩ : ∃ m, m = qf.length := ⟨_, rfl⟩; rw [← hm] at hf ⊢; have HF1 := Lib.hid hf; have HMF : Hid (m = F.length) := Lib.hid (hm.trans hf.uses.len); have HMq := Lib.hid hm; clear hf hm)))
  have hm1 : m ≤ 1000 := by have := HFL.out; have := HMF.out; omega
  go_step3
  go_wp2
  go_loopw [14] (fun i wr => ∃ (k : Nat) (qs : List Use), k ≤ m ∧ i = .int .i64 k ∧ Hid (qs.length = m) ∧ Hid (UM w wr (.slice pu m cu) qs ((F.take k).foldl mendS [] ++ F.drop k))) (fun i _ => m - (intOf i).toNat)
  case atStart => exact ⟨0, qf, Nat.zero_le _, rfl, Lib.hid HMq.out.symm, HF1⟩
  case round =>
    clear HF1
    obtain ⟨k, qs, hk, rfl, HQL, HO⟩ := hrel
    have k0 : (0 : Int) ≤ k := by omega
    by_cases hkm : k < m
    · have km : (k : Int) < m := by omega
      have hkF : k < F.length := by rw [← HMF.out]; exact hkm
      have HML : Hid (((F.take k).foldl mendS []).length = k) := Lib.hid (by have h1 := mend_lenP (F.take k) []; rw [List.length_take] at h1; simp only [List.length_nil, Nat.zero_add] at h1; omega)
      have HNext : Hid ((F.take (k + 1)).foldl mendS [] = (F.take k).foldl mendS [] ++ [mendR ((F.take k).foldl mendS []) (layG.at F k)]) := Lib.hid (fold_take (L := layG) hkF)
      have HR0 := Lib.hid (HOk.out _ (layG.at_mem hkF))
      have hO := HO.out
      rw [layG.drop hkF] at hO
      have HO0 := Lib.hid hO
      generalize (F.take k).foldl mendS [] = M at HML HNext HO0
      generalize layG.at F k = r0 at HNext HR0 HO0
      obtain ⟨D, hD⟩ : ∃ D, D = F.drop (k + 1) := ⟨_, rfl⟩
      rw [← hD] at HO0
      have HD := Lib.hid hD
      obtain ⟨Bu, rfl⟩ := own_ptrU hO.uses.own (by rw [HQL.out]; omega)
      clear hO HO hkF hD
      go_wp2
      go_loopw [22] (fun i X => ∃ (t : Nat) (qs : List Use) (x : Rcd), t ≤ k ∧ i = .int .i64 t ∧ Hid (qs.length = m) ∧ Hid (x = (M.take t).foldl addD r0 ∧ x.2.2.1.length ≤ 16 ∧ Ids.Rise x.2.2.1) ∧ Hid (UM w X (.slice (some ⟨Bu, 0, none⟩) m cu) qs (M ++ x :: D))) (fun i _ => k - (intOf i).toNat)
      case atStart => exact ⟨0, qs, r0, Nat.zero_le _, rfl, HQL, Lib.hid ⟨rfl, HR0.out.few, HR0.out.rise⟩, HO0⟩
      case round =>
        clear HO0 HQL HR0
        obtain ⟨t, qs, x, ht, rfl, HQL, HX, HO⟩ := hrel
        have t0 : (0 : Int) ≤ t := by omega
        by_cases htk : t < k
        · have tk : (t : Int) < k := by omega
          have tm : (t : Int) < m := by omega
          have hkq : k < qs.length := by rw [HQL.out]; exact hkm
          have htq : t < qs.length := by omega
          have hko : k < (M ++ x :: D).length := by rw [← HO.out.uses.len]; exact hkq
          have hto : t < (M ++ x :: D).length := by rw [← HO.out.uses.len]; exact htq
          have hatk : layG.at (M ++ x :: D) k = x := by rw [at_mid, if_neg (by rw [HML.out]; omega), if_pos HML.out.symm]
          have hatt : layG.at (M ++ x :: D) t = layG.at M t := by rw [at_mid, if_pos (by rw [HML.out]; exact htk)]
          have hisk := HO.out.uses.is k hko
          have hist := HO.out.uses.is t hto
          rw [hatk] at hisk
          rw [hatt] at hist
          have HST : Hid ((M.take (t + 1)).foldl addD r0 = addD x (layG.at M t)) := Lib.hid (by rw [fold_take (L := layG) (by rw [HML.out]; exact htk), ← HX.out.1])
          obtain ⟨⟨⟨a1, b1⟩, s1, ⟨p1, n1, k1⟩, ⟨p2, n2, k2⟩, ⟨p3, n3, k3⟩, ⟨p4, n4, k4⟩⟩, hq1⟩ : ∃ q, layUse.at qs k = q := ⟨_, rfl⟩
          obtain ⟨⟨⟨a2, b2⟩, s2, ⟨q1, m1, l1⟩, ⟨q2, m2, l2⟩, ⟨q3, m3, l3⟩, ⟨q4, m4, l4⟩⟩, hq2⟩ : ∃ q, layUse.at qs t = q := ⟨_, rfl⟩
          obtain ⟨⟨⟨a1', b1'⟩, s1', ds1, cs1⟩, hr1⟩ : ∃ r, x = r := ⟨_, rfl⟩
          obtain ⟨⟨⟨a2', b2'⟩, s2', ds2, cs2⟩, hr2⟩ : ∃ r, layG.at M t = r := ⟨_, rfl⟩
          subst hr1
          rw [hr2] at hist HST
          rw [hq1] at hisk
          rw [hq2] at hist
          obtain ⟨rfl, rfl⟩ : a1 = a1' ∧ b1 = b1' := by have := hisk.id; injection this with h1 h2; exact ⟨h1, h2⟩
          obtain rfl : s1 = s1' := hisk.seq
          obtain ⟨rfl, rfl⟩ : a2 = a2' ∧ b2 = b2' := by have := hist.id; injection this with h1 h2; exact ⟨h1, h2⟩
          obtain rfl : s2 = s2' := hist.seq
          have hn1 : n1 = ds1.length := by obtain ⟨p', c', e⟩ := own_shape hisk.rd; injection e
          have HN1 := Lib.hid hn1
          have HUk := Lib.hid hisk.useAt
          have HUt := Lib.hid hist.useAt
          have HRd := Lib.hid hisk.rd
          have HQ1 := Lib.hid hq1
          have HQ2 := Lib.hid hq2
          have hBu := own_lt HO.out.uses.own
          have HBu := Lib.hid hBu
          have HC1 := Lib.hid (own_cells HO.out.uses.own hkq hq1)
          have HC2 := Lib.hid (own_cells HO.out.uses.own htq hq2)
          have HS : Hid (∀ X, Below wr.heap.size wr X → (X.cell? ⟨Bu, t * 7, none⟩ = some (.int .i64 a2) ∧ X.cell? ⟨Bu, t * 7 + 1, none⟩ = some (.int .i64 b2) ∧ X.cell? ⟨Bu, t * 7 + 2, none⟩ = some (.int .i64 s2) ∧ X.cell? ⟨Bu, t * 7 + 3, none⟩ = some (.slice q1 m1 l1) ∧ X.cell? ⟨Bu, t * 7 + 4, none⟩ = some (.slice q2 m2 l2) ∧ X.cell? ⟨Bu, t * 7 + 5, none⟩ = some (.slice q3 m3 l3) ∧ X.cell? ⟨Bu, t * 7 + 6, none⟩ = some (.slice q4 m4 l4)) ∧ (X.cell? ⟨Bu, k * 7, none⟩ = some (.int .i64 a1) ∧ X.cell? ⟨Bu, k * 7 + 1, none⟩ = some (.int .i64 b1) ∧ X.cell? ⟨Bu, k * 7 + 2, none⟩ = some (.int .i64 s1) ∧ X.cell? ⟨Bu, k * 7 + 3, none⟩ = some (.slice p1 n1 k1) ∧ X.cell? ⟨Bu, k * 7 + 4, none⟩ = some (.slice p2 n2 k2) ∧ X.cell? ⟨Bu, k * 7 + 5, none⟩ = some (.slice p3 n3 k3) ∧ X.cell? ⟨Bu, k * 7 + 6, none⟩ = some (.slice p4 n4 k4))) := Lib.hid fun X hb => by
            obtain ⟨⟨c0, c1, c2, c3, c4, c5, c6⟩, -⟩ := HC1.out
            obtain ⟨⟨d0, d1, d2, d3, d4, d5, d6⟩, -⟩ := HC2.out
            have e := hb.block Bu HBu.out
            have tr : ∀ {j : Nat} {v : Value}, wr.cell? ⟨Bu, j, none⟩ = some v → X.cell? ⟨Bu, j, none⟩ = some v := fun {j v} hc => (World.cell?_of_block (a := ⟨Bu, j, none⟩) e).trans hc
            exact ⟨⟨tr d0, tr d1, tr d2, tr d3, tr d4, tr d5, tr d6⟩, tr c0, tr c1, tr c2, tr c3, tr c4, tr c5, tr c6⟩
          have CL : Hid (∀ X, Below wr.heap.size wr X → Calls Tryz.prog 26 #[.agg #[.int .i64 a2, .int .i64 b2, .int .i64 s2, .slice q1 m1 l1, .slice q2 m2 l2, .slice q3 m3 l3, .slice q4 m4 l4], .agg #[.int .i64 a1, .int .i64 b1, .int .i64 s1, .slice p1 n1 k1, .slice p2 n2 k2, .slice p3 n3 k3, .slice p4 n4 k4]] X (RetBelow (.bool (lackR ((a1, b1), s1, ds1, cs1) ((a2, b2), s2, ds2, cs2))) X)) := Lib.hid fun X hb => by
            rw [lack_comm]
            exact lacks_any a2 b2 s2 a1 b1 s1 q1 q2 q3 q4 p1 p2 p3 p4 m1 m2 m3 m4 n1 n2 n3 n4 l1 l2 l3 l4 k1 k2 k3 k4 ds2 ds1 cs2 cs1 X (HUt.out.on hb) (HUk.out.on hb)
          obtain ⟨lk, hlk⟩ : ∃ b, b = lackR ((a1, b1), s1, ds1, cs1) ((a2, b2), s2, ds2, cs2) := ⟨_, rfl⟩
          have HLk := Lib.hid hlk
          rw [← hlk] at CL
          obtain ⟨⟨c0, c1, c2, c3, c4, c5, c6⟩, -⟩ := HC1.out
          clear hkq htq hko hto hatk hatt hisk hist hq1 hq2 hr2 hn1 hlk hBu
          have E0 := Lib.hid (Below.refl wr.heap.size wr)
          by_cases h16 : n1 = 16
          · have q16 : ((n1 : Int) == (16 : Int)) = true := beq_iff_eq.2 (by omega)
            have HFin : Hid (mendR M r0 = ((a1, b1), s1, ds1, cs1)) := Lib.hid (by
              have h1 := HX.out.1
              have h2 : M.foldl addD r0 = (M.drop t).foldl addD ((M.take t).foldl addD r0) := by rw [← List.foldl_append, List.take_append_drop]
              unfold mendR
              rw [h2, ← h1]
              exact adds_full (by have := HN1.out; show ¬ ds1.length < 16; omega) _)
            go_wp2_with fail
            go_roundw
            case rel => exact ⟨k + 1, qs, by omega, by go_num, HQL, Lib.hid (by rw [HNext.out, HFin.out, ← HD.out, List.append_assoc]; exact HO.out)⟩
            case measure => simp [intOf]; omega
          · have q16 : ((n1 : Int) == (16 : Int)) = false := beq_eq_false_iff_ne.2 (by omega)
            cases lk
            · have HNx : Hid ((M.take (t + 1)).foldl addD r0 = ((a1, b1), s1, ds1, cs1)) := Lib.hid (by rw [HST.out]; unfold addD; rw [if_neg (fun h => by have := HLk.out.trans h.1; cases this)])
              go_wp2_with fail
              go_region_held3 (fun X => (X.cell? ⟨Bu, t * 7, none⟩ = some (.int .i64 a2) ∧ X.cell? ⟨Bu, t * 7 + 1, none⟩ = some (.int .i64 b2) ∧ X.cell? ⟨Bu, t * 7 + 2, none⟩ = some (.int .i64 s2) ∧ X.cell? ⟨Bu, t * 7 + 3, none⟩ = some (.slice q1 m1 l1) ∧ X.cell? ⟨Bu, t * 7 + 4, none⟩ = some (.slice q2 m2 l2) ∧ X.cell? ⟨Bu, t * 7 + 5, none⟩ = some (.slice q3 m3 l3) ∧ X.cell? ⟨Bu, t * 7 + 6, none⟩ = some (.slice q4 m4 l4)) ∧ (X.cell? ⟨Bu, k * 7, none⟩ = some (.int .i64 a1) ∧ X.cell? ⟨Bu, k * 7 + 1, none⟩ = some (.int .i64 b1) ∧ X.cell? ⟨Bu, k * 7 + 2, none⟩ = some (.int .i64 s1) ∧ X.cell? ⟨Bu, k * 7 + 3, none⟩ = some (.slice p1 n1 k1) ∧ X.cell? ⟨Bu, k * 7 + 4, none⟩ = some (.slice p2 n2 k2) ∧ X.cell? ⟨Bu, k * 7 + 5, none⟩ = some (.slice p3 n3 k3) ∧ X.cell? ⟨Bu, k * 7 + 6, none⟩ = some (.slice p4 n4 k4)))
                (first
                  | exact HS.out _ E1.out
                  | exact HS.out _ E0.out
                  | exact HS.out _ E0.out.drew)
                (first
                  | (go_at_call 26; (with_reducible refine (CL.out _ E0.out.drew).mono ?_); rintro e z1 ⟨rfl, hb1⟩; have E1 := Lib.hid (E0.out.drew.trans (hb1.mono E0.out.drew.size)); clear hb1))
              go_wp2
              go_roundw
              case rel => exact ⟨t + 1, qs, _, by omega, by go_num, HQL, Lib.hid ⟨HNx.out.symm, HX.out.2⟩, Lib.hid (HO.out.on E1.out)⟩
              case measure => simp [intOf]; omega
            · go_wp2_with fail
              go_region_held3 (fun X => (X.cell? ⟨Bu, t * 7, none⟩ = some (.int .i64 a2) ∧ X.cell? ⟨Bu, t * 7 + 1, none⟩ = some (.int .i64 b2) ∧ X.cell? ⟨Bu, t * 7 + 2, none⟩ = some (.int .i64 s2) ∧ X.cell? ⟨Bu, t * 7 + 3, none⟩ = some (.slice q1 m1 l1) ∧ X.cell? ⟨Bu, t * 7 + 4, none⟩ = some (.slice q2 m2 l2) ∧ X.cell? ⟨Bu, t * 7 + 5, none⟩ = some (.slice q3 m3 l3) ∧ X.cell? ⟨Bu, t * 7 + 6, none⟩ = some (.slice q4 m4 l4)) ∧ (X.cell? ⟨Bu, k * 7, none⟩ = some (.int .i64 a1) ∧ X.cell? ⟨Bu, k * 7 + 1, none⟩ = some (.int .i64 b1) ∧ X.cell? ⟨Bu, k * 7 + 2, none⟩ = some (.int .i64 s1) ∧ X.cell? ⟨Bu, k * 7 + 3, none⟩ = some (.slice p1 n1 k1) ∧ X.cell? ⟨Bu, k * 7 + 4, none⟩ = some (.slice p2 n2 k2) ∧ X.cell? ⟨Bu, k * 7 + 5, none⟩ = some (.slice p3 n3 k3) ∧ X.cell? ⟨Bu, k * 7 + 6, none⟩ = some (.slice p4 n4 k4)))
                (first
                  | exact HS.out _ E1.out
                  | exact HS.out _ E0.out
                  | exact HS.out _ E0.out.drew)
                (first
                  | (go_at_call 26; (with_reducible refine (CL.out _ E0.out.drew).mono ?_); rintro e z1 ⟨rfl, hb1⟩; have E1 := Lib.hid (E0.out.drew.trans (hb1.mono E0.out.drew.size)); clear hb1))
              go_wp2_with fail
              have HO1 := Lib.hid (HO.out.on E1.out.drew)
              have HC1' := Lib.hid (own_cells HO1.out.uses.own (by rw [HQL.out]; exact hkm) HQ1.out)
              have HC2' := Lib.hid (own_cells HO1.out.uses.own (by rw [HQL.out]; omega) HQ2.out)
              refine wp_region_held_drew (S := (fun X => X.cell? ⟨Bu, t * 7, none⟩ = some (.int .i64 a2) ∧ X.cell? ⟨Bu, t * 7 + 1, none⟩ = some (.int .i64 b2))) (by kernel_rfl) (⟨HC2'.out.1.1, HC2'.out.1.2.1⟩) (fun hHeld => ?_)
              have HE1 := Lib.hid E1.out.drew
              generalize z1.drew = Y0 at HE1 HO1 HC1' HC2' hHeld ⊢
              have c3' := HC1'.out.1.2.2.2.1
              refine ty (v := ?_) 0 (fun w hSw => ?_) ?_
              rotate_left
              · (try dsimp only at hSw); go_simp; (try with_reducible rfl)
              try simp only [List.getElem_toArray, List.getElem_cons_succ, List.getElem_cons_zero, Act.put, List.setIfInBounds_toArray, List.set_cons_zero, List.set_cons_succ]
              refine ty (v := ?_) 1 (fun w hSw => ?_) ?_
              rotate_left
              · (try dsimp only at hSw); go_simp; (try with_reducible rfl)
              try simp only [List.getElem_toArray, List.getElem_cons_succ, List.getElem_cons_zero, Act.put, List.setIfInBounds_toArray, List.set_cons_zero, List.set_cons_succ]
              refine ty (v := ?_) 2 (fun w hSw => ?_) ?_
              rotate_left
              · (try dsimp only at hSw); go_simp; (try with_reducible rfl)
              try simp only [List.getElem_toArray, List.getElem_cons_succ, List.getElem_cons_zero, Act.put, List.setIfInBounds_toArray, List.set_cons_zero, List.set_cons_succ]
              refine ty (v := ?_) 3 (fun w hSw => ?_) ?_
              rotate_left
              · (try dsimp only at hSw); go_simp; (try with_reducible rfl)
              try simp only [List.getElem_toArray, List.getElem_cons_succ, List.getElem_cons_zero, Act.put, List.setIfInBounds_toArray, List.set_cons_zero, List.set_cons_succ]
              refine ty (v := ?_) 5 (fun w hSw => ?_) ?_
              rotate_left
              · (try dsimp only at hSw); go_simp; (try with_reducible rfl)
              try simp only [List.getElem_toArray, List.getElem_cons_succ, List.getElem_cons_zero, Act.put, List.setIfInBounds_toArray, List.set_cons_zero, List.set_cons_succ]
              refine ty (v := ?_) 6 (fun w hSw => ?_) ?_
              rotate_left
              · (try dsimp only at hSw); go_simp; (try with_reducible rfl)
              try simp only [List.getElem_toArray, List.getElem_cons_succ, List.getElem_cons_zero, Act.put, List.setIfInBounds_toArray, List.set_cons_zero, List.set_cons_succ]
              refine ty (v := ?_) 7 (fun w hSw => ?_) ?_
              rotate_left
              · (try dsimp only at hSw); go_simp; (try with_reducible rfl)
              try simp only [List.getElem_toArray, List.getElem_cons_succ, List.getElem_cons_zero, Act.put, List.setIfInBounds_toArray, List.set_cons_zero, List.set_cons_succ]
              refine ty (v := ?_) 8 (fun w hSw => ?_) ?_
              rotate_left
              · (try dsimp only at hSw); go_simp; (try with_reducible rfl)
              try simp only [List.getElem_toArray, List.getElem_cons_succ, List.getElem_cons_zero, Act.put, List.setIfInBounds_toArray, List.set_cons_zero, List.set_cons_succ]
              refine ty (v := ?_) 9 (fun w hSw => ?_) ?_
              rotate_left
              · (try dsimp only at hSw); go_simp; (try with_reducible rfl)
              try simp only [List.getElem_toArray, List.getElem_cons_succ, List.getElem_cons_zero, Act.put, List.setIfInBounds_toArray, List.set_cons_zero, List.set_cons_succ]
              refine ty (v := ?_) 10 (fun w hSw => ?_) ?_
              rotate_left
              · (try dsimp only at hSw); go_simp; (try with_reducible rfl)
              try simp only [List.getElem_toArray, List.getElem_cons_succ, List.getElem_cons_zero, Act.put, List.setIfInBounds_toArray, List.set_cons_zero, List.set_cons_succ]
              apply held_join1 (C := fun Y => Hid (UM w Y (.slice (some ⟨Bu, 0, none⟩) m cu) qs (M ++ ((a1, b1), s1, ds1, cs1) :: D) ∧ Y.heap[Y0.heap.size]? = some (.cells #[.int .i64 a2, .int .i64 b2] 32 (0, 0)) ∧ Below wr.heap.size wr Y))
              case h1 =>
                intro tail
                have hb1 := Cmd.below_one Y0 (.cells #[.int .i64 a2, .int .i64 b2] 32)
                have HO3 := Lib.hid (HO1.out.on hb1)
                have hC : Hid (UM w (Y0.alloc (.cells #[.int .i64 a2, .int .i64 b2] 32)) (.slice (some ⟨Bu, 0, none⟩) m cu) qs (M ++ ((a1, b1), s1, ds1, cs1) :: D) ∧ (Y0.alloc (.cells #[.int .i64 a2, .int .i64 b2] 32)).heap[Y0.heap.size]? = some (.cells #[.int .i64 a2, .int .i64 b2] 32 (0, 0)) ∧ Below wr.heap.size wr (Y0.alloc (.cells #[.int .i64 a2, .int .i64 b2] 32))) := Lib.hid ⟨HO3.out, heap_alloc_new Y0 _, HE1.out.trans (hb1.mono HE1.out.size)⟩
                have HC3 := Lib.hid (own_cells HO3.out.uses.own (by rw [HQL.out]; exact hkm) HQ1.out)
                have HC4 := Lib.hid (own_cells HO3.out.uses.own (by rw [HQL.out]; omega) HQ2.out)
                have c3'' := HC3.out.1.2.2.2.1
                clear hb1
                refine wpAnyH_ready (rs := [4, 11]) (by kernel_rfl) (by simp) ?_
                refine AllReadyH.cons rfl (fun K hK => ?_) ?_
                · go_simp
                  refine hK.out _ _ ?_ (fun hHeld => ?_)
                  · exact ⟨HC2'.out.1.1, HC2'.out.1.2.1⟩
                  clear hK K
                  try simp only [List.getElem_toArray, List.getElem_cons_succ, List.getElem_cons_zero, Act.put, List.setIfInBounds_toArray, List.set_cons_zero, List.set_cons_succ]
                  refine tr 11 (fun K hK => ?_)
                  go_simp
                  refine hK.out _ _ ?_ (fun hHeld => ?_)
                  · exact ⟨HC4.out.1.1, HC4.out.1.2.1⟩
                  clear hK K
                  try simp only [List.getElem_toArray, List.getElem_cons_succ, List.getElem_cons_zero, Act.put, List.setIfInBounds_toArray, List.set_cons_zero, List.set_cons_succ]
                  refine to_listed (L' := #[true, true, true, true, true, true, true, true, true, true, true, true, false, false, false, false, false]) (f' := 5) (by kernel_rfl) (by kernel_rfl) ?_
                  exact tail _ hC
                refine AllReadyH.cons rfl (fun K hK => ?_) ?_
                · go_simp
                  refine hK.out _ _ ?_ (fun hHeld => ?_)
                  · exact ⟨HC4.out.1.1, HC4.out.1.2.1⟩
                  clear hK K
                  try simp only [List.getElem_toArray, List.getElem_cons_succ, List.getElem_cons_zero, Act.put, List.setIfInBounds_toArray, List.set_cons_zero, List.set_cons_succ]
                  refine tr 4 (fun K hK => ?_)
                  go_simp
                  refine hK.out _ _ ?_ (fun hHeld => ?_)
                  · exact ⟨HC4.out.1.1, HC4.out.1.2.1⟩
                  clear hK K
                  try simp only [List.getElem_toArray, List.getElem_cons_succ, List.getElem_cons_zero, Act.put, List.setIfInBounds_toArray, List.set_cons_zero, List.set_cons_succ]
                  refine to_listed (L' := #[true, true, true, true, true, true, true, true, true, true, true, true, false, false, false, false, false]) (f' := 5) (by kernel_rfl) (by kernel_rfl) ?_
                  exact tail _ hC
                exact AllReadyH.nil
              intro Y1 hC
              have HO3 := Lib.hid hC.out.1
              have hko : k < (M ++ (((a1, b1), s1, ds1, cs1) : Rcd) :: D).length := by rw [← HO3.out.uses.len, HQL.out]; exact hkm
              have hatk : layG.at (M ++ (((a1, b1), s1, ds1, cs1) : Rcd) :: D) k = ((a1, b1), s1, ds1, cs1) := by rw [at_mid, if_neg (by rw [HML.out]; omega), if_pos HML.out.symm]
              have HRd3 : Hid (Owns Y1 0 (.slice p1 n1 k1) ds1) := Lib.hid (by have h1 := (HO3.out.uses.is k hko).rd; rw [hatk, HQ1.out] at h1; exact h1)
              have HG := Lib.hid (grow_wd wtIdP Y1 23 0 (.slice p1 n1 k1) ds1 HRd3.out (Nat.zero_le _) Y0.heap.size (a2, b2) #[.int .i64 a2, .int .i64 b2] rfl hC.out.2.1 (by have := HN1.out; have := HX.out.2.1; show ds1.length + 1 ≤ 1000000; omega))
              have HKO := Lib.hid (And.intro hko hatk)
              have HB1 := Lib.hid hC.out.2.2
              clear hC hko hatk c3'
              refine tr 12 (fun K hK => ?_)
              refine step_app rfl _ _ 23 rfl _ _ rfl rfl HG.out ?_
              intro v2 Y2 HV2
              have HUX : Hid (UX w Y2 (.slice (some ⟨Bu, 0, none⟩) m cu) qs (M ++ ((a1, b1), s1, ds1, cs1) :: D) k) := Lib.hid (HO3.out.turn HKO.out.1 (by rw [HQ1.out]; exact HV2.out.2.1))
              have HV3 : Hid (Owns Y2 0 v2 (ds1 ++ [(a2, b2)])) := Lib.hid HV2.out.1
              have HC5 := Lib.hid (own_cells HUX.out.own (by rw [HQL.out]; omega) HQ2.out)
              have hHeld : Y2.cell? ⟨Bu, t * 7, none⟩ = some (.int .i64 a2) ∧ Y2.cell? ⟨Bu, t * 7 + 1, none⟩ = some (.int .i64 b2) := ⟨HC5.out.1.1, HC5.out.1.2.1⟩
              have CS := Lib.hid (sortedO_any v2 (ds1 ++ [(a2, b2)]) Y2 (Owns.row HV3.out) (by have := HN1.out; have := HX.out.2.1; rw [List.length_append, List.length_singleton]; show ds1.length + 1 ≤ 100000; omega))
              rw [srt_put HX.out.2.2] at CS
              obtain ⟨p2', c2', rfl⟩ := own_shape HV3.out
              obtain ⟨n2', hn2'⟩ : ∃ n, n = (ds1 ++ [(a2, b2)]).length := ⟨_, rfl⟩
              rw [← hn2'] at CS ⊢
              clear hn2'
              refine hK.out _ _ hHeld (fun hHeld => ?_)
              clear hK K
              try simp only [List.getElem_toArray, List.getElem_cons_succ, List.getElem_cons_zero, Act.put, List.setIfInBounds_toArray, List.set_cons_zero, List.set_cons_succ]
              refine tr 13 (fun K hK => ?_)
              go_simp
              (go_at_call 34; ((with_reducible refine CS.out.mono ?_); rintro E Y3 ⟨u3, rfl, -, ho, hb⟩; obtain ⟨p3', c3', rfl⟩ := own_shape ho; obtain ⟨n3', hn3'⟩ : ∃ n, n = (put ds1 (a2, b2)).length := ⟨_, rfl⟩; rw [← hn3']; have HS3 : Hid (Owns Y3 Y2.heap.size (.slice p3' n3' c3') (put ds1 (a2, b2))) := Lib.hid (by rw [hn3']; exact ho); have HUX3 := Lib.hid (HUX.out.on hb); have HB3 := Lib.hid hb; clear hb ho hn3'))
              have HC6 := Lib.hid (own_cells HUX3.out.own (by rw [HQL.out]; omega) HQ2.out)
              have HC7 := Lib.hid (own_cells HUX3.out.own (by rw [HQL.out]; exact hkm) HQ1.out)
              refine hK.out _ _ ?_ (fun hHeld => ?_)
              · exact ⟨HC6.out.1.1, HC6.out.1.2.1⟩
              clear hK K
              try simp only [List.getElem_toArray, List.getElem_cons_succ, List.getElem_cons_zero, Act.put, List.setIfInBounds_toArray, List.set_cons_zero, List.set_cons_succ]
              have hHeld : Y3.cell? ⟨Bu, t * 7, none⟩ = some (.int .i64 a2) ∧ Y3.cell? ⟨Bu, t * 7 + 1, none⟩ = some (.int .i64 b2) := ⟨HC6.out.1.1, HC6.out.1.2.1⟩
              refine ty (v := ?_) 14 (fun w hSw => ?_) ?_
              rotate_left
              · (try dsimp only at hSw); go_simp; (try with_reducible rfl)
              try simp only [List.getElem_toArray, List.getElem_cons_succ, List.getElem_cons_zero, Act.put, List.setIfInBounds_toArray, List.set_cons_zero, List.set_cons_succ]
              refine ty (v := ?_) 15 (fun w hSw => ?_) ?_
              rotate_left
              · (try dsimp only at hSw); go_simp; (try with_reducible rfl)
              try simp only [List.getElem_toArray, List.getElem_cons_succ, List.getElem_cons_zero, Act.put, List.setIfInBounds_toArray, List.set_cons_zero, List.set_cons_succ]
              have HPut : Hid (UM w (Y3.setCell ⟨Bu, k * 7 + 3, none⟩ (.slice p3' n3' c3')) (.slice (some ⟨Bu, 0, none⟩) m cu) (qs.set k (updU (layUse.at qs k) (p3', n3', c3'))) (M ++ ((a1, b1), s1, put ds1 (a2, b2), cs1) :: D)) := Lib.hid (by
                have h1 := HUX3.out
                rw [← HML.out] at h1
                have h2 := h1.put (d := (p3', n3', c3')) (own_mono HS3.out (Nat.zero_le _)) (fun g hg => by
                  have h3 := (World.ownsRow.lt HS3.out g hg).1
                  have h4 := HUX.out.below.size
                  refine ⟨by omega, fun j hj hne e => ?_⟩
                  have h5 := (World.ownsRow.lt (HUX.out.rd j (by rw [← HUX.out.len]; exact hj) (by rw [← HML.out]; exact hne)) g e).2
                  omega)
                rw [HML.out] at h2
                exact h2)
              have HC8 := Lib.hid (own_cells (k := t) HPut.out.uses.own (by rw [List.length_set, HQL.out]; omega) (show layUse.at (qs.set k (updU (layUse.at qs k) (p3', n3', c3'))) t = ((a2, b2), s2, (q1, m1, l1), (q2, m2, l2), (q3, m3, l3), (q4, m4, l4)) from (by rw [at_set _ _ _ _ (by rw [HQL.out]; exact hkm), if_neg (by omega)]; exact HQ2.out)))
              have c9 := HC7.out.1.2.2.2.1
              have f9 := HC7.out.2
              refine tr 16 (fun K hK => ?_)
              go_simp
              refine hK.out _ _ ?_ (fun hHeld => ?_)
              · exact ⟨HC8.out.1.1, HC8.out.1.2.1⟩
              clear hK K
              try simp only [List.getElem_toArray, List.getElem_cons_succ, List.getElem_cons_zero, Act.put, List.setIfInBounds_toArray, List.set_cons_zero, List.set_cons_succ]
              refine wpAnyH_done (by kernel_rfl) ?_ _
              have HNx : Hid ((M.take (t + 1)).foldl addD r0 = ((a1, b1), s1, put ds1 (a2, b2), cs1)) := Lib.hid (by
                rw [HST.out]; unfold addD
                rw [if_pos ⟨HLk.out.symm, (by have h1 := HN1.out; have h2 := HX.out.2.1; show ds1.length < 16; have h3 : ds1.length ≤ 16 := h2; omega)⟩])
              go_wp2
              go_roundw
              case rel => exact ⟨t + 1, _, _, by omega, by go_num, Lib.hid (by rw [List.length_set]; exact HQL.out), Lib.hid ⟨HNx.out.symm, by
                have h1 := add_ok (x := ((a1, b1), s1, ds1, cs1)) (y := ((a2, b2), s2, ds2, cs2)) HX.out.2.1 HX.out.2.2
                rw [← HST.out, HNx.out] at h1
                exact h1⟩, HPut⟩
              case measure => simp [intOf]; omega
        · have htk' : t = k := by omega
          have tk : ¬ (t : Int) < k := by omega
          have HFin : Hid (mendR M r0 = x) := Lib.hid (by have h1 := HX.out.1; rw [htk', ← HML.out, List.take_length] at h1; exact h1.symm)
          go_wp2_with fail
          go_roundw
          case rel => exact ⟨k + 1, qs, by omega, by go_num, HQL, Lib.hid (by rw [HNext.out, HFin.out, ← HD.out, List.append_assoc]; exact HO.out)⟩
          case measure => simp [intOf]; omega
    · obtain rfl : k = m := by omega
      have km : ¬ (k : Int) < k := by omega
      have hO := HO.out
      rw [HMF.out, List.take_length, List.drop_length, List.append_nil, HT.out, ← HMF.out] at hO
      have HZ := Lib.hid hO
      have HMM : Hid (k = MM.length) := Lib.hid (by rw [← hO.uses.len]; exact HQL.out.symm)
      obtain ⟨wz, hwz⟩ : ∃ wz, wz = wr := ⟨_, rfl⟩
      subst hwz
      clear hO HO
      go_wp2
      go_loopw [7, 60] (fun o i wr => ∃ (j : Nat) (rq : List Raw), j ≤ k ∧ i = .int .i64 j ∧ Hid (RawsS wz wr o rq (MM.take j))) (fun _ i _ => k - (intOf i).toNat)
      case atStart => exact ⟨0, [], Nat.zero_le _, rfl, Lib.hid ⟨Below.refl _ _, Wd.Own.void _ _ _, rfl, fun j hj => absurd hj (Nat.not_lt_zero _)⟩⟩
      case round =>
        obtain ⟨j, rq, hj, rfl, HR⟩ := hrel
        have j0 : (0 : Int) ≤ j := by omega
        by_cases hjk : j < k
        · have jk : (j : Int) < k := by omega
          obtain ⟨Bu, rfl⟩ := own_ptrU HZ.out.uses.own (by rw [HQL.out]; omega)
          have HZ1 := Lib.hid (HZ.out.on HR.out.below)
          have hjq : j < qs.length := by rw [HQL.out]; exact hjk
          have hjM : j < MM.length := by rw [← HMM.out]; exact hjk
          have hisj := HZ.out.uses.is j hjM
          have hbat := HZ.out.bat j hjM
          obtain ⟨⟨⟨a1, b1⟩, s1, ⟨p1, n1, k1⟩, ⟨p2, n2, k2⟩, ⟨p3, n3, k3⟩, ⟨p4, n4, k4⟩⟩, hq1⟩ : ∃ q, layUse.at qs j = q := ⟨_, rfl⟩
          obtain ⟨⟨⟨a1', b1'⟩, s1', ds1, cs1⟩, hr1⟩ : ∃ r, layG.at MM j = r := ⟨_, rfl⟩
          have hbl := HMB.out _ (layG.at_mem hjM)
          have HTK : Hid (MM.take (j + 1) = MM.take j ++ [((a1', b1'), s1', ds1, cs1)]) := Lib.hid (by rw [layG.take hjM, hr1])
          rw [hr1] at hisj hbat hbl
          rw [hq1] at hisj hbat
          obtain ⟨rfl, rfl⟩ : a1 = a1' ∧ b1 = b1' := by have := hisj.id; injection this with h1 h2; exact ⟨h1, h2⟩
          obtain rfl : s1 = s1' := hisj.seq
          obtain ⟨⟨d0, d1, d2, d3, d4, d5, d6⟩, -⟩ := own_cells HZ1.out.uses.own hjq hq1
          have HRI : Hid (RawIs wz wr u7.ownBlock ((a1, b1), s1, (p1, n1, k1), (p2, n2, k2)) ((a1, b1), s1, ds1, cs1)) := Lib.hid ⟨rfl, rfl, (Owns.row hisj.rd).on HR.out.below, fun hz g hg e => by
            have h1 := (World.ownsRow.lt hisj.rd g hg).2
            have h2 := (World.ownsRow.lt HR.out.own g e).1
            omega, by
            obtain ⟨g, h1, h2⟩ := hbat
            have h3 := Rec.rowC h2 (by show cs1.length ≤ 100000; have : cs1.length ≤ 8 := hbl; omega)
            rw [← h1] at h3
            exact h3⟩
          have HB1 := Lib.hid (Cmd.below_one wr (.cells #[.int .i64 a1, .int .i64 b1, .int .i64 s1, .slice p1 n1 k1, .slice p2 n2 k2, .slice p3 n3 k3, .slice p4 n4 k4] 68))
          have HX1 := heap_alloc_new wr (.cells #[.int .i64 a1, .int .i64 b1, .int .i64 s1, .slice p1 n1 k1, .slice p2 n2 k2, .slice p3 n3 k3, .slice p4 n4 k4] 68)
          obtain ⟨e0, e1, e2, e3, e4, e5, e6⟩ := seven_box HX1
          have HLn : Hid (rq.length + 1 ≤ 1000000) := Lib.hid (by have h1 := HR.out.len; rw [List.length_take] at h1; have := HMM.out; omega)
          have HR1 := Lib.hid (HR.out.on HB1.out)
          obtain ⟨W1, hW1⟩ : ∃ W1, W1 = wr.alloc (.cells #[.int .i64 a1, .int .i64 b1, .int .i64 s1, .slice p1 n1 k1, .slice p2 n2 k2, .slice p3 n3 k3, .slice p4 n4 k4] 68) := ⟨_, rfl⟩
          have HB2 := Lib.hid (Cmd.below_one W1 (.cells #[.int .i64 a1, .int .i64 b1, .int .i64 s1, .slice p1 n1 k1, .slice p2 n2 k2] 42))
          have HR2 : Hid (RawsS wz (W1.alloc (.cells #[.int .i64 a1, .int .i64 b1, .int .i64 s1, .slice p1 n1 k1, .slice p2 n2 k2] 42)) u7 rq (MM.take j)) := Lib.hid ((by rw [hW1]; exact HR1.out : RawsS wz W1 u7 rq (MM.take j)).on HB2.out)
          have HRI2 : Hid (RawIs wz (W1.alloc (.cells #[.int .i64 a1, .int .i64 b1, .int .i64 s1, .slice p1 n1 k1, .slice p2 n2 k2] 42)) u7.ownBlock ((a1, b1), s1, (p1, n1, k1), (p2, n2, k2)) ((a1, b1), s1, ds1, cs1)) := Lib.hid ((by rw [hW1]; exact HRI.out.on HB1.out : RawIs wz W1 u7.ownBlock _ _).on HB2.out)
          have HA := Lib.hid (grow_wd wtRaw (W1.alloc (.cells #[.int .i64 a1, .int .i64 b1, .int .i64 s1, .slice p1 n1 k1, .slice p2 n2 k2] 42)) 22 wz.heap.size u7 rq HR2.out.own HR2.out.below.size W1.heap.size ((a1, b1), s1, (p1, n1, k1), (p2, n2, k2)) #[.int .i64 a1, .int .i64 b1, .int .i64 s1, .slice p1 n1 k1, .slice p2 n2 k2] rfl (heap_alloc_new W1 _) HLn.out)
          rw [← hW1] at e0 e1 e2 e3 e4 e5 e6
          clear hisj hbat hbl hq1 hr1 hjq hjM HX1
          go_upto_region 18 with fail
          rw [← hW1]
          clear hW1 d0 d1 d2 d3 d4 d5 d6
          go_wp2_with (at_builtin; refine wp_app rfl _ _ 22 rfl _ _ rfl rfl HA.out ?_; intro v8 w8 HV8)
          go_roundw
          case rel => exact ⟨j + 1, _, by omega, by go_num, Lib.hid (by rw [HTK.out]; exact HR2.out.snoc HV8.out.1 HV8.out.2.1 HV8.out.2.2 HRI2.out)⟩
          case measure => simp [intOf]; omega
        · obtain rfl : j = k := by omega
          have jk : ¬ (j : Int) < j := by omega
          have hR := HR.out
          rw [HMM.out, List.take_length] at hR
          have HEnd := Lib.hid hR
          clear hR
          go_wp2_with fail
          go_ret
          exact ⟨_, rfl, HEnd.out.row, HZ.out.uses.below.trans (HEnd.out.below.mono HZ.out.uses.below.size)⟩
end Go.Proofs.YtomidcbpnaajeaaGreat.Pre
