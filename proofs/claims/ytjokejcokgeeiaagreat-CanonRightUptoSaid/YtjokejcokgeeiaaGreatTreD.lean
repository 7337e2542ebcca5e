/- What the developers' trees gives (layer 17, comps): all that is gone along next from any of a list, tree by tree. Conditions: those in each statement. -/
import Derived.Test.YtjokejcokgeeiaaGreatTreC
import Derived.Test.YtjokejcokgeeiaaGreatReaN
namespace Go.Proofs.YtjokejcokgeeiaaGreat.Cps
open Go.RowKit Cmd Bat Ids Rec Wid Gra Rea
set_option linter.unusedVariables false
set_option linter.unusedSimpArgs false

/-! ### Lists of lists, each row in a block of its own -/
abbrev Rw := Slc × List Idn
def layRw : Lay Rw := ⟨((none, 0, 0), []), fun o j => o + j, fun w b o x => w.cell? ⟨b, o, none⟩ = some (sliceOf x.1), fun {w w' b o x} hb h h0 => (h.cell (p := ⟨b, o, none⟩) hb).trans h0⟩
def wdRw : Wd Rw where
  L := layRw
  enc x := [sliceOf x.1]
  c := 1
  cpos := by decide
  pos o j := by show o + j = _; omega
  len _ := rfl
  one x u hu := by rw [List.mem_singleton] at hu; subst hu; rfl
  lies h := h 0 _ rfl
  cells h := one_at h
theorem wtRw : Wt wdRw 30 38 (.slice none 0 0) 24 := ⟨Tryz.underlying30, by kernel_rfl, by kernel_rfl, by kernel_rfl, by decide⟩
/-- A list of lists of the call's own. -/
structure Rows (W : World) (base : Nat) (v : Value) (rs : List Rw) : Prop where
  own : wdRw.Own 38 W base v rs
  row : ∀ r ∈ rs, Owns W base (sliceOf r.1) r.2
  apart : rs.Pairwise fun a b => ∀ k, (sliceOf a.1).ownBlock = some k → (sliceOf b.1).ownBlock ≠ some k
theorem own_notmap {w : World} {base : Nat} {e : TypeId} {c n : Nat} {v : Value} {xs : List Value} (h : w.ownsRow base e c v n xs) {m : Nat} (hm : ∃ es c, w.heap[m]? = some (.map es c)) : v.ownBlock = none ∨ v.ownBlock ≠ some m := by
  obtain ⟨es, c, hm⟩ := hm
  rcases h.2 with ⟨rfl, -⟩ | ⟨g, cap, cur, rfl, -, hg, -⟩
  · exact .inl rfl
  · refine .inr fun e => ?_
    injection e with e
    have e : g = m := e
    rw [e, hm] at hg; cases hg
theorem own_otherR {w : World} {base base' : Nat} {u v : Value} {c : List Idn} {rs : List Rw} (h : Owns w base u c) (k : wdRw.Own 38 w base' v rs) : u.ownBlock = none ∨ u.ownBlock ≠ v.ownBlock := by
  rcases h.2 with ⟨rfl, -⟩ | ⟨g, cap, cur, rfl, -, hg, -⟩
  · exact .inl rfl
  · rcases k.2 with ⟨rfl, -⟩ | ⟨g', cap', cur', rfl, -, hg', -⟩
    · exact .inr (by intro e; cases e)
    · refine .inr fun e => ?_
      injection e with e
      have e : g = g' := e
      subst e
      rw [hg] at hg'
      injection hg' with e
      injection e with e1 e2
      exact absurd e2 (by decide)
section
variable {W W' : World} {base : Nat} {v v' : Value} {rs : List Rw}
theorem Rows.below (R : Rows W base v rs) (hb : Below W.heap.size W W') : Rows W' base v rs := ⟨R.own.below hb, fun r hr => own_below (R.row r hr) hb, R.apart⟩
theorem Rows.map {m : Nat} (R : Rows W base v rs) (hg : W.grownBy W' (some m)) (hm : ∃ es c, W.heap[m]? = some (.map es c)) : Rows W' base v rs :=
  ⟨World.ownsRow.kept R.own hg (own_notmap R.own hm), fun r hr => World.ownsRow.kept (R.row r hr) hg (own_notmap (R.row r hr) hm), R.apart⟩
theorem Rows.void (W : World) (base : Nat) : Rows W base (.slice none 0 0) [] := ⟨World.ownsRow_nil _ _ _ _, fun r hr => (by cases hr), List.Pairwise.nil⟩
/-- One more, whose row lies above all others. -/
theorem Rows.snoc {B : Nat} {q : Slc} {c : List Idn} (R : Rows W base v rs) (hq : Owns W base (sliceOf q) c) (hB : ∀ r ∈ rs, ∀ k, (sliceOf r.1).ownBlock = some k → k < B) (hqB : ∀ k, (sliceOf q).ownBlock = some k → B ≤ k) (ho : wdRw.Own 38 W' base v' (rs ++ [(q, c)])) (hg : W.grownBy W' v.ownBlock) : Rows W' base v' (rs ++ [(q, c)]) := by
  have far : ∀ {u : Value} {z : List Idn}, Owns W base u z → Owns W' base u z := fun h => World.ownsRow.kept h hg (own_otherR h R.own)
  refine ⟨ho, fun r hr => ?_, List.pairwise_append.2 ⟨R.apart, List.pairwise_singleton _ _, fun a ha b hb k e e2 => ?_⟩⟩
  · rcases List.mem_append.1 hr with hr | hr
    · exact far (R.row r hr)
    · rw [List.mem_singleton] at hr; subst hr; exact far hq
  · rw [List.mem_singleton] at hb; subst hb
    have h1 := hB a ha k e
    have h2 := hqB k e2
    omega
end

/-! ### The function of next ids, whatever lies above -/
structure NextsB (fn : Nat) (bs lb : Array Value) (nx : Idn → List Idn) (W : World) : Prop where
  enter : ∀ args w, (callFunc fn args).run Tryz.prog w = .ok (.enter fn args) w
  call : ∀ X, Below W.heap.size W X → ∀ x y : Int, wfId (x, y) → Calls Tryz.prog fn (bs.push (.agg #[.int .i64 x, .int .i64 y]) ++ lb) X (GivesOwned (nx (x, y)) X)
  wf : ∀ x y, y ∈ nx x → wfId y
  few : ∀ x, (nx x).length ≤ 100000
theorem NextsB.at {fn : Nat} {bs lb : Array Value} {nx : Idn → List Idn} {W wr : World} {ms : Nat} (N : NextsB fn bs lb nx W) (hb : Below W.heap.size W wr) (hm : W.heap.size ≤ ms) : Nexts fn bs lb nx ms wr :=
  ⟨N.enter, fun X hX => N.call X ⟨hX.os.trans hb.os, hX.tape.trans hb.tape, hX.output.trans hb.output, Nat.le_trans hb.size hX.size, fun k hk => (hX.block k (Nat.lt_of_lt_of_le hk hb.size) (fun e => by injection e with e; omega)).trans (hb.block k hk)⟩, N.wf, N.few⟩
theorem NextsB.on {fn : Nat} {bs lb : Array Value} {nx : Idn → List Idn} {W wr : World} (N : NextsB fn bs lb nx W) (hb : Below W.heap.size W wr) : NextsB fn bs lb nx wr :=
  ⟨N.enter, fun X hX => N.call X (hb.trans (hX.mono hb.size)), N.wf, N.few⟩
/-- The trees of a list. -/
def GivesTrees (nx : Idn → List Idn) (ls : List Idn) (W : World) (E : Ending) (W' : World) : Prop :=
  ∃ (v : Value) (L : List Idn) (rs : List Rw), E = .returned v ∧ Rows W' W.heap.size v rs ∧ Trees nx (srt ls) ls L (rs.map Prod.snd) ∧ Below W.heap.size W W'
theorem grown_belowT {w w' : World} {r B : Nat} (h : w.grownBy w' (some r)) (h1 : B ≤ r) (h2 : B ≤ w.heap.size) : Below B w w' := ⟨h.os, h.tape, h.output, h.size, fun k hk => h.block k (by omega) (fun e => by injection e with e; omega)⟩
theorem trees_len {nx : Idn → List Idn} {V l L : List Idn} {all : List (List Idn)} (h : Trees nx V l L all) : all.length ≤ l.length := by
  induction h with
  | start => exact Nat.le_refl _
  | none _ _ ih => rw [List.length_append]; omega
  | tree _ _ ih => rw [List.length_append, List.length_append]; simpa using ih
theorem Rows.lower {W : World} {base base' : Nat} {v : Value} {rs : List Rw} (R : Rows W base v rs) (h : base' ≤ base) : Rows W base' v rs := ⟨R.own.lower h, fun r hr => own_mono (R.row r hr) h, R.apart⟩
/-- append of a row to a list of lists. -/
theorem rows_app {w : World} {base B : Nat} {o : Value} {rs : List Rw} {q : Slc} {c : List Idn} (R : Rows w base o rs) (hbase : base ≤ w.heap.size) (hq : Owns w base (sliceOf q) c) (hB : ∀ r ∈ rs, ∀ k, (sliceOf r.1).ownBlock = some k → k < B) (hqB : ∀ k, (sliceOf q).ownBlock = some k → B ≤ k) (hl : rs.length + 1 ≤ 1000000) :
    ∃ v' w', (Builtin.append_ #[30, 30] 30 #[o, .slice (some ⟨w.heap.size, 0, none⟩) 1 1]).run Tryz.prog (w.alloc (.cells #[sliceOf q] 38)) = .ok v' w' ∧ (Rows w' base v' (rs ++ [(q, c)]) ∧ (w.alloc (.cells #[sliceOf q] 38)).grownBy w' o.ownBlock ∧ (v'.ownBlock = o.ownBlock ∨ v'.ownBlock = some (w.heap.size + 1))) := by
  have hb := Cmd.below_one w (.cells #[sliceOf q] 38)
  have R1 := R.below hb
  have hq1 : Owns (w.alloc (.cells #[sliceOf q] 38)) base (sliceOf q) c := own_below hq hb
  obtain ⟨v', w', hr, r1, r2, r3⟩ := grow_wd wtRw (w.alloc (.cells #[sliceOf q] 38)) 30 base o rs R1.own (by simp; omega) w.heap.size (q, c) #[sliceOf q] rfl (heap_alloc_new w _) hl
  rw [World.size_alloc] at r3
  exact ⟨v', w', hr, R1.snoc hq1 hB hqB r1 r2, r2, r3⟩
theorem gone_pos {nx : Idn → List Idn} {L0 L' gone : List Idn} {r : Idn} (h : Came nx L0 r L' [] gone) : 0 < gone.length := by
  have h1 := h.root.2
  rcases h1 with h1 | h1
  · cases h1
  · exact List.length_pos_of_mem h1
theorem trees_low {nx : Idn → List Idn} {V l L : List Idn} {all : List (List Idn)} (h : Trees nx V l L all) : ∀ z ∈ L, z ∈ V := by
  induction h with
  | start => exact fun z hz => hz
  | none _ _ ih => exact ih
  | tree _ hc ih => exact fun z hz => ih z ((hc.alls (P := fun _ => True) trivial (fun _ _ _ _ _ => trivial)).low z hz)
set_option maxRecDepth 100000 in
set_option maxHeartbeats 4000000 in
theorem trees_any (v : Value) (ls : List Idn) (fn : Nat) (bs lb : Array Value) (nx : Idn → List Idn) (W : World) (hr : RowAt W v ls) (hl : ls.length ≤ 100000) (hw : ∀ x ∈ ls, wfId x) (N : NextsB fn bs lb nx W) :
    Calls Tryz.prog 47 #[v, .func (.func fn) bs lb] W (GivesTrees nx ls W) := by
  have HNew := Lib.hid (new_any v ls W hr hw hl)
  obtain ⟨p, cap, rfl, h1, hd⟩ := Rec.RowAt.parts hr
  obtain ⟨n, hn⟩ : ∃ n, n = ls.length := ⟨_, rfl⟩
  rw [← hn] at h1 hd HNew ⊢
  have HN := Lib.hid hn
  have HNx := Lib.hid N
  have HW := Lib.hid hw
  have hnl : n ≤ 100000 := by omega
  clear hr hn N hw hl
  go_enter Tryz.func47, Tryz.ntmps47
  go_wp2_with (first
    | (go_at_call 77; (with_reducible refine HNew.out.mono ?_); rintro E W1 ⟨gs, ms, hE, hgs, hms, hset, hb⟩; obtain rfl : E = .returned (.pointer (some ⟨gs, 0, none⟩)) := hE; have HB1 := Lib.hid hb; have HS1 := Lib.hid hset; have HM1 := Lib.hid (And.intro hgs hms); clear hgs hms hset hb)
    | fail)
  have hd1 : n = 0 ∨ ∃ B off, p = some ⟨B, off, none⟩ ∧ Hid (Row2 W B off ls) := hd
  have HSZ : Hid (gs < W1.heap.size ∧ ms < W1.heap.size ∧ W.heap.size ≤ W1.heap.size) := Lib.hid ⟨HS1.out.lt, HS1.out.set.lt, HB1.out.size⟩
  go_loopw [6, 14] (fun o i wr => ∃ (k : Nat) (L : List Idn) (rs : List Rw), i = .int .i64 k ∧ k ≤ n ∧ Hid (SetP wr gs ms L) ∧ Hid (Rows wr W1.heap.size o rs) ∧ Hid (Below W.heap.size W wr) ∧ Hid (W1.heap.size ≤ wr.heap.size) ∧ Hid (Trees nx (srt ls) (ls.take k) L (rs.map Prod.snd))) (fun _ i _ => n - (intOf i).toNat)
  case atStart => exact ⟨0, srt ls, [], rfl, Nat.zero_le _, HS1, Lib.hid (Rows.void _ _), HB1, Lib.hid (Nat.le_refl _), Lib.hid (by rw [List.take_zero]; exact .start)⟩
  case round =>
    clear hd
    obtain ⟨k, L, rs, rfl, hk, hS, hR, hB, hZ, hT⟩ := hrel
    have k0 : (0 : Int) ≤ k := by omega
    by_cases hkn : k < n
    · have kn : (k : Int) < n := by omega
      obtain ⟨B, off, rfl, HC⟩ := hd1.resolve_left (by omega)
      have hkl : k < ls.length := by rw [← HN.out]; exact hkn
      obtain ⟨⟨x, y⟩, hxy⟩ : ∃ z, nth ls k = z := ⟨_, rfl⟩
      have e0 := (HC.out.on hB.out).fst k hkl
      have e1 := (HC.out.on hB.out).snd k hkl
      rw [hxy] at e0 e1
      have hb1 := Cmd.below_one wr (.cells #[.int .i64 x, .int .i64 y] 43)
      have hx1 := heap_alloc_new wr (.cells #[.int .i64 x, .int .i64 y] 43)
      have b0 : (wr.alloc (.cells #[.int .i64 x, .int .i64 y] 43)).cell? ⟨wr.heap.size, 0, none⟩ = some (.int .i64 x) := cell_row (i := 0) hx1 rfl
      have b1 : (wr.alloc (.cells #[.int .i64 x, .int .i64 y] 43)).cell? ⟨wr.heap.size, 1, none⟩ = some (.int .i64 y) := cell_row (i := 1) hx1 rfl
      have hmem : (x, y) ∈ ls := by rw [← hxy]; exact nth_in hkl
      have HSX := Lib.hid (hS.out.on hb1)
      have HBX : Hid (Below W.heap.size W (wr.alloc (.cells #[.int .i64 x, .int .i64 y] 43))) := Lib.hid (hB.out.trans (hb1.mono hB.out.size))
      have HRX := Lib.hid (hR.out.below hb1)
      have HLT : Hid (ls.take (k + 1) = ls.take k ++ [(x, y)]) := Lib.hid (by
        rw [List.take_succ_eq_append_getElem hkl, ← hxy]
        unfold nth
        rw [List.getD_eq_getElem?_getD, List.getElem?_eq_getElem hkl]; rfl)
      have HRL : Hid (∀ r ∈ rs, ∀ j, (sliceOf r.1).ownBlock = some j → j < (wr.alloc (.cells #[.int .i64 x, .int .i64 y] 43)).heap.size) := Lib.hid fun r hr j e => (World.ownsRow.lt (HRX.out.row r hr) j e).2
      have HZX : Hid (W1.heap.size ≤ (wr.alloc (.cells #[.int .i64 x, .int .i64 y] 43)).heap.size) := Lib.hid (Nat.le_trans hZ.out hb1.size)
      have HRN : Hid (rs.length + 1 ≤ 1000000) := Lib.hid (by
        have h1 := trees_len hT.out
        rw [List.length_map, List.length_take] at h1
        omega)
      by_cases hin : (x, y) ∈ L
      · have HLL : Hid (L.length ≤ 100000) := Lib.hid (by
          have h1 := Ids.sub_len L (srt ls) (Ids.rise_nodup hS.out.set.rise) (Ids.rise_nodup (srt_rise _)) (trees_low hT.out)
          have h2 := srt_length ls
          have h3 := HN.out
          omega)
        have HTR := Lib.hid (tree_yes fn bs lb nx gs ms L x y _ HSX.out hin (HW.out _ hmem) HLL.out (HNx.out.at HBX.out HM1.out.2))
        clear hb1 hx1 hmem hkl hxy hS hR
        go_wp2_with (first
          | (go_at_call 84; (with_reducible refine HTR.out.mono ?_); rintro E w2 ⟨v2, gone, L', rfl, hc, hs2, hg2, ho2⟩; obtain ⟨p2, n2, c2, rfl⟩ := own_is ho2; have hn2 := rowat_len ho2.row; have hg0 := gone_pos hc; obtain ⟨n3, rfl⟩ : ∃ n3, n2 = n3 + 1 := ⟨n2 - 1, by omega⟩; have hp3 : (n3 : Int) + 1 > 0 := by omega
             have HC2 := Lib.hid hc; have HS2 := Lib.hid hs2; have HG2 := Lib.hid hg2; have HO2 := Lib.hid ho2; have HR2 := Lib.hid (HRX.out.map hg2 HSX.out.set.isMap)
             have HA2 := Lib.hid (rows_app (q := (p2, n3 + 1, c2)) (c := gone) HR2.out (Nat.le_trans HZX.out hg2.size) (own_mono ho2 HZX.out) HRL.out (fun j e => (World.ownsRow.lt ho2 j e).1) HRN.out)
             clear hc hs2 hg2 ho2 hn2 hg0)
          | (at_builtin; refine wp_app rfl _ _ 30 rfl _ _ rfl rfl HA2.out ?_; intro v4 w4 HV4)
          | fail)
        have hb2 : Below W.heap.size W w2 := HBX.out.trans (grown_belowT HG2.out HM1.out.2 HBX.out.size)
        have hb3 := Cmd.below_one w2 (.cells #[.slice p2 (n3 + 1) c2] 38)
        have hb3' := hb2.trans (hb3.mono hb2.size)
        have hR3 := HR2.out.below hb3
        have hz2 := HZX.out
        have hz3 := HG2.out.size
        have hz4 := HSZ.out
        have hb4 : Below W.heap.size W w4 := Below.grown hb3' HV4.out.2.1 hb3'.size (fun j e => by have := (World.ownsRow.lt hR3.own j e).1; omega)
        have hS4 : SetP w4 gs ms L' := setp_far (HS2.out.on hb3) HV4.out.2.1 (fun e => by have := (World.ownsRow.lt hR3.own _ e).1; omega) (fun e => by have := (World.ownsRow.lt hR3.own _ e).1; omega)
        go_roundw
        case rel => exact ⟨k + 1, L', rs ++ [((p2, n3 + 1, c2), gone)], by go_num, by omega, Lib.hid hS4, Lib.hid HV4.out.1, Lib.hid hb4, Lib.hid (Nat.le_trans (show W1.heap.size ≤ (w2.alloc (.cells #[.slice p2 (n3 + 1) c2] 38)).heap.size by have := hb3.size; omega) HV4.out.2.1.size), Lib.hid (by rw [HLT.out, List.map_append]; exact .tree hT.out HC2.out)⟩
        case measure => simp [intOf]; omega
      · have HTR := Lib.hid (tree_no fn bs lb gs ms L x y _ HSX.out hin (HW.out _ hmem))
        have HIN := Lib.hid hin
        have n00 : ¬ ((0 : Int) > 0) := by omega
        clear hb1 hx1 hmem hkl hxy hS hR hin
        go_wp2_with (first
          | (go_at_call 84; (with_reducible refine HTR.out.mono ?_); rintro E w2 ⟨rfl, hs2, hg2⟩; have HS2 := Lib.hid hs2; have HG2 := Lib.hid hg2; have HR2 := Lib.hid (HRX.out.map hg2 HSX.out.set.isMap); clear hs2 hg2)
          | fail)
        have hb2 : Below W.heap.size W w2 := HBX.out.trans (grown_belowT HG2.out HM1.out.2 HBX.out.size)
        go_roundw
        case rel => exact ⟨k + 1, L, rs, by go_num, by omega, HS2, HR2, Lib.hid hb2, Lib.hid (by have := HZX.out; have := HG2.out.size; omega), Lib.hid (by rw [HLT.out]; exact .none hT.out HIN.out)⟩
        case measure => simp [intOf]; omega
    · have kn : ¬ (k : Int) < n := by omega
      have hke : k = n := by omega
      go_wp2
      go_ret
      refine ⟨_, L, rs, rfl, hR.out.lower HSZ.out.2.2, ?_, hB.out⟩
      have h1 := hT.out
      rw [hke, HN.out, List.take_length] at h1
      exact h1
end Go.Proofs.YtjokejcokgeeiaaGreat.Cps
