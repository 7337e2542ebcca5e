/- Records that are mended (layer 20, premise): the document's Mend. Conditions: the records lie in memory as their cells say; texts of a length that Go reads; not more than 1000 records. -/
import Derived.Test.YtomidcbpnaajeaaGreatPreE
import Derived.Test.YtomidcbpnaajeaaGreatReg
namespace Go.Proofs.YtomidcbpnaajeaaGreat.Pre
open Go.RowKit Cmd Bat Ids Rec Wid Gra Cps
set_option linter.unusedVariables false
set_option linter.unusedSimpArgs false

theorem mend_batch : ∀ (fs acc : List Rcd), ∀ x ∈ fs.foldl mendS acc, x ∈ acc ∨ ∃ r ∈ fs, x.1 = r.1 ∧ x.2.2.2 = r.2.2.2
  | [], _, x, hx => .inl hx
  | r :: fs, acc, x, hx => by
    rcases mend_batch fs (mendS acc r) x hx with h | ⟨y, hy, h⟩
    · rcases List.mem_append.1 h with h | h
      · exact .inl h
      · rw [List.mem_singleton.1 h]
        exact .inr ⟨r, List.mem_cons_self, (grw_mend acc r).id, (grw_mend acc r).batch⟩
    · exact .inr ⟨y, List.mem_cons_of_mem _ hy, h⟩
theorem grown_reflP (w : World) (row : Option Nat) : w.grownBy w row := ⟨rfl, rfl, rfl, Nat.le_refl _, fun _ _ _ => rfl⟩
theorem mend_lenP : ∀ (fs acc : List Rcd), (fs.foldl mendS acc).length = acc.length + fs.length
  | [], acc => rfl
  | r :: fs, acc => by
    rw [List.foldl_cons, mend_lenP fs, List.length_cons]
    unfold mendS
    rw [List.length_append, List.length_singleton]; omega
theorem own_apartP {w : World} {base : Nat} {e : TypeId} {c n : Nat} {v : Value} {xs : List Value} (h : w.ownsRow base e c v n xs) {m : Nat} (hm : m < base) : v.ownBlock = none ∨ v.ownBlock ≠ some m := by
  cases hv : v.ownBlock with
  | none => exact .inl rfl
  | some g => exact .inr fun e => by injection e with e; have := (World.ownsRow.lt h g hv).1; omega
theorem grown_far {w A X : World} {row nb : Option Nat} (h : w.grownBy A row) (k : A.grownBy X nb) (hn : ∀ g, nb = some g → some g = row ∨ w.heap.size ≤ g) : w.grownBy X row := by
  refine ⟨k.os.trans h.os, k.tape.trans h.tape, k.output.trans h.output, Nat.le_trans h.size k.size, fun j hj hr => ?_⟩
  refine (k.block j (Nat.lt_of_lt_of_le hj h.size) fun e => ?_).trans (h.block j hj hr)
  rcases hn j e.symm with h1 | h1
  · exact hr h1
  · omega
/-- What stands between two records that are mended. -/
structure MS (w w1 W : World) (o : Value) (qs : List Raw) (out : List Rcd) : Prop where
  raws : RawsS w W o qs out
  kept : w1.grownBy W (some w.heap.size)
  far : ∀ g, o.ownBlock = some g → g = w.heap.size ∨ w1.heap.size ≤ g
abbrev SlP := Option Addr × Nat × Nat
/-- What stands while one record is mended: its box, its Deps, how far it is. -/
structure MB (w0 X : World) (bx : Nat) (nb : Option Nat) (a b q : Int) (cq : SlP) (r0 : Rcd) (out : List Rcd) (t : Nat) (dq : SlP) (ds : List Idn) : Prop where
  low : Below bx w0 X
  box : X.heap[bx]? = some (.cells #[.int .i64 a, .int .i64 b, .int .i64 q, sliceOf dq, sliceOf cq] 42 (0, 0))
  rd : RowAt X (sliceOf dq) ds
  fd : ds ≠ [] → ∀ g, (sliceOf dq).ownBlock = some g → g ≠ bx ∧ nb ≠ some g
  is : ((a, b), q, ds, r0.2.2.2) = (out.take t).foldl addD r0
set_option maxRecDepth 100000 in
set_option maxHeartbeats 16000000 in
theorem refmend_any (v : Value) (rs : List Rcd) (w : World) (h : layG.Row w v rs) (hl : rs.length ≤ 1000) (hw : ∀ r ∈ rs, wfG r) : Calls Tryz.prog 18 #[v] w (GivesRecs (mendG rs) w) := by
  have HFi := Lib.hid (reffine_any v rs w (w.alloc (.cells #[] 42)) h (Cmd.below_one w _) (by omega) hw)
  have R0 : Hid (RawsS w (w.alloc (.cells #[] 42)) (.slice (some ⟨w.heap.size, 0, none⟩) 0 0) [] []) := Lib.hid (RawsS.void (Below.refl _ _))
  have HT : Hid ((fineG rs).foldl mendS [] = mendG rs) := Lib.hid rfl
  have HFL : Hid ((fineG rs).length ≤ 1000) := Lib.hid (Nat.le_trans (fine_len rs) hl)
  have HFW : Hid (∀ x ∈ fineG rs, wfG x) := Lib.hid (fun x hx => hw x (fine_sub rs x hx))
  have HOk : Hid (∀ x ∈ fineG rs, OkR x) := Lib.hid (fine_ok rs).1
  unfold GivesFine at HFi
  generalize fineG rs = F at HFi HT HFL HFW HOk
  generalize mendG rs = M at HT ⊢
  clear h hl hw
  go_enter Tryz.func18, Tryz.ntmps18
  go_wp2_with (first
    | (go_at_call 35; ((with_reducible refine HFi.out.mono ?_); rintro E w1 ⟨vf, qf, rfl, hf⟩; have HF1 := Lib.hid hf; clear hf)))
  obtain ⟨pf, cf, rfl, hlf, -⟩ := Lay.Row.parts (Wd.Own.row HF1.out.raws.own)
  obtain ⟨m, hm⟩ : ∃ m, m = qf.length := ⟨_, rfl⟩
  rw [← hm] at HF1 hlf ⊢
  have HM := Lib.hid hm
  have HMF : Hid (m = F.length) := Lib.hid (hm.trans HF1.out.raws.len)
  have hm1 : m ≤ 1000 := by have := HFL.out; have := HMF.out; omega
  have M0 : Hid (MS w w1 w1 (.slice (some ⟨w.heap.size, 0, none⟩) 0 0) [] []) := Lib.hid ⟨R0.out.on HF1.out.raws.below, grown_reflP _ _, fun g hg => by injection hg with hg; exact .inl hg.symm⟩
  clear hm R0 HFi
  go_loopw [3, 5] (fun o i wr => ∃ (k : Nat) (qs : List Raw), k ≤ m ∧ i = .int .i64 k ∧ Hid (MS w w1 wr o qs ((F.take k).foldl mendS []))) (fun _ i _ => m - (intOf i).toNat)
  case atStart => exact ⟨0, [], Nat.zero_le _, rfl, M0⟩
  case round =>
    clear M0
    obtain ⟨k, qs, hk, rfl, HO⟩ := hrel
    have k0 : (0 : Int) ≤ k := by omega
    by_cases hkm : k < m
    · have km : (k : Int) < m := by omega
      have hkf : k < qf.length := by rw [← HM.out]; exact hkm
      have hkF : k < F.length := by rw [← HMF.out]; exact hkm
      have HS : Hid ((F.take (k + 1)).foldl mendS [] = mendS ((F.take k).foldl mendS []) (layG.at F k)) := Lib.hid (fold_take (L := layG) hkF)
      have HOW : Hid (∀ x ∈ (F.take k).foldl mendS [], ∀ c ∈ x.2.2.2, wfC c) := Lib.hid fun x hx c hc => by
        rcases mend_batch _ _ x hx with h | ⟨r, hr, -, e⟩
        · cases h
        · rw [e] at hc; exact (HFW.out r (List.mem_of_mem_take hr)).batch c hc
      have HOL : Hid (((F.take k).foldl mendS []).length ≤ 1000) := Lib.hid (by
        have h1 := mend_lenP (F.take k) []
        rw [List.length_take] at h1
        have h2 := HFL.out
        simp only [List.length_nil, Nat.zero_add] at h1
        omega)
      obtain ⟨out, hout⟩ : ∃ out, out = (F.take k).foldl mendS [] := ⟨_, rfl⟩
      rw [← hout] at HO HS HOW HOL
      clear hout
      have hown := World.ownsRow.kept HF1.out.raws.own HO.out.kept (own_apartP HF1.out.raws.own (by simp))
      obtain ⟨p', c', e', -, hdd⟩ := Lay.Row.parts (Wd.Own.row hown)
      have ep : pf = p' := by injection e'
      subst ep
      clear e'
      obtain ⟨Bf, of, rfl, HCf⟩ := hdd.resolve_left (by omega)
      have hraws := HF1.out.raws.is k hkF
      have hlow := HF1.out.low k hkF
      have hc : layRaw.lies wr Bf (of + k * 5) (layRaw.at qf k) := HCf.out.cell k hkf
      have hx := HFW.out _ (layG.at_mem hkF)
      have hok := HOk.out _ (layG.at_mem hkF)
      obtain ⟨⟨⟨a, b⟩, q, ⟨pd, ld, cd⟩, ⟨pc, lc, cc⟩⟩, hraw⟩ : ∃ r, layRaw.at qf k = r := ⟨_, rfl⟩
      rw [hraw] at hraws hlow hc
      obtain ⟨⟨⟨a', b'⟩, q', ds0, cs⟩, hx0⟩ : ∃ x, layG.at F k = x := ⟨_, rfl⟩
      rw [hx0] at hraws hlow hx hok HS
      obtain ⟨rfl, rfl⟩ : a = a' ∧ b = b' := by have := hraws.id; injection this with h1 h2; exact ⟨h1, h2⟩
      obtain rfl : q = q' := hraws.seq
      obtain ⟨c0, c1, c2, c3, c4⟩ := hc
      change wr.cell? ⟨Bf, of + k * 5, none⟩ = some (.int .i64 a) at c0
      change wr.cell? ⟨Bf, of + k * 5 + 1, none⟩ = some (.int .i64 b) at c1
      change wr.cell? ⟨Bf, of + k * 5 + 2, none⟩ = some (.int .i64 q) at c2
      change wr.cell? ⟨Bf, of + k * 5 + 3, none⟩ = some (.slice pd ld cd) at c3
      change wr.cell? ⟨Bf, of + k * 5 + 4, none⟩ = some (.slice pc lc cc) at c4
      have HRD : Hid (RowAt w (.slice pd ld cd) ds0 ∧ layC.Row w (.slice pc lc cc) cs) := Lib.hid hlow
      have HWX := Lib.hid hx
      have HOX := Lib.hid hok
      clear hraws hlow hx hok hraw hx0 hown HCf hkf hkF hdd
      obtain ⟨po, co, rfl, hlo, -⟩ := HO.out.raws.row.parts
      obtain ⟨mo, hmo⟩ : ∃ mo, mo = out.length := ⟨_, rfl⟩
      rw [← hmo] at HO HOL hlo ⊢
      have HMO := Lib.hid hmo
      have hmo1 : mo ≤ 1000 := HOL.out
      obtain ⟨wq, hwq⟩ : ∃ wq, wq = wr := ⟨_, rfl⟩
      subst hwq
      have hbA := Cmd.below_one wq (.cells #[.int .i64 a, .int .i64 b, .int .i64 q, .slice pd ld cd, .slice pc lc cc] 42)
      have MB0 : Hid (MB wq (wq.alloc (.cells #[.int .i64 a, .int .i64 b, .int .i64 q, .slice pd ld cd, .slice pc lc cc] 42)) wq.heap.size (Value.slice po mo co).ownBlock a b q (pc, lc, cc) ((a, b), q, ds0, cs) out 0 (pd, ld, cd) ds0) := Lib.hid ⟨hbA, heap_alloc_new wq _, HRD.out.1.on (HO.out.raws.below.trans (hbA.mono HO.out.raws.below.size)), fun hz g hg => (by
        have h1 := rowat_low HRD.out.1 hz hg
        have h2 := HO.out.raws.below.size
        exact ⟨by omega, fun e => by have := (World.ownsRow.lt HO.out.raws.own g e).1; omega⟩), rfl⟩
      clear hbA hmo
      go_wp2
      go_loopw [7] (fun i X => ∃ (t : Nat) (dq : SlP) (ds : List Idn), t ≤ mo ∧ i = .int .i64 t ∧ Hid (MB wq X wq.heap.size (Value.slice po mo co).ownBlock a b q (pc, lc, cc) ((a, b), q, ds0, cs) out t dq ds)) (fun i _ => mo - (intOf i).toNat)
      case atStart => exact ⟨0, _, _, Nat.zero_le _, rfl, MB0⟩
      case round =>
        clear MB0 c0 c1 c2 c3 c4
        obtain ⟨t, ⟨pr, lr, cr⟩, dr, ht, rfl, HB⟩ := hrel
        have t0 : (0 : Int) ≤ t := by omega
        have HOX := Lib.hid (HO.out.raws.on HB.out.low)
        have e0 := cell_row (i := 0) HB.out.box rfl
        have e1 := cell_row (i := 1) HB.out.box rfl
        have e2 := cell_row (i := 2) HB.out.box rfl
        have e3 := cell_row (i := 3) HB.out.box rfl
        have e4 := cell_row (i := 4) HB.out.box rfl
        change wr.cell? ⟨wq.heap.size, 3, none⟩ = some (.slice pr lr cr) at e3
        change wr.cell? ⟨wq.heap.size, 4, none⟩ = some (.slice pc lc cc) at e4
        have hbx : wq.heap.size < wr.heap.size := (Array.getElem?_eq_some_iff.1 HB.out.box).1
        by_cases htm : t < mo
        · have tm : (t : Int) < mo := by omega
          have hto : t < out.length := by rw [← HMO.out]; exact htm
          obtain ⟨p', c', e', -, hdo⟩ := HOX.out.row.parts
          have ep : po = p' := by injection e'
          subst ep
          clear e'
          obtain ⟨Bo, oo, rfl, HCo⟩ := hdo.resolve_left (by omega)
          obtain ⟨⟨⟨a2, b2⟩, q2, ds2, cs2⟩, hr2⟩ : ∃ r, layG.at out t = r := ⟨_, rfl⟩
          obtain ⟨p2, k2, p2', k2', A2, -, -⟩ := rcdAt HCo.out hto hr2
          have hw2 := HOW.out _ (layG.at_mem hto)
          rw [hr2] at hw2
          have HST : Hid ((out.take (t + 1)).foldl addD ((a, b), q, ds0, cs) = addD ((a, b), q, dr, cs) ((a2, b2), q2, ds2, cs2)) := Lib.hid (by rw [fold_take (L := layG) hto, ← HB.out.is, hr2])
          have hlr : lr = dr.length := by obtain ⟨p', cap', e, -⟩ := row_slice HB.out.rd; injection e
          have HLR := Lib.hid hlr
          have HBo : Hid (Bo < wq.heap.size) := Lib.hid (World.ownsRow.lt HO.out.raws.own Bo rfl).2
          obtain ⟨l2, hl2⟩ : ∃ l, l = ds2.length := ⟨_, rfl⟩
          obtain ⟨m2, hm2⟩ : ∃ l, l = cs2.length := ⟨_, rfl⟩
          rw [← hl2, ← hm2] at A2
          have HS2 : Hid (∀ w', Below wr.heap.size wr w' → (w'.cell? ⟨wq.heap.size, 0, none⟩ = some (.int .i64 a) ∧ w'.cell? ⟨wq.heap.size, 1, none⟩ = some (.int .i64 b) ∧ w'.cell? ⟨wq.heap.size, 2, none⟩ = some (.int .i64 q) ∧ w'.cell? ⟨wq.heap.size, 3, none⟩ = some (.slice pr lr cr) ∧ w'.cell? ⟨wq.heap.size, 4, none⟩ = some (.slice pc lc cc)) ∧ w'.cell? ⟨Bo, oo + t * 5, none⟩ = some (.int .i64 a2) ∧ w'.cell? ⟨Bo, oo + t * 5 + 1, none⟩ = some (.int .i64 b2) ∧ w'.cell? ⟨Bo, oo + t * 5 + 2, none⟩ = some (.int .i64 q2) ∧ w'.cell? ⟨Bo, oo + t * 5 + 3, none⟩ = some (.slice p2 l2 k2) ∧ w'.cell? ⟨Bo, oo + t * 5 + 4, none⟩ = some (.slice p2' m2 k2')) := Lib.hid (fun w' hw => by
            have r2 := A2.on hw
            exact ⟨⟨(hw.cell (p := ⟨wq.heap.size, 0, none⟩) hbx).trans e0, (hw.cell (p := ⟨wq.heap.size, 1, none⟩) hbx).trans e1, (hw.cell (p := ⟨wq.heap.size, 2, none⟩) hbx).trans e2, (hw.cell (p := ⟨wq.heap.size, 3, none⟩) hbx).trans e3, (hw.cell (p := ⟨wq.heap.size, 4, none⟩) hbx).trans e4⟩, r2.c0, r2.c1, r2.c2, r2.c3, r2.c4⟩)
          have CL := Lib.hid (fun W (hb : Below wr.heap.size wr W) => reflacks_any a b q (.slice pr lr cr) (.slice pc lc cc) a2 b2 q2 (.slice p2 l2 k2) (.slice p2' m2 k2') dr ds2 cs cs2 W (HB.out.rd.on hb) (HRD.out.2.on (HOX.out.below.trans (hb.mono HOX.out.below.size))) (A2.on hb).rd (A2.on hb).rc HWX.out.batch hw2)
          have CP := Lib.hid (fun W (hb : Below wr.heap.size wr W) (h16 : lr < 16) => putW_any (.slice pr lr cr) dr a2 b2 W (HB.out.rd.on hb) (by rw [← HLR.out]; omega))
          obtain ⟨lk, hlk⟩ : ∃ x, x = lackR ((a, b), q, dr, cs) ((a2, b2), q2, ds2, cs2) := ⟨_, rfl⟩
          rw [← hlk] at CL
          have HLK := Lib.hid hlk
          have DY0 : Hid (Below wr.heap.size wr wr.drew) := Lib.hid (Below.refl _ _).drew
          clear hlk A2 hw2 hr2 hl2 hm2 hto hdo HCo e0 e1 e2 e3 e4 hlr
          cases lk
          · go_wp2_with fail
            refine wp_region_held_drew (S := (fun w' => (w'.cell? ⟨wq.heap.size, 0, none⟩ = some (.int .i64 a) ∧ w'.cell? ⟨wq.heap.size, 1, none⟩ = some (.int .i64 b) ∧ w'.cell? ⟨wq.heap.size, 2, none⟩ = some (.int .i64 q) ∧ w'.cell? ⟨wq.heap.size, 3, none⟩ = some (.slice pr lr cr) ∧ w'.cell? ⟨wq.heap.size, 4, none⟩ = some (.slice pc lc cc)) ∧ w'.cell? ⟨Bo, oo + t * 5, none⟩ = some (.int .i64 a2) ∧ w'.cell? ⟨Bo, oo + t * 5 + 1, none⟩ = some (.int .i64 b2) ∧ w'.cell? ⟨Bo, oo + t * 5 + 2, none⟩ = some (.int .i64 q2) ∧ w'.cell? ⟨Bo, oo + t * 5 + 3, none⟩ = some (.slice p2 l2 k2) ∧ w'.cell? ⟨Bo, oo + t * 5 + 4, none⟩ = some (.slice p2' m2 k2'))) (by kernel_rfl) (HS2.out _ DY0.out) (fun hHeld => ?_)
            generalize wr.drew = Y0 at DY0 hHeld ⊢
            refine ty (v := ?_) 0 (fun w hSw => ?_) ?_
            rotate_left
            · (try dsimp only at hSw); go_simp; (try with_reducible rfl)
            try simp only [List.getElem_toArray, List.getElem_cons_succ, List.getElem_cons_zero, Act.put, List.setIfInBounds_toArray, List.set_cons_zero, List.set_cons_succ]
            refine ty (v := ?_) 1 (fun w hSw => ?_) ?_
            rotate_left
            · (try dsimp only at hSw); go_simp; (try with_reducible rfl)
            try simp only [List.getElem_toArray, List.getElem_cons_succ, List.getElem_cons_zero, Act.put, List.setIfInBounds_toArray, List.set_cons_zero, List.set_cons_succ]
            refine ty (v := ?_) 2 (fun w hSw => ?_) ?_
            rotate_left
            · (try dsimp only at hSw); go_simp; (try with_reducible rfl)
            try simp only [List.getElem_toArray, List.getElem_cons_succ, List.getElem_cons_zero, Act.put, List.setIfInBounds_toArray, List.set_cons_zero, List.set_cons_succ]
            refine ty (v := ?_) 3 (fun w hSw => ?_) ?_
            rotate_left
            · (try dsimp only at hSw); go_simp; (try with_reducible rfl)
            try simp only [List.getElem_toArray, List.getElem_cons_succ, List.getElem_cons_zero, Act.put, List.setIfInBounds_toArray, List.set_cons_zero, List.set_cons_succ]
            refine ty (v := ?_) 4 (fun w hSw => ?_) ?_
            rotate_left
            · (try dsimp only at hSw); go_simp; (try with_reducible rfl)
            try simp only [List.getElem_toArray, List.getElem_cons_succ, List.getElem_cons_zero, Act.put, List.setIfInBounds_toArray, List.set_cons_zero, List.set_cons_succ]
            refine tr 5 (fun K hK => ?_)
            go_simp
            (go_at_call 28; ((with_reducible refine (CL.out _ DY0.out).mono ?_); rintro E Y1 ⟨rfl, hb⟩; have DY1 := Lib.hid (DY0.out.trans (hb.mono DY0.out.size)); clear hb))
            refine hK.out _ _ ?_ (fun hHeld => ?_)
            · exact HS2.out _ DY1.out
            clear hK K
            try simp only [List.getElem_toArray, List.getElem_cons_succ, List.getElem_cons_zero, Act.put, List.setIfInBounds_toArray, List.set_cons_zero, List.set_cons_succ]
            refine ty (v := ?_) 6 (fun w hSw => ?_) ?_
            rotate_left
            · (try dsimp only at hSw); go_simp; (try with_reducible rfl)
            try simp only [List.getElem_toArray, List.getElem_cons_succ, List.getElem_cons_zero, Act.put, List.setIfInBounds_toArray, List.set_cons_zero, List.set_cons_succ]
            refine ts 7 ?_
            try simp only [List.getElem_toArray, List.getElem_cons_succ, List.getElem_cons_zero, Act.put, List.setIfInBounds_toArray, List.set_cons_zero, List.set_cons_succ]
            refine ts 8 ?_
            try simp only [List.getElem_toArray, List.getElem_cons_succ, List.getElem_cons_zero, Act.put, List.setIfInBounds_toArray, List.set_cons_zero, List.set_cons_succ]
            refine ts 9 ?_
            try simp only [List.getElem_toArray, List.getElem_cons_succ, List.getElem_cons_zero, Act.put, List.setIfInBounds_toArray, List.set_cons_zero, List.set_cons_succ]
            refine ts 10 ?_
            try simp only [List.getElem_toArray, List.getElem_cons_succ, List.getElem_cons_zero, Act.put, List.setIfInBounds_toArray, List.set_cons_zero, List.set_cons_succ]
            refine ty (v := ?_) 11 (fun w hSw => ?_) ?_
            rotate_left
            · (try dsimp only at hSw); go_simp; (try with_reducible rfl)
            try simp only [List.getElem_toArray, List.getElem_cons_succ, List.getElem_cons_zero, Act.put, List.setIfInBounds_toArray, List.set_cons_zero, List.set_cons_succ]
            refine wpAnyH_done (by kernel_rfl) ?_ _
            go_wp2
            go_roundw
            case rel => exact ⟨t + 1, _, _, by omega, by go_num, Lib.hid ⟨HB.out.low.trans (DY1.out.mono HB.out.low.size), (DY1.out.block _ hbx).trans HB.out.box, HB.out.rd.on DY1.out, HB.out.fd, by rw [HST.out]; unfold addD; rw [if_neg (fun h => by rw [← HLK.out] at h; exact absurd h.1 (by decide))]⟩⟩
            case measure => simp [intOf]; omega
          · by_cases h16 : lr < 16
            · have q16 : decide ((lr : Int) < 16) = true := decide_eq_true (by omega)
              have i16 : (lr : Int) < 16 := by omega
              go_wp2_with fail
              refine wp_region_held_drew (S := (fun w' => (w'.cell? ⟨wq.heap.size, 0, none⟩ = some (.int .i64 a) ∧ w'.cell? ⟨wq.heap.size, 1, none⟩ = some (.int .i64 b) ∧ w'.cell? ⟨wq.heap.size, 2, none⟩ = some (.int .i64 q) ∧ w'.cell? ⟨wq.heap.size, 3, none⟩ = some (.slice pr lr cr) ∧ w'.cell? ⟨wq.heap.size, 4, none⟩ = some (.slice pc lc cc)) ∧ w'.cell? ⟨Bo, oo + t * 5, none⟩ = some (.int .i64 a2) ∧ w'.cell? ⟨Bo, oo + t * 5 + 1, none⟩ = some (.int .i64 b2) ∧ w'.cell? ⟨Bo, oo + t * 5 + 2, none⟩ = some (.int .i64 q2) ∧ w'.cell? ⟨Bo, oo + t * 5 + 3, none⟩ = some (.slice p2 l2 k2) ∧ w'.cell? ⟨Bo, oo + t * 5 + 4, none⟩ = some (.slice p2' m2 k2'))) (by kernel_rfl) (HS2.out _ DY0.out) (fun hHeld => ?_)
              generalize wr.drew = Y0 at DY0 hHeld ⊢
              refine ty (v := ?_) 0 (fun w hSw => ?_) ?_
              rotate_left
              · (try dsimp only at hSw); go_simp; (try with_reducible rfl)
              try simp only [List.getElem_toArray, List.getElem_cons_succ, List.getElem_cons_zero, Act.put, List.setIfInBounds_toArray, List.set_cons_zero, List.set_cons_succ]
              refine ty (v := ?_) 1 (fun w hSw => ?_) ?_
              rotate_left
              · (try dsimp only at hSw); go_simp; (try with_reducible rfl)
              try simp only [List.getElem_toArray, List.getElem_cons_succ, List.getElem_cons_zero, Act.put, List.setIfInBounds_toArray, List.set_cons_zero, List.set_cons_succ]
              refine ty (v := ?_) 2 (fun w hSw => ?_) ?_
              rotate_left
              · (try dsimp only at hSw); go_simp; (try with_reducible rfl)
              try simp only [List.getElem_toArray, List.getElem_cons_succ, List.getElem_cons_zero, Act.put, List.setIfInBounds_toArray, List.set_cons_zero, List.set_cons_succ]
              refine ty (v := ?_) 3 (fun w hSw => ?_) ?_
              rotate_left
              · (try dsimp only at hSw); go_simp; (try with_reducible rfl)
              try simp only [List.getElem_toArray, List.getElem_cons_succ, List.getElem_cons_zero, Act.put, List.setIfInBounds_toArray, List.set_cons_zero, List.set_cons_succ]
              refine ty (v := ?_) 4 (fun w hSw => ?_) ?_
              rotate_left
              · (try dsimp only at hSw); go_simp; (try with_reducible rfl)
              try simp only [List.getElem_toArray, List.getElem_cons_succ, List.getElem_cons_zero, Act.put, List.setIfInBounds_toArray, List.set_cons_zero, List.set_cons_succ]
              refine tr 5 (fun K hK => ?_)
              go_simp
              (go_at_call 28; ((with_reducible refine (CL.out _ DY0.out).mono ?_); rintro E Y1 ⟨rfl, hb⟩; have DY1 := Lib.hid (DY0.out.trans (hb.mono DY0.out.size)); clear hb))
              refine hK.out _ _ ?_ (fun hHeld => ?_)
              · exact HS2.out _ DY1.out
              clear hK K
              try simp only [List.getElem_toArray, List.getElem_cons_succ, List.getElem_cons_zero, Act.put, List.setIfInBounds_toArray, List.set_cons_zero, List.set_cons_succ]
              refine ty (v := ?_) 6 (fun w hSw => ?_) ?_
              rotate_left
              · (try dsimp only at hSw); go_simp; (try with_reducible rfl)
              try simp only [List.getElem_toArray, List.getElem_cons_succ, List.getElem_cons_zero, Act.put, List.setIfInBounds_toArray, List.set_cons_zero, List.set_cons_succ]
              refine ty (v := ?_) 7 (fun w hSw => ?_) ?_
              rotate_left
              · (try dsimp only at hSw); go_simp; (try with_reducible rfl)
              try simp only [List.getElem_toArray, List.getElem_cons_succ, List.getElem_cons_zero, Act.put, List.setIfInBounds_toArray, List.set_cons_zero, List.set_cons_succ]
              refine ty (v := ?_) 8 (fun w hSw => ?_) ?_
              rotate_left
              · (try dsimp only at hSw); go_simp; (try with_reducible rfl)
              try simp only [List.getElem_toArray, List.getElem_cons_succ, List.getElem_cons_zero, Act.put, List.setIfInBounds_toArray, List.set_cons_zero, List.set_cons_succ]
              refine ty (v := ?_) 9 (fun w hSw => ?_) ?_
              rotate_left
              · (try dsimp only at hSw); go_simp; (try with_reducible rfl)
              try simp only [List.getElem_toArray, List.getElem_cons_succ, List.getElem_cons_zero, Act.put, List.setIfInBounds_toArray, List.set_cons_zero, List.set_cons_succ]
              refine ty (v := ?_) 10 (fun w hSw => ?_) ?_
              rotate_left
              · (try dsimp only at hSw); go_simp; (try with_reducible rfl)
              try simp only [List.getElem_toArray, List.getElem_cons_succ, List.getElem_cons_zero, Act.put, List.setIfInBounds_toArray, List.set_cons_zero, List.set_cons_succ]
              refine ty (v := ?_) 11 (fun w hSw => ?_) ?_
              rotate_left
              · (try dsimp only at hSw); go_simp; (try with_reducible rfl)
              try simp only [List.getElem_toArray, List.getElem_cons_succ, List.getElem_cons_zero, Act.put, List.setIfInBounds_toArray, List.set_cons_zero, List.set_cons_succ]
              refine wpAnyH_done (by kernel_rfl) ?_ _
              clear DY0 hHeld
              have DY2 : Hid (Below wr.heap.size wr Y1.drew) := Lib.hid DY1.out.drew
              go_wp2_with fail
              refine wp_region_held_drew (S := (fun w' => w'.cell? ⟨Bo, oo + t * 5, none⟩ = some (.int .i64 a2) ∧ w'.cell? ⟨Bo, oo + t * 5 + 1, none⟩ = some (.int .i64 b2))) (by kernel_rfl) ((HS2.out _ DY2.out).2.imp id (fun h => h.1)) (fun hHeld => ?_)
              generalize Y1.drew = Y2 at DY2 hHeld ⊢
              obtain ⟨⟨-, -, -, f3, -⟩, -⟩ := HS2.out _ DY2.out
              refine ty (v := ?_) 0 (fun w hSw => ?_) ?_
              rotate_left
              · (try dsimp only at hSw); go_simp; (try with_reducible rfl)
              try simp only [List.getElem_toArray, List.getElem_cons_succ, List.getElem_cons_zero, Act.put, List.setIfInBounds_toArray, List.set_cons_zero, List.set_cons_succ]
              refine ty (v := ?_) 2 (fun w hSw => ?_) ?_
              rotate_left
              · (try dsimp only at hSw); go_simp; (try with_reducible rfl)
              try simp only [List.getElem_toArray, List.getElem_cons_succ, List.getElem_cons_zero, Act.put, List.setIfInBounds_toArray, List.set_cons_zero, List.set_cons_succ]
              refine ty (v := ?_) 3 (fun w hSw => ?_) ?_
              rotate_left
              · (try dsimp only at hSw); go_simp; (try with_reducible rfl)
              try simp only [List.getElem_toArray, List.getElem_cons_succ, List.getElem_cons_zero, Act.put, List.setIfInBounds_toArray, List.set_cons_zero, List.set_cons_succ]
              refine ty (v := ?_) 4 (fun w hSw => ?_) ?_
              rotate_left
              · (try dsimp only at hSw); go_simp; (try with_reducible rfl)
              try simp only [List.getElem_toArray, List.getElem_cons_succ, List.getElem_cons_zero, Act.put, List.setIfInBounds_toArray, List.set_cons_zero, List.set_cons_succ]
              refine ty (v := ?_) 5 (fun w hSw => ?_) ?_
              rotate_left
              · (try dsimp only at hSw); go_simp; (try with_reducible rfl)
              try simp only [List.getElem_toArray, List.getElem_cons_succ, List.getElem_cons_zero, Act.put, List.setIfInBounds_toArray, List.set_cons_zero, List.set_cons_succ]
              refine ty (v := ?_) 6 (fun w hSw => ?_) ?_
              rotate_left
              · (try dsimp only at hSw); go_simp; (try with_reducible rfl)
              try simp only [List.getElem_toArray, List.getElem_cons_succ, List.getElem_cons_zero, Act.put, List.setIfInBounds_toArray, List.set_cons_zero, List.set_cons_succ]
              refine tr 1 (fun K hK => ?_)
              go_simp
              refine hK.out _ _ ?_ (fun hHeld => ?_)
              · exact hHeld
              clear hK K
              try simp only [List.getElem_toArray, List.getElem_cons_succ, List.getElem_cons_zero, Act.put, List.setIfInBounds_toArray, List.set_cons_zero, List.set_cons_succ]
              refine tr 7 (fun K hK => ?_)
              go_simp
              (go_at_call 36; ((with_reducible refine (CP.out _ DY2.out h16).mono ?_); rintro E Y3 ⟨u, rfl, hu, hb, hn⟩; have DY3 := Lib.hid (DY2.out.trans (hb.mono DY2.out.size)); have HU := Lib.hid hu; have HN := Lib.hid hn; clear hb hu hn))
              refine hK.out _ _ ?_ (fun hHeld => ?_)
              · exact (HS2.out _ DY3.out).2.imp id (fun h => h.1)
              clear hK K
              try simp only [List.getElem_toArray, List.getElem_cons_succ, List.getElem_cons_zero, Act.put, List.setIfInBounds_toArray, List.set_cons_zero, List.set_cons_succ]
              refine ty (v := ?_) 8 (fun w hSw => ?_) ?_
              rotate_left
              · (try dsimp only at hSw); go_simp; (try with_reducible rfl)
              try simp only [List.getElem_toArray, List.getElem_cons_succ, List.getElem_cons_zero, Act.put, List.setIfInBounds_toArray, List.set_cons_zero, List.set_cons_succ]
              obtain ⟨pu, cu, rfl, -, -⟩ := row_slice HU.out
              have hbox := (DY3.out.block _ hbx).trans HB.out.box
              have ff : Y3.frozen? ⟨wq.heap.size, 3, none⟩ = false := free_row hbox
              have fc : Y3.cell? ⟨wq.heap.size, 3, none⟩ = some (.slice pr lr cr) := cell_row (i := 3) hbox rfl
              have HSt : Hid ((Y3.setCell ⟨wq.heap.size, 3, none⟩ (.slice pu (put dr (a2, b2)).length cu)).cell? ⟨Bo, oo + t * 5, none⟩ = some (.int .i64 a2) ∧ (Y3.setCell ⟨wq.heap.size, 3, none⟩ (.slice pu (put dr (a2, b2)).length cu)).cell? ⟨Bo, oo + t * 5 + 1, none⟩ = some (.int .i64 b2)) := Lib.hid (by
                have hb := heap_setCell_other Y3 ⟨wq.heap.size, 3, none⟩ Bo (.slice pu (put dr (a2, b2)).length cu) (by show Bo ≠ wq.heap.size; have := HBo.out; omega)
                have h2 := (HS2.out _ DY3.out).2
                exact ⟨(World.cell?_of_block (a := ⟨Bo, oo + t * 5, none⟩) hb).trans h2.1, (World.cell?_of_block (a := ⟨Bo, oo + t * 5 + 1, none⟩) hb).trans h2.2.1⟩)
              have HNext : Hid (MB wq (Y3.setCell ⟨wq.heap.size, 3, none⟩ (.slice pu (put dr (a2, b2)).length cu)) wq.heap.size (Value.slice (some ⟨Bo, oo, none⟩) mo co).ownBlock a b q (pc, lc, cc) ((a, b), q, ds0, cs) out (t + 1) (pu, (put dr (a2, b2)).length, cu) (put dr (a2, b2))) := Lib.hid (by
                have hf : put dr (a2, b2) ≠ [] → ∀ g, (Value.slice pu (put dr (a2, b2)).length cu).ownBlock = some g → g ≠ wq.heap.size ∧ (Value.slice (some ⟨Bo, oo, none⟩) mo co).ownBlock ≠ some g := fun hz g hg => by
                  rcases HN.out with e | hn
                  · have hg2 : (Value.slice pr lr cr).ownBlock = some g := by rw [← e]; exact hg
                    refine HB.out.fd (fun h0 => ?_) g hg2
                    have hl : (put dr (a2, b2)).length = lr := by injection e
                    exact hz (List.eq_nil_of_length_eq_zero (hl.trans (HLR.out.trans (by rw [h0]; rfl))))
                  · have h1 := hn g hg
                    have h2 := DY2.out.size
                    have h3 := HBo.out
                    exact ⟨by omega, fun e => by injection e with e; have e : Bo = g := e; omega⟩
                refine ⟨(HB.out.low.trans (DY3.out.mono HB.out.low.size)).setCell (p := ⟨wq.heap.size, 3, none⟩) (Nat.le_refl _) _, heap_setCell_same Y3 wq.heap.size 3 _ _ _ hbox, rowat_farP HU.out (row := some wq.heap.size) ⟨rfl, rfl, rfl, by simp, fun j hj hne => heap_setCell_other _ ⟨wq.heap.size, 3, none⟩ j _ (fun e => hne (by simp [e]))⟩ (fun hz g hg e => (hf hz g hg).1 (by injection e with e; exact e.symm)), hf, ?_⟩
                rw [HST.out]; unfold addD
                rw [if_pos ⟨HLK.out.symm, (show dr.length < 16 by rw [← HLR.out]; exact h16)⟩])
              refine tr 9 (fun K hK => ?_)
              go_simp
              refine hK.out _ _ ?_ (fun hHeld => ?_)
              · exact HSt.out
              clear hK K
              try simp only [List.getElem_toArray, List.getElem_cons_succ, List.getElem_cons_zero, Act.put, List.setIfInBounds_toArray, List.set_cons_zero, List.set_cons_succ]
              refine wpAnyH_done (by kernel_rfl) ?_ _
              go_wp2
              go_roundw
              case rel => exact ⟨t + 1, _, _, by omega, by go_num, HNext⟩
              case measure => simp [intOf]; omega
            · have q16 : decide ((lr : Int) < 16) = false := decide_eq_false (by omega)
              have i16 : ¬ (lr : Int) < 16 := by omega
              go_wp2_with fail
              refine wp_region_held_drew (S := (fun w' => (w'.cell? ⟨wq.heap.size, 0, none⟩ = some (.int .i64 a) ∧ w'.cell? ⟨wq.heap.size, 1, none⟩ = some (.int .i64 b) ∧ w'.cell? ⟨wq.heap.size, 2, none⟩ = some (.int .i64 q) ∧ w'.cell? ⟨wq.heap.size, 3, none⟩ = some (.slice pr lr cr) ∧ w'.cell? ⟨wq.heap.size, 4, none⟩ = some (.slice pc lc cc)) ∧ w'.cell? ⟨Bo, oo + t * 5, none⟩ = some (.int .i64 a2) ∧ w'.cell? ⟨Bo, oo + t * 5 + 1, none⟩ = some (.int .i64 b2) ∧ w'.cell? ⟨Bo, oo + t * 5 + 2, none⟩ = some (.int .i64 q2) ∧ w'.cell? ⟨Bo, oo + t * 5 + 3, none⟩ = some (.slice p2 l2 k2) ∧ w'.cell? ⟨Bo, oo + t * 5 + 4, none⟩ = some (.slice p2' m2 k2'))) (by kernel_rfl) (HS2.out _ DY0.out) (fun hHeld => ?_)
              generalize wr.drew = Y0 at DY0 hHeld ⊢
              refine ty (v := ?_) 0 (fun w hSw => ?_) ?_
              rotate_left
              · (try dsimp only at hSw); go_simp; (try with_reducible rfl)
              try simp only [List.getElem_toArray, List.getElem_cons_succ, List.getElem_cons_zero, Act.put, List.setIfInBounds_toArray, List.set_cons_zero, List.set_cons_succ]
              refine ty (v := ?_) 1 (fun w hSw => ?_) ?_
              rotate_left
              · (try dsimp only at hSw); go_simp; (try with_reducible rfl)
              try simp only [List.getElem_toArray, List.getElem_cons_succ, List.getElem_cons_zero, Act.put, List.setIfInBounds_toArray, List.set_cons_zero, List.set_cons_succ]
              refine ty (v := ?_) 2 (fun w hSw => ?_) ?_
              rotate_left
              · (try dsimp only at hSw); go_simp; (try with_reducible rfl)
              try simp only [List.getElem_toArray, List.getElem_cons_succ, List.getElem_cons_zero, Act.put, List.setIfInBounds_toArray, List.set_cons_zero, List.set_cons_succ]
              refine ty (v := ?_) 3 (fun w hSw => ?_) ?_
              rotate_left
              · (try dsimp only at hSw); go_simp; (try with_reducible rfl)
              try simp only [List.getElem_toArray, List.getElem_cons_succ, List.getElem_cons_zero, Act.put, List.setIfInBounds_toArray, List.set_cons_zero, List.set_cons_succ]
              refine ty (v := ?_) 4 (fun w hSw => ?_) ?_
              rotate_left
              · (try dsimp only at hSw); go_simp; (try with_reducible rfl)
              try simp only [List.getElem_toArray, List.getElem_cons_succ, List.getElem_cons_zero, Act.put, List.setIfInBounds_toArray, List.set_cons_zero, List.set_cons_succ]
              refine tr 5 (fun K hK => ?_)
              go_simp
              (go_at_call 28; ((with_reducible refine (CL.out _ DY0.out).mono ?_); rintro E Y1 ⟨rfl, hb⟩; have DY1 := Lib.hid (DY0.out.trans (hb.mono DY0.out.size)); clear hb))
              refine hK.out _ _ ?_ (fun hHeld => ?_)
              · exact HS2.out _ DY1.out
              clear hK K
              try simp only [List.getElem_toArray, List.getElem_cons_succ, List.getElem_cons_zero, Act.put, List.setIfInBounds_toArray, List.set_cons_zero, List.set_cons_succ]
              refine ty (v := ?_) 6 (fun w hSw => ?_) ?_
              rotate_left
              · (try dsimp only at hSw); go_simp; (try with_reducible rfl)
              try simp only [List.getElem_toArray, List.getElem_cons_succ, List.getElem_cons_zero, Act.put, List.setIfInBounds_toArray, List.set_cons_zero, List.set_cons_succ]
              refine ty (v := ?_) 7 (fun w hSw => ?_) ?_
              rotate_left
              · (try dsimp only at hSw); go_simp; (try with_reducible rfl)
              try simp only [List.getElem_toArray, List.getElem_cons_succ, List.getElem_cons_zero, Act.put, List.setIfInBounds_toArray, List.set_cons_zero, List.set_cons_succ]
              refine ty (v := ?_) 8 (fun w hSw => ?_) ?_
              rotate_left
              · (try dsimp only at hSw); go_simp; (try with_reducible rfl)
              try simp only [List.getElem_toArray, List.getElem_cons_succ, List.getElem_cons_zero, Act.put, List.setIfInBounds_toArray, List.set_cons_zero, List.set_cons_succ]
              refine ty (v := ?_) 9 (fun w hSw => ?_) ?_
              rotate_left
              · (try dsimp only at hSw); go_simp; (try with_reducible rfl)
              try simp only [List.getElem_toArray, List.getElem_cons_succ, List.getElem_cons_zero, Act.put, List.setIfInBounds_toArray, List.set_cons_zero, List.set_cons_succ]
              refine ty (v := ?_) 10 (fun w hSw => ?_) ?_
              rotate_left
              · (try dsimp only at hSw); go_simp; (try with_reducible rfl)
              try simp only [List.getElem_toArray, List.getElem_cons_succ, List.getElem_cons_zero, Act.put, List.setIfInBounds_toArray, List.set_cons_zero, List.set_cons_succ]
              refine ty (v := ?_) 11 (fun w hSw => ?_) ?_
              rotate_left
              · (try dsimp only at hSw); go_simp; (try with_reducible rfl)
              try simp only [List.getElem_toArray, List.getElem_cons_succ, List.getElem_cons_zero, Act.put, List.setIfInBounds_toArray, List.set_cons_zero, List.set_cons_succ]
              refine wpAnyH_done (by kernel_rfl) ?_ _
              go_wp2
              go_roundw
              case rel => exact ⟨t + 1, _, _, by omega, by go_num, Lib.hid ⟨HB.out.low.trans (DY1.out.mono HB.out.low.size), (DY1.out.block _ hbx).trans HB.out.box, HB.out.rd.on DY1.out, HB.out.fd, by rw [HST.out]; unfold addD; rw [if_neg (fun h => by have h2 : dr.length < 16 := h.2; have h3 := HLR.out; omega)]⟩⟩
              case measure => simp [intOf]; omega
        · have hte : t = mo := by omega
          have tm : ¬ (t : Int) < mo := by omega
          have HEnd : Hid (mendR out ((a, b), q, ds0, cs) = ((a, b), q, dr, cs)) := Lib.hid (by
            have := HB.out.is
            rw [hte, HMO.out, List.take_length] at this
            exact this.symm)
          have HB3 := Lib.hid (Cmd.below_one wr (.cells #[.int .i64 a, .int .i64 b, .int .i64 q, .slice pr lr cr, .slice pc lc cc] 42))
          have HO3 := Lib.hid (HOX.out.on HB3.out)
          have HA := Lib.hid (grow_wd wtRaw (wr.alloc (.cells #[.int .i64 a, .int .i64 b, .int .i64 q, .slice pr lr cr, .slice pc lc cc] 42)) 22 w.heap.size (.slice po mo co) qs HO3.out.own HO3.out.below.size wr.heap.size ((a, b), q, (pr, lr, cr), (pc, lc, cc)) #[.int .i64 a, .int .i64 b, .int .i64 q, .slice pr lr cr, .slice pc lc cc] rfl (heap_alloc_new wr _) (by have h1 := HO.out.raws.len; have h2 := HMO.out; omega))
          go_wp2_with (at_builtin; refine wp_app rfl _ _ 22 rfl _ _ rfl rfl HA.out ?_; intro v8 w8 HV8)
          have HNx : Hid (MS w w1 w8 v8 (qs ++ [((a, b), q, (pr, lr, cr), (pc, lc, cc))]) (mendS out ((a, b), q, ds0, cs))) := Lib.hid (by
            have hlow := HB.out.low.trans (HB3.out.mono HB.out.low.size)
            unfold mendS
            rw [HEnd.out]
            refine ⟨HO3.out.snoc HV8.out.1 HV8.out.2.1 HV8.out.2.2 ⟨rfl, rfl, HB.out.rd.on HB3.out, fun hz g e => (HB.out.fd hz g e).2, HRD.out.2⟩, grown_far (grown_far HO.out.kept (grown_of hlow) (fun g e => by cases e)) HV8.out.2.1 (fun g e => (HO.out.far g e).imp (fun h => by rw [h]) id), fun g e => ?_⟩
            rcases HV8.out.2.2 with h | h
            · rw [h] at e; exact HO.out.far g e
            · rw [h] at e
              injection e with e
              have h1 := HO.out.kept.size
              have h2 := hlow.size
              exact .inr (by omega))
          go_roundw
          case rel => exact ⟨k + 1, _, by omega, by go_num, by rw [HS.out]; exact HNx⟩
          case measure => simp [intOf]; omega
    · obtain rfl : k = m := by omega
      have kn : ¬ (k : Int) < k := by omega
      go_wp2_with fail
      go_ret
      have hO := HO.out
      rw [HMF.out, List.take_length, HT.out] at hO
      exact ⟨_, rfl, hO.raws.row, hO.raws.below⟩
end Go.Proofs.YtomidcbpnaajeaaGreat.Pre
