/- The statement's function ReachCloses of layer 16 (reach): it returns true, whatever way graphs are kept and gone along (under Graphs and Reaches). Conditions: the records and ids lie in memory as their cells say; numbers' words of 64 bits; texts of a length that Go reads. -/
import Derived.Test.YtnekajpoheipiaaGreatReaW
namespace Go.Proofs.YtnekajpoheipiaaGreat.Rea
open Go.RowKit Cmd Bat Ids Rec Wid Gra
set_option linter.unusedVariables false
set_option linter.unusedSimpArgs false

theorem rnew_ok {G : Nat → Nat → List Rcd → World → Prop} (HG : Graphs G) {v : Value} {rs : List Rcd} {w : World} (h : layG.Row w v rs) (hlot : Lot rs) (he : gErr rs = 0) : Calls Tryz.prog 8 #[v] w (fun E w' => ∃ g, E = .returned (.tuple #[gptr g, .int .i64 0]) ∧ G w'.heap.size g rs w' ∧ Below w.heap.size w w') :=
  (HG.new v rs w h hlot).mono fun E w' ⟨h1, h2⟩ => by
    rcases h2 with ⟨-, g, h3, h4⟩ | ⟨h3, -⟩
    · exact ⟨g, h3, h4, h1⟩
    · exact absurd he h3
theorem lot_few {rs : List Rcd} {m : Nat} (hw : ∀ x ∈ rs, wfG x) (hl : fewG rs m = true) (hm : m ≤ 1000) : Lot rs := ⟨hw, by have := (few_out hl).1; omega, fun r hr => by have := (few_out hl).2 r hr; exact ⟨by omega, by omega⟩⟩
theorem deps_few : ∀ {rs : List Rcd}, (∀ r ∈ rs, r.2.2.1.length ≤ 20) → (depsG rs).length ≤ rs.length * 20
  | [], _ => by simp [depsG]
  | r :: rs, h => by
    have h1 := deps_few (rs := rs) fun x hx => h x (List.mem_cons_of_mem _ hx)
    have h2 := h r List.mem_cons_self
    have e : depsG (r :: rs) = r.2.2.1 ++ depsG rs := rfl
    rw [e, List.length_append, List.length_cons]; omega
theorem few_deps {rs : List Rcd} (hl : fewG rs 20 = true) : (depsG rs).length ≤ 400 ∧ rs.length ≤ 20 := by
  have h := few_out hl
  have := deps_few (rs := rs) fun r hr => (h.2 r hr).1
  exact ⟨by omega, h.1⟩
section
variable {G : Nat → Nat → List Rcd → World → Prop} (HG : Graphs G) (RG : Reaches G)
set_option maxRecDepth 100000 in
theorem rclose_few (CP : ∀ w, Calls Tryz.prog 7 #[] w (RetBelow (.bool true) w)) (v u : Value) (rs : List Rcd) (w : World) (h : layG.Row w v rs) (hl : fewG rs 20 = false) : Calls Tryz.prog 4 #[v, u] w (RetBelow (.bool true) w) := by
  have HP := Lib.hid CP
  have CF : Hid (Calls Tryz.prog 5 #[v, .int .i64 20] w (RetBelow (.bool false) w)) := Lib.hid (by have := few_any v rs 20 (by decide) w h; rw [hl] at this; exact this)
  clear h hl CP
  go_enter Tryz.func4, Tryz.ntmps4
  go_wp2_with (first
    | (go_at_call 5; ((with_reducible refine CF.out.mono ?_); rintro E w1 ⟨rfl, hb⟩; have B1 := Lib.hid hb; clear hb))
    | (go_at_call 7; ((with_reducible refine (HP.out _).mono ?_); rintro E w2 ⟨rfl, hb⟩; have B2 := Lib.hid (B1.out.trans (hb.mono B1.out.size)); clear hb)))
  go_ret
  exact ⟨rfl, B2.out⟩
set_option maxRecDepth 100000 in
theorem rclose_long (CP : ∀ w, Calls Tryz.prog 7 #[] w (RetBelow (.bool true) w)) (v : Value) (p : Option Addr) (m cap : Nat) (rs : List Rcd) (w : World) (h : layG.Row w v rs) (hl : fewG rs 20 = true) (hm : 20 < m) : Calls Tryz.prog 4 #[v, .slice p m cap] w (RetBelow (.bool true) w) := by
  have HP := Lib.hid CP
  have CF : Hid (Calls Tryz.prog 5 #[v, .int .i64 20] w (RetBelow (.bool true) w)) := Lib.hid (by have := few_any v rs 20 (by decide) w h; rw [hl] at this; exact this)
  have q1 : decide ((20 : Int) < m) = true := decide_eq_true (by omega)
  clear h hl CP
  go_enter Tryz.func4, Tryz.ntmps4
  go_wp2_with (first
    | (go_at_call 5; ((with_reducible refine CF.out.mono ?_); rintro E w1 ⟨rfl, hb⟩; have B1 := Lib.hid hb; clear hb))
    | (go_at_call 7; ((with_reducible refine (HP.out _).mono ?_); rintro E w2 ⟨rfl, hb⟩; have B2 := Lib.hid (B1.out.trans (hb.mono B1.out.size)); clear hb)))
  go_ret
  exact ⟨rfl, B2.out⟩
set_option maxRecDepth 100000 in
theorem rclose_bad (CP : ∀ w, Calls Tryz.prog 7 #[] w (RetBelow (.bool true) w)) (v : Value) (p : Option Addr) (m cap : Nat) (rs : List Rcd) (w : World) (h : layG.Row w v rs) (hw : ∀ x ∈ rs, wfG x) (hl : fewG rs 20 = true) (hm : ¬ 20 < m) (he : gErr rs ≠ 0) : Calls Tryz.prog 4 #[v, .slice p m cap] w (RetBelow (.bool true) w) := by
  have HP := Lib.hid CP
  have CF : Hid (Calls Tryz.prog 5 #[v, .int .i64 20] w (RetBelow (.bool true) w)) := Lib.hid (by have := few_any v rs 20 (by decide) w h; rw [hl] at this; exact this)
  have CC := Lib.hid (fun W (hb : Below w.heap.size w W) => refgerr_any v rs W (h.on hb) hw)
  have q1 : decide ((20 : Int) < m) = false := decide_eq_false (by omega)
  generalize gErr rs = e at CC he
  have q2 : (e != (0 : Int)) = true := by rw [bne, beq_eq_false_iff_ne.2 he]; rfl
  clear h hl CP hw
  go_enter Tryz.func4, Tryz.ntmps4
  go_wp2_with (first
    | (go_at_call 5; ((with_reducible refine CF.out.mono ?_); rintro E w1 ⟨rfl, hb⟩; have B1 := Lib.hid hb; have C1 := Lib.hid (CC.out w1 hb); clear hb))
    | (go_at_call 6; ((with_reducible refine C1.out.mono ?_); rintro E w2 ⟨rfl, hb⟩; have B2 := Lib.hid (B1.out.trans (hb.mono B1.out.size)); clear hb))
    | (go_at_call 7; ((with_reducible refine (HP.out _).mono ?_); rintro E w3 ⟨rfl, hb⟩; have B3 := Lib.hid (B2.out.trans (hb.mono B2.out.size)); clear hb)))
  go_ret
  exact ⟨rfl, B3.out⟩
end
theorem row_zero {w : World} {v : Value} (h : RowAt w v []) : ∃ p cap, v = .slice p 0 cap := by obtain ⟨p, cap, e, _⟩ := h; exact ⟨p, cap, e⟩
set_option maxRecDepth 100000 in
set_option maxHeartbeats 16000000 in
theorem rclose_ok {G : Nat → Nat → List Rcd → World → Prop} (HG : Graphs G) (RG : Reaches G) (v : Value) (p : Option Addr) (cap : Nat) (rs : List Rcd) (some_ : List Idn) (w : World) (h : layG.Row w v rs) (hw : ∀ x ∈ rs, wfG x) (hs : RowAt w (.slice p some_.length cap) some_) (hsw : ∀ x ∈ some_, wfId x) (hl : fewG rs 20 = true) (hm : ¬ 20 < some_.length) (he : gErr rs = 0) :
    Calls Tryz.prog 4 #[v, .slice p some_.length cap] w (RetBelow (.bool true) w) := by
  obtain ⟨hd400, hr20⟩ := few_deps hl
  have HP := Lib.hid (fun w => rplay_any HG RG w)
  have CF : Hid (Calls Tryz.prog 5 #[v, .int .i64 20] w (RetBelow (.bool true) w)) := Lib.hid (by have := few_any v rs 20 (by decide) w h; rw [hl] at this; exact this)
  have CC := Lib.hid (fun W (hb : Below w.heap.size w W) => refgerr_any v rs W (h.on hb) hw)
  rw [he] at CC
  have HV := Lib.hid h
  have HSR := Lib.hid hs
  have CN := Lib.hid (fun W (hb : Below w.heap.size w W) => rnew_ok HG (h.on hb) (lot_few hw hl (by omega)) he)
  have HK := Lib.hid HG
  have HR := Lib.hid RG
  have RCl := Lib.hid (fun W (hb : Below w.heap.size w W) => refclosed_any v rs W (h.on hb) (by omega) (by omega))
  have RWh := Lib.hid (fun W (hb : Below w.heap.size w W) => refwhole_any v (.slice p some_.length cap) rs some_ W (h.on hb) (hs.on hb) (by omega))
  have hcl : (closedG rs).length ≤ 1000 := by
    unfold closedG
    have h1 := srt_length ((idsG rs).filter fun x => openG rs x)
    have h2 := List.length_filter_le (fun x => openG rs x) (idsG rs)
    rw [idsG_len] at h2
    omega
  have hcw : ∀ x ∈ closedG rs, wfId x := fun x hx => by
    have := closed_mem.1 hx x (.here x)
    obtain ⟨r, hr, e⟩ := List.mem_map.1 this
    rw [← e]; exact (hw r hr).id
  have HCL := Lib.hid (And.intro hcl hcw)
  have HSW := Lib.hid hsw
  obtain ⟨wv, hwv⟩ : ∃ wv, wv = wholeG rs some_ := ⟨_, rfl⟩
  have HWC : Hid (wv = true → ∀ x ∈ some_, x ∈ closedG rs) := Lib.hid fun e x hx => whole_closed (by rw [← hwv]; exact e) hx
  rw [← hwv] at RWh
  have HWV := Lib.hid hwv
  have SP : Hid (some_.length = 0 ∨ ∃ B off, p = some ⟨B, off, none⟩ ∧ Hid (Row2 w B off some_)) := Lib.hid (by obtain ⟨p3, k3, e3, -, h3⟩ := Rec.RowAt.parts hs; cases e3; exact h3)
  have hsl : some_.length ≤ 1000 := by omega
  have HSL := Lib.hid hsl
  obtain ⟨m, hmm⟩ : ∃ m, m = some_.length := ⟨_, rfl⟩
  have HM := Lib.hid hmm
  rw [← hmm] at HSR RWh SP hm ⊢
  have q1 : decide ((20 : Int) < m) = false := decide_eq_false (by omega)
  clear h hw hs hsw hl he hd400 hr20 hcl hcw hwv hmm hsl
  go_enter Tryz.func4, Tryz.ntmps4
  go_wp2_with (first
    | (go_at_call 5; ((with_reducible refine CF.out.mono ?_); rintro E w1 ⟨rfl, hb⟩; have B1 := Lib.hid hb; have C1 := Lib.hid (CC.out w1 hb); clear hb))
    | (go_at_call 6; ((with_reducible refine C1.out.mono ?_); rintro E w2 ⟨rfl, hb⟩; have B2 := Lib.hid (B1.out.trans (hb.mono B1.out.size)); have N2 := Lib.hid (CN.out w2 B2.out); clear hb))
    | (go_at_call 8; ((with_reducible refine N2.out.mono ?_); rintro E w3 ⟨g, rfl, hg, hb⟩; have G3 := Lib.hid hg; have B3 := Lib.hid (B2.out.trans (hb.mono B2.out.size)); have K3 := Lib.hid (HR.out.closed hg); clear hb hg))
    | (go_at_call 14; ((with_reducible refine K3.out.mono ?_); rintro E w4 ⟨c, rfl, hr, hb⟩; have G4 := Lib.hid (HK.out.on G3.out hb); have B4 := Lib.hid (B3.out.trans (hb.mono B3.out.size)); have R4 := Lib.hid hr; have F4 := Lib.hid (RCl.out w4 B4.out); clear hb hr K3))
    | (go_at_call 15; ((with_reducible refine F4.out.mono ?_); rintro E w5 ⟨d, rfl, hr, hb⟩; have hb' := hb.mono (HK.out.le G4.out); have G5 := Lib.hid (HK.out.on G4.out hb'); have B5 := Lib.hid (B4.out.trans (hb.mono B4.out.size)); have R5 := Lib.hid (R4.out.on hb); have S5 := Lib.hid (Ids.same_any _ _ _ _ _ (R4.out.on hb) hr); rw [decide_eq_true rfl] at S5; clear hb hr hb'))
    | (go_at_call 9; ((with_reducible refine S5.out.mono ?_); rintro E w6 ⟨rfl, hb⟩; have hb' := hb.mono (HK.out.le G5.out); have G6 := Lib.hid (HK.out.on G5.out hb'); have B6 := Lib.hid (B5.out.trans (hb.mono B5.out.size)); have R6 := Lib.hid (R5.out.on hb); have W6 := Lib.hid (HR.out.whole G6.out c (closedG rs) R6.out HCL.out.1 HCL.out.2); rw [closed_whole] at W6; clear hb hb'))
    | (go_at_call 16; ((with_reducible refine W6.out.mono ?_); rintro E w7 ⟨rfl, hb⟩; have hb' := hb.mono (HK.out.le G6.out); have G7 := Lib.hid (HK.out.on G6.out hb'); have B7 := Lib.hid (B6.out.trans (hb.mono B6.out.size)); have R7 := Lib.hid (R6.out.on hb); have W7 := Lib.hid (HR.out.whole G7.out (.slice p m cap) some_ (HSR.out.on B7.out) HSL.out HSW.out); rw [← HWV.out] at W7; clear hb hb' W6))
    | (go_at_call 16; ((with_reducible refine W7.out.mono ?_); rintro E w8 ⟨rfl, hb⟩; have B8 := Lib.hid (B7.out.trans (hb.mono B7.out.size)); have R8 := Lib.hid (R7.out.on hb); clear hb W7))
    | fail)
  go_loopw [9] (fun i wr => ∃ k : Nat, k ≤ m ∧ i = .int .i64 k ∧ Hid (Below w8.heap.size w8 wr)) (fun i _ => m - (intOf i).toNat)
  case atStart => exact ⟨0, Nat.zero_le _, rfl, Lib.hid (Below.refl _ _)⟩
  case round =>
    obtain ⟨k, hk, rfl, hb8⟩ := hrel
    have k0 : (0 : Int) ≤ k := by omega
    have hbW := Lib.hid (B8.out.trans (hb8.out.mono B8.out.size))
    by_cases hkm : k < m
    · have km : (k : Int) < m := by omega
      cases hwt : wv with
      | false =>
        clear SP
        go_wp2
        go_roundw
        case rel => exact ⟨k + 1, by omega, by go_num, hb8⟩
        case measure => simp [intOf]; omega
      | true =>
        obtain ⟨B, off, rfl, HC⟩ : ∃ B off, p = some ⟨B, off, none⟩ ∧ Hid (Row2 w B off some_) := SP.out.resolve_left (by omega)
        have hkz : k < some_.length := by rw [← HM.out]; exact hkm
        obtain ⟨⟨x, y⟩, hxy⟩ : ∃ z, nth some_ k = z := ⟨_, rfl⟩
        have c0 := (HC.out.on hbW.out).fst k hkz
        have c1 := (HC.out.on hbW.out).snd k hkz
        rw [hxy] at c0 c1
        have hmem : (x, y) ∈ closedG rs := HWC.out hwt _ (by rw [← hxy]; exact nth_mem hkz)
        have HH := Lib.hid (refhas_any c (closedG rs) x y wr (R8.out.on hb8.out))
        rw [decide_eq_true hmem] at HH
        clear SP hkz hxy hmem
        go_wp2_with (first
          | (go_at_call 13; ((with_reducible refine HH.out.mono ?_); rintro E w9 ⟨rfl, hb⟩; have B9 := Lib.hid (hb8.out.trans (hb.mono hb8.out.size)); clear hb)))
        go_roundw
        case rel => exact ⟨k + 1, by omega, by go_num, B9⟩
        case measure => simp [intOf]; omega
    · have km : ¬ (k : Int) < m := by omega
      have W9 := Lib.hid (RWh.out wr hbW.out)
      have qe : (wv == wv) = true := beq_self_eq_true _
      have NW := Lib.hid HR.out.nwhole
      have NC := Lib.hid HR.out.nclosed
      clear SP
      go_wp2_with (first
        | (go_at_call 17; ((with_reducible refine W9.out.mono ?_); rintro E w9 ⟨rfl, hb⟩; have B9 := Lib.hid (hbW.out.trans (hb.mono hbW.out.size)); have N9 := Lib.hid (NC.out w9); clear hb))
        | (go_at_call 14; ((with_reducible refine N9.out.mono ?_); rintro E w10 ⟨cc, rfl, hr, hb⟩; obtain ⟨pc, kc, rfl⟩ := row_zero hr; have B10 := Lib.hid (B9.out.trans (hb.mono B9.out.size)); have N10 := Lib.hid (NW.out w10); clear hb hr))
        | (go_at_call 16; ((with_reducible refine N10.out.mono ?_); rintro E w11 ⟨rfl, hb⟩; have B11 := Lib.hid (B10.out.trans (hb.mono B10.out.size)); have P11 := Lib.hid (HP.out w11); clear hb))
        | (go_at_call 7; ((with_reducible refine P11.out.mono ?_); rintro E w12 ⟨rfl, hb⟩; have B12 := Lib.hid (B11.out.trans (hb.mono B11.out.size)); clear hb)))
      go_ret
      exact ⟨rfl, B12.out⟩
end Go.Proofs.YtnekajpoheipiaaGreat.Rea
