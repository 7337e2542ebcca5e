/- What the program's Len of a front gives, and how its floors go up (layer 5, front): Len, raise, Mark. Conditions: the front lies in memory as its cells and its set say; ids fit into their kind. -/
import Derived.Test.YtjkjbpfpmghlaaaFrontB
import Derived.Deep.DeepCutAuto
import Derived.Deep.LoopGhost
namespace Go.Proofs.Ytjkjbpfpmghlaaa
open Go.RowKit Go.Maps
set_option linter.unusedVariables false

/-! ### Len -/
def psum (fs : Nat → Int) : Nat → Int
  | 0 => 0
  | k + 1 => psum fs k + fs k
theorem psum8 (fs : Nat → Int) : psum fs 8 = sum8 fs := by simp [psum, sum8]
theorem psum_in {fs : Nat → Int} (h : ∀ r, r < 8 → 0 ≤ fs r ∧ fs r ≤ 1048576) : ∀ k, k ≤ 8 → 0 ≤ psum fs k ∧ psum fs k ≤ k * 1048576
  | 0, _ => ⟨Int.le_refl _, by simp [psum]⟩
  | k + 1, hk => by
    have h1 := psum_in h k (by omega)
    have h2 := h k (by omega)
    unfold psum
    omega
def eight (fs : Nat → Int) : Value := .agg #[.int .i64 (fs 0), .int .i64 (fs 1), .int .i64 (fs 2), .int .i64 (fs 3), .int .i64 (fs 4), .int .i64 (fs 5), .int .i64 (fs 6), .int .i64 (fs 7)]
theorem index_eight (fs : Nat → Int) (k : Nat) (hk : k < 8) (w : World) : (Instr.index 40 (eight fs) (.int .i64 (k : Int))).run Try.prog w = .ok (.int .i64 (fs k)) w := by
  have : k = 0 ∨ k = 1 ∨ k = 2 ∨ k = 3 ∨ k = 4 ∨ k = 5 ∨ k = 6 ∨ k = 7 := by omega
  have h0 : ∀ (x0 x1 x2 x3 x4 x5 x6 x7 : Int) (w : World), (Instr.index 40 (.agg #[.int .i64 x0, .int .i64 x1, .int .i64 x2, .int .i64 x3, .int .i64 x4, .int .i64 x5, .int .i64 x6, .int .i64 x7]) (.int .i64 0)).run Try.prog w = .ok (.int .i64 x0) w := fun _ _ _ _ _ _ _ _ _ => by kernel_rfl
  have h1 : ∀ (x0 x1 x2 x3 x4 x5 x6 x7 : Int) (w : World), (Instr.index 40 (.agg #[.int .i64 x0, .int .i64 x1, .int .i64 x2, .int .i64 x3, .int .i64 x4, .int .i64 x5, .int .i64 x6, .int .i64 x7]) (.int .i64 1)).run Try.prog w = .ok (.int .i64 x1) w := fun _ _ _ _ _ _ _ _ _ => by kernel_rfl
  have h2 : ∀ (x0 x1 x2 x3 x4 x5 x6 x7 : Int) (w : World), (Instr.index 40 (.agg #[.int .i64 x0, .int .i64 x1, .int .i64 x2, .int .i64 x3, .int .i64 x4, .int .i64 x5, .int .i64 x6, .int .i64 x7]) (.int .i64 2)).run Try.prog w = .ok (.int .i64 x2) w := fun _ _ _ _ _ _ _ _ _ => by kernel_rfl
  have h3 : ∀ (x0 x1 x2 x3 x4 x5 x6 x7 : Int) (w : World), (Instr.index 40 (.agg #[.int .i64 x0, .int .i64 x1, .int .i64 x2, .int .i64 x3, .int .i64 x4, .int .i64 x5, .int .i64 x6, .int .i64 x7]) (.int .i64 3)).run Try.prog w = .ok (.int .i64 x3) w := fun _ _ _ _ _ _ _ _ _ => by kernel_rfl
  have h4 : ∀ (x0 x1 x2 x3 x4 x5 x6 x7 : Int) (w : World), (Instr.index 40 (.agg #[.int .i64 x0, .int .i64 x1, .int .i64 x2, .int .i64 x3, .int .i64 x4, .int .i64 x5, .int .i64 x6, .int .i64 x7]) (.int .i64 4)).run Try.prog w = .ok (.int .i64 x4) w := fun _ _ _ _ _ _ _ _ _ => by kernel_rfl
  have h5 : ∀ (x0 x1 x2 x3 x4 x5 x6 x7 : Int) (w : World), (Instr.index 40 (.agg #[.int .i64 x0, .int .i64 x1, .int .i64 x2, .int .i64 x3, .int .i64 x4, .int .i64 x5, .int .i64 x6, .int .i64 x7]) (.int .i64 5)).run Try.prog w = .ok (.int .i64 x5) w := fun _ _ _ _ _ _ _ _ _ => by kernel_rfl
  have h6 : ∀ (x0 x1 x2 x3 x4 x5 x6 x7 : Int) (w : World), (Instr.index 40 (.agg #[.int .i64 x0, .int .i64 x1, .int .i64 x2, .int .i64 x3, .int .i64 x4, .int .i64 x5, .int .i64 x6, .int .i64 x7]) (.int .i64 6)).run Try.prog w = .ok (.int .i64 x6) w := fun _ _ _ _ _ _ _ _ _ => by kernel_rfl
  have h7 : ∀ (x0 x1 x2 x3 x4 x5 x6 x7 : Int) (w : World), (Instr.index 40 (.agg #[.int .i64 x0, .int .i64 x1, .int .i64 x2, .int .i64 x3, .int .i64 x4, .int .i64 x5, .int .i64 x6, .int .i64 x7]) (.int .i64 7)).run Try.prog w = .ok (.int .i64 x7) w := fun _ _ _ _ _ _ _ _ _ => by kernel_rfl
  rcases this with rfl | rfl | rfl | rfl | rfl | rfl | rfl | rfl
  · exact h0 _ _ _ _ _ _ _ _ w
  · exact h1 _ _ _ _ _ _ _ _ w
  · exact h2 _ _ _ _ _ _ _ _ w
  · exact h3 _ _ _ _ _ _ _ _ w
  · exact h4 _ _ _ _ _ _ _ _ w
  · exact h5 _ _ _ _ _ _ _ _ w
  · exact h6 _ _ _ _ _ _ _ _ w
  · exact h7 _ _ _ _ _ _ _ _ w
set_option maxHeartbeats 1000000 in
theorem flen_p (g s m : Nat) (ms : List Idn) (w : World) (h : FrontP w g s m ms) (hl : ms.length ≤ 100000) : Calls Try.prog 12 #[.pointer (some ⟨g, 0, none⟩)] w fun e w' => e = .returned (.int .i64 ms.length) ∧ Below w.heap.size w w' := by
  obtain ⟨fs, zs, hf, hm, hg⟩ := h
  have HL := Lib.hid (len_any (setPtr s) zs w (.inr ⟨s, m, rfl, hf.set⟩))
  unfold setPtr at HL
  obtain ⟨n, hn⟩ : ∃ n : Int, (zs.length : Int) = n := ⟨_, rfl⟩
  have HN := Lib.hid hn
  rw [hn] at HL
  have hz := hm.lenZ
  have hn0 : 0 ≤ n ∧ n ≤ 100000 := by omega
  have HC := Lib.hid hm.cnt
  have HP := Lib.hid (psum_in (fs := fs) fun r hr => ⟨hm.nn r hr, hm.top hr⟩)
  have c8 := hf.ptr
  have d0 := hf.flr 0 (by decide)
  have d1 := hf.flr 1 (by decide)
  have d2 := hf.flr 2 (by decide)
  have d3 := hf.flr 3 (by decide)
  have d4 := hf.flr 4 (by decide)
  have d5 := hf.flr 5 (by decide)
  have d6 := hf.flr 6 (by decide)
  have d7 := hf.flr 7 (by decide)
  have HI := Lib.hid (index_eight fs)
  unfold eight at HI
  clear hf hm hg hn hz hl
  go_enter Try.func12, Try.ntmps12
  go_wp2_with (go_at_call 24; ((with_reducible refine HL.out.mono ?_); rintro e w1 ⟨rfl, rfl⟩))
  go_loopw [3, 17] (fun t i wr => ∃ k : Nat, k ≤ 8 ∧ i = .int .i64 k ∧ t = .int .i64 (n + psum fs k) ∧ wr = w) (fun _ i _ => 8 - (intOf i).toNat)
  case atStart => exact ⟨0, by decide, rfl, by simp [psum], rfl⟩
  case round =>
    obtain ⟨k, hk, rfl, rfl, rfl⟩ := hrel
    by_cases hk8 : k < 8
    · have k0 : (0 : Int) ≤ k := by omega
      have kn : (k : Int) < 8 := by omega
      have hi := HI.out k hk8
      have h1 := HP.out k hk
      have h2 := HP.out (k + 1) (by omega)
      have hs : psum fs (k + 1) = psum fs k + fs k := rfl
      obtain ⟨v, hv⟩ : ∃ v, fs k = v := ⟨_, rfl⟩
      obtain ⟨p, hp⟩ : ∃ p, psum fs k = p := ⟨_, rfl⟩
      rw [hv, hp] at hs
      rw [hs] at h2
      rw [hp] at h1
      rw [hv] at hi
      have HS := Lib.hid hs
      have hq1 : -9223372036854775808 ≤ n + p + v := by omega
      have hq2 : n + p + v ≤ 9223372036854775807 := by omega
      have hw : IntKind.i64.wrap (n + p + v) = n + p + v := IntWalk.i64_in _ (by omega)
      rw [hp]
      clear hv hp hs h1 h2
      go_wp2
      go_roundw
      case rel => exact ⟨k + 1, by omega, by go_num, by rw [HS.out, ← Int.add_assoc], by first | rfl | trivial⟩
      case measure => simp [intOf]; omega
    · have kn : ¬ (k : Int) < 8 := by omega
      have hk' : k = 8 := by omega
      subst hk'
      go_wp2
      go_ret
      exact ⟨ret_int (by rw [HC.out, HN.out, psum8]), Below.refl _ _⟩

/-! ### raise -/
/-- The floor of replica r is up to its first gap. -/
def Raised (g s m : Nat) (ms : List Idn) (fs : Nat → Int) (r : Nat) (w : World) (e : Ending) (w' : World) : Prop :=
  e = .returned (.tuple #[]) ∧ ∃ fs' zs', FrontI w' g s m fs' zs' ∧ Marks ms fs' zs' ∧ (∀ k, k ≠ r → fs' k = fs k) ∧ ((r : Int), fs' r + 1) ∉ ms ∧ Save g m w w'
/-- What stands in each round. -/
structure Rising (g s m : Nat) (ms : List Idn) (fs : Nat → Int) (r : Nat) (w : World) (fs' : Nat → Int) (zs' : List Idn) (W : World) : Prop where
  f : FrontI W g s m fs' zs'
  mm : Marks ms fs' zs'
  same : ∀ k, k ≠ r → fs' k = fs k
  save : Save g m w W
set_option maxHeartbeats 2000000 in
set_option maxRecDepth 100000 in
theorem raise_p (g s m : Nat) (ms : List Idn) (fs : Nat → Int) (zs : List Idn) (r : Nat) (hr : r < 8) (w : World) (h : FrontI w g s m fs zs) (hm : Marks ms fs zs) : Calls Try.prog 22 #[.pointer (some ⟨g, 0, none⟩), .int .i64 (r : Int)] w (Raised g s m ms fs r w) := by
  have H0 : Hid (Rising g s m ms fs r w fs zs w) := Lib.hid ⟨h, hm, fun _ _ => rfl, Save.refl _ _ _⟩
  have r0 : (0 : Int) ≤ r := by omega
  have r8 : (r : Int) < 8 := by omega
  obtain ⟨v, hv⟩ : ∃ v, fs r = v := ⟨_, rfl⟩
  have HV := Lib.hid hv
  clear h hm hv
  go_enter Try.func22, Try.ntmps22
  go_wp2
  go_step3
  go_wp2
  go_step3
  go_wp2
  go_loopg [] 1048577 (fun gk wr => ∃ (fs' : Nat → Int) (zs' : List Idn), 1048577 - fs' r ≤ (gk : Int) ∧ Hid (Rising g s m ms fs r w fs' zs' wr))
  case atStart => exact ⟨fs, zs, by have := H0.out.mm.nn r hr; omega, H0⟩
  case round =>
    obtain ⟨fs', zs', hgk, hst⟩ := hrel
    have c0 := hst.out.f.flr r hr
    have c8 := hst.out.f.ptr
    have v0 := hst.out.mm.nn r hr
    have v1 := hst.out.mm.top hr
    obtain ⟨v, hv⟩ : ∃ v, fs' r = v := ⟨_, rfl⟩
    rw [hv] at c0 v0 v1
    have hw : IntKind.i64.wrap (v + 1) = v + 1 := IntWalk.i64_in _ (by omega)
    have HV' := Lib.hid hv
    have hgk2 : Hid (1048577 - v ≤ (gk : Int)) := Lib.hid (by rw [← hv]; exact hgk)
    have HX : Hid (wfId ((r : Int), v + 1)) := Lib.hid ⟨⟨by omega, by omega⟩, ⟨by omega, by omega⟩⟩
    have HBX := Lib.hid (Boxed.start wr (r : Int) (v + 1))
    have b0 := (box_cells wr (r : Int) (v + 1)).1
    have b1 := (box_cells wr (r : Int) (v + 1)).2
    have HF1 : Hid (FrontI (wr.alloc (.cells #[.int .i64 (r : Int), .int .i64 (v + 1)] 24)) g s m fs' zs') := Lib.hid (hst.out.f.on (below_one wr (.cells #[.int .i64 (r : Int), .int .i64 (v + 1)] 24)))
    have b8 := HF1.out.ptr
    have HF2 : Hid (FrontI (wr.alloc (.cells #[.int .i64 (r : Int), .int .i64 (v + 1)] 24)).drew g s m fs' zs') := Lib.hid (HF1.out.on (Below.refl _ _).drew)
    have HSV : Hid (Save g m w (wr.alloc (.cells #[.int .i64 (r : Int), .int .i64 (v + 1)] 24)).drew) := Lib.hid (hst.out.save.trans (Save.of ((below_one wr (.cells #[.int .i64 (r : Int), .int .i64 (v + 1)] 24)).drew)))
    have HMR : Hid ((((r : Int), v + 1) ∈ zs') ↔ (((r : Int), fs' r + 1) ∈ zs')) := Lib.hid (by rw [hv])
    obtain ⟨t, ht⟩ : ∃ t, decide (((r : Int), v + 1) ∈ zs') = t := ⟨_, rfl⟩
    have HT := Lib.hid ht
    have HR : Hid (Calls Try.prog 28 #[.pointer (some ⟨s, 0, none⟩), .agg #[.int .i64 (r : Int), .int .i64 (v + 1)]] (wr.alloc (.cells #[.int .i64 (r : Int), .int .i64 (v + 1)] 24)).drew fun e w' => e = .returned (.bool t) ∧ Turns s m (del zs' ((r : Int), v + 1)) (wr.alloc (.cells #[.int .i64 (r : Int), .int .i64 (v + 1)] 24)).drew w') := Lib.hid (by
      have := remove_p s m zs' r (v + 1) _ HF2.out.set HX.out
      rw [ht] at this; exact this)
    have KS : Hid (∀ w2, Turns s m (del zs' ((r : Int), v + 1)) (wr.alloc (.cells #[.int .i64 (r : Int), .int .i64 (v + 1)] 24)).drew w2 → (w2.cell? ⟨g, 8, none⟩ = some (.pointer (some ⟨s, 0, none⟩)) ∧ w2.cell? ⟨wr.heap.size, 0, none⟩ = some (.int .i64 (r : Int)) ∧ w2.cell? ⟨wr.heap.size, 1, none⟩ = some (.int .i64 (v + 1)))) := Lib.hid fun w2 h2 => ⟨(HF2.out.turn h2).ptr, grown_cell h2.grown HF2.out.set.set.isMap b0, grown_cell h2.grown HF2.out.set.set.isMap b1⟩
    clear hv ht hgk
    cases t with
    | true =>
      go_wp2
      go_region_held3 (fun w' => w'.cell? ⟨g, 8, none⟩ = some (.pointer (some ⟨s, 0, none⟩)) ∧ w'.cell? ⟨wr.heap.size, 0, none⟩ = some (.int .i64 (r : Int)) ∧ w'.cell? ⟨wr.heap.size, 1, none⟩ = some (.int .i64 (v + 1)))
        (first | exact KS2.out | go_keep)
        (first
          | (go_at_call 28; (with_reducible refine HR.out.mono ?_); rintro e w2 ⟨rfl, ht⟩; have KS2 := Lib.hid (KS.out _ ht); have e0 := (KS.out _ ht).2.2; have e1 := (HF2.out.turn ht).flr r hr; rw [HV'.out] at e1; have e2 := (HF2.out.turn ht).fre r hr; have HT2 := Lib.hid ht; clear ht))
      clear b0 b1 b8
      go_wp2
      go_region
      go_wp2
      go_roundg (gk - 1)
      case measure => have := hgk2.out; omega
      case rel =>
        have hmem : ((r : Int), fs' r + 1) ∈ zs' := HMR.out.1 (of_decide_eq_true HT.out)
        have hup := hst.out.mm.up hr hmem
        have e3 : upd fs' r (v + 1) r = v + 1 := by unfold upd; rw [if_pos rfl]
        rw [HV'.out] at hup
        refine ⟨upd fs' r (v + 1), del zs' ((r : Int), v + 1), by rw [e3]; have := hgk2.out; omega, Lib.hid ⟨(((HF2.out.turn HT2.out).store r hr (v + 1)).on (Below.refl _ _).drew), hup, fun k hk => ?_, (HSV.out.trans (Save.grown HT2.out.grown)).trans ((Save.store g m w2 r _).trans (Save.of (Below.refl _ _).drew))⟩⟩
        unfold upd
        rw [if_neg hk]
        exact hst.out.same k hk
    | false =>
      go_wp2
      go_region_held3 (fun w' => w'.cell? ⟨g, 8, none⟩ = some (.pointer (some ⟨s, 0, none⟩)) ∧ w'.cell? ⟨wr.heap.size, 0, none⟩ = some (.int .i64 (r : Int)) ∧ w'.cell? ⟨wr.heap.size, 1, none⟩ = some (.int .i64 (v + 1)))
        (first | exact KS2.out | go_keep)
        (first
          | (go_at_call 28; (with_reducible refine HR.out.mono ?_); rintro e w2 ⟨rfl, ht⟩; have KS2 := Lib.hid (KS.out _ ht); have e0 := (KS.out _ ht).2.2; have e1 := (HF2.out.turn ht).flr r hr; rw [HV'.out] at e1; have e2 := (HF2.out.turn ht).fre r hr; have HT2 := Lib.hid ht; clear ht))
      clear b0 b1 b8
      go_wp2
      first
        | rw [Exit.noGoto_normal]
        | unfold Exit.noGoto
      go_end0
      have hno : ((r : Int), v + 1) ∉ zs' := of_decide_eq_false HT.out
      have hdel : del zs' ((r : Int), v + 1) = zs' := List.filter_eq_self.2 fun y hy => by rw [decide_eq_true_eq]; exact fun e => hno (e ▸ hy)
      have hT3 := HT2.out
      rw [hdel] at hT3
      refine ⟨rfl, fs', zs', HF2.out.turn hT3, hst.out.mm, hst.out.same, fun hm => hno ?_, HSV.out.trans (Save.grown hT3.grown)⟩
      rw [← HV'.out, hst.out.mm.memZ]
      exact ⟨hm, by show fs' (r : Int).toNat < fs' r + 1; rw [Int.toNat_natCast]; omega⟩

/-! ### Mark -/
theorem fmark_nil (a b : Int) (w : World) : Calls Try.prog 8 #[.pointer none, .agg #[.int .i64 a, .int .i64 b]] w fun e w' => e = .returned (.bool false) ∧ Below w.heap.size w w' := by
  go_enter Try.func8, Try.ntmps8
  go_wp2
  go_ret
  exact ⟨rfl, below_one _ _⟩
/-- What is marked behind a call of Mark. -/
def marked (ms : List Idn) (x : Idn) : List Idn := if idRight x = true then put ms x else ms
def fresh (ms : List Idn) (x : Idn) : Bool := idRight x && !decide (x ∈ ms)
def MarksIt (g s m : Nat) (ms : List Idn) (x : Idn) (w : World) (e : Ending) (w' : World) : Prop := e = .returned (.bool (fresh ms x)) ∧ FrontP w' g s m (marked ms x) ∧ Save g m w w'
set_option maxHeartbeats 4000000 in
set_option maxRecDepth 100000 in
theorem fmark_p (g s m : Nat) (ms : List Idn) (a b : Int) (w : World) (h : FrontP w g s m ms) (hx : wfId (a, b)) (hl : ms.length ≤ 100000) : Calls Try.prog 8 #[.pointer (some ⟨g, 0, none⟩), .agg #[.int .i64 a, .int .i64 b]] w (MarksIt g s m ms (a, b) w) := by
  have c1 := (box_cells w a b).1
  have c2 := (box_cells w a b).2
  have H0 := Lib.hid (below_one w (.cells #[.int .i64 a, .int .i64 b] 24))
  have HB := Lib.hid (Boxed.start w a b)
  have HP := Lib.hid h
  obtain ⟨q, hq⟩ : ∃ q, idErr (a, b) = q := ⟨_, rfl⟩
  have HC := Lib.hid (check_below a b q hq (w.alloc (.cells #[.int .i64 a, .int .i64 b] 24)))
  have HH : Hid (∀ W, FrontP W g s m ms → Calls Try.prog 13 #[.pointer (some ⟨g, 0, none⟩), .agg #[.int .i64 a, .int .i64 b]] W fun e w' => e = .returned (.bool (decide ((a, b) ∈ ms))) ∧ Below W.heap.size W w') := Lib.hid fun W hW => fhas_p g s m ms a b W hW hx
  have HQ := Lib.hid hq
  by_cases hz : q = 0
  · subst hz
    have hr := (err_right _).1 hq
    have HR := Lib.hid hr
    have HK : Hid (∀ w1, Below (w.alloc (.cells #[.int .i64 a, .int .i64 b] 24)).heap.size (w.alloc (.cells #[.int .i64 a, .int .i64 b] 24)) w1 → Boxed w a b w1 ∧ FrontP w1 g s m ms) := Lib.hid fun w1 hb => ⟨HB.out.on hb, (HP.out.on (below_one w (.cells #[.int .i64 a, .int .i64 b] 24))).on hb⟩
    by_cases hm : (a, b) ∈ ms
    · have HE : Hid (fresh ms (a, b) = false ∧ marked ms (a, b) = ms) := Lib.hid ⟨by unfold fresh; rw [hr, decide_eq_true hm]; rfl, by unfold marked; rw [if_pos hr, put_of_mem hm]⟩
      rw [decide_eq_true hm] at HH
      clear hm hr hq h hx
      go_enter Try.func8, Try.ntmps8
      go_wp2_with (first
        | (go_at_call 20; ((with_reducible refine HC.out.mono ?_); rintro e w1 ⟨rfl, hb⟩; have K1 := Lib.hid (HK.out _ hb); have d0 := K1.out.1.fst; have d1 := K1.out.1.snd; clear hb))
        | (go_at_call 13; ((with_reducible refine (HH.out _ K1.out.2).mono ?_); rintro e w2 ⟨rfl, hb⟩; have HB2 := Lib.hid hb; clear hb)))
      go_ret
      exact ⟨ret_bool HE.out.1.symm, by rw [HE.out.2]; exact K1.out.2.on HB2.out, (Save.of K1.out.1.below).trans (Save.of HB2.out)⟩
    · have HE : Hid (fresh ms (a, b) = true ∧ marked ms (a, b) = put ms (a, b)) := Lib.hid ⟨by unfold fresh; rw [hr, decide_eq_false hm]; rfl, by unfold marked; rw [if_pos hr]⟩
      rw [decide_eq_false hm] at HH
      have HM := Lib.hid hm
      have HX := Lib.hid hx
      have hr4 := (right_iff _).1 hr
      obtain ⟨r, rfl⟩ : ∃ r : Nat, a = (r : Int) := ⟨a.toNat, by have := hr4.1; omega⟩
      have hr8 : r < 8 := by have := hr4.2.1; omega
      have HL := Lib.hid hl
      clear hm hr hq h hx hr4 hl
      go_enter Try.func8, Try.ntmps8
      go_wp2_with (first
        | (go_at_call 20; ((with_reducible refine HC.out.mono ?_); rintro e w1 ⟨rfl, hb⟩; have K1 := Lib.hid (HK.out _ hb); have d0 := K1.out.1.fst; have d1 := K1.out.1.snd; clear hb))
        | (go_at_call 13; ((with_reducible refine (HH.out _ K1.out.2).mono ?_); rintro e w2 ⟨rfl, hb⟩; have K2 := Lib.hid (And.intro (K1.out.1.on hb) (K1.out.2.on hb)); clear hb; refine Hid.out ?_)))
      obtain ⟨fs, zs, hf, hmm, hgap⟩ := K2.out.2
      have b0 := K2.out.1.fst
      have b1 := K2.out.1.snd
      have b8 := hf.ptr
      have HF2 : Hid (FrontI w2.drew g s m fs zs) := Lib.hid (hf.on (Below.refl _ _).drew)
      have HG := Lib.hid hgap
      have HMM := Lib.hid (hmm.more HR.out HM.out)
      have HA : Hid (Calls Try.prog 21 #[.pointer (some ⟨s, 0, none⟩), .agg #[.int .i64 (r : Int), .int .i64 b]] w2.drew fun e w' => ∃ t, e = .returned (.bool t) ∧ Turns s m (put zs ((r : Int), b)) w2.drew w') := Lib.hid ((add_p s m zs r b _ HF2.out.set HX.out (by have := hmm.lenZ; have := HL.out; omega)).mono fun e w' ⟨he, ht⟩ => ⟨_, he, ht⟩)
      have KS : Hid (∀ w3, Turns s m (put zs ((r : Int), b)) w2.drew w3 → (w3.cell? ⟨g, 8, none⟩ = some (.pointer (some ⟨s, 0, none⟩)) ∧ w3.cell? ⟨w.heap.size, 0, none⟩ = some (.int .i64 (r : Int)) ∧ w3.cell? ⟨w.heap.size, 1, none⟩ = some (.int .i64 b))) := Lib.hid fun w3 h3 => ⟨(HF2.out.turn h3).ptr, grown_cell h3.grown HF2.out.set.set.isMap b0, grown_cell h3.grown HF2.out.set.set.isMap b1⟩
      have HSV : Hid (Save g m w w2.drew) := Lib.hid (Save.of K2.out.1.below.drew)
      have HRS : Hid (∀ W, FrontI W g s m fs (put zs ((r : Int), b)) → Calls Try.prog 22 #[.pointer (some ⟨g, 0, none⟩), .int .i64 (r : Int)] W (Raised g s m (put ms ((r : Int), b)) fs r W)) := Lib.hid fun W hW => raise_p g s m _ fs _ r hr8 W hW HMM.out
      clear hf hmm hgap c1 c2 d0 d1
      refine Lib.hid ?_
      go_wp2
      go_region_held3 (fun w' => w'.cell? ⟨g, 8, none⟩ = some (.pointer (some ⟨s, 0, none⟩)) ∧ w'.cell? ⟨w.heap.size, 0, none⟩ = some (.int .i64 (r : Int)) ∧ w'.cell? ⟨w.heap.size, 1, none⟩ = some (.int .i64 b))
        (first | exact KS3.out | go_keep)
        (first
          | (go_at_call 21; (with_reducible refine HA.out.mono ?_); rintro e w3 ⟨t, rfl, ht⟩; have KS3 := Lib.hid (KS.out _ ht); have e0 := (KS.out _ ht).2.1; have HF3 := Lib.hid (HF2.out.turn ht); have HS3 := Lib.hid (HSV.out.trans (Save.grown ht.grown)); clear ht))
      go_wp2_with (first
        | (go_at_call 22; ((with_reducible refine (HRS.out _ HF3.out).mono ?_); rintro e w4 ⟨rfl, hd⟩; have HD := Lib.hid hd; clear hd)))
      go_ret
      obtain ⟨fs', zs', hf', hm', hsame, hgap, hsv⟩ := HD.out
      refine ⟨ret_bool HE.out.1.symm, ?_, HS3.out.trans hsv⟩
      rw [HE.out.2]
      refine ⟨fs', zs', hf', hm', HG.out.more HR.out (fun k hk => hsame k ?_) ?_⟩
      · have e : ((r : Int), b).1.toNat = r := Int.toNat_natCast r
        rwa [e] at hk
      · show ((r : Int), fs' ((r : Int)).toNat + 1) ∉ put ms ((r : Int), b)
        rw [Int.toNat_natCast]; exact hgap
  · have hr : idRight (a, b) = false := by
      cases h : idRight (a, b) with
      | true => rw [(err_right _).2 h] at hq; exact absurd hq.symm hz
      | false => rfl
    have HE : Hid (fresh ms (a, b) = false ∧ marked ms (a, b) = ms) := Lib.hid ⟨by unfold fresh; rw [hr]; rfl, by unfold marked; rw [hr]; rfl⟩
    have hq0 : (q == 0) = false := beq_eq_false_iff_ne.2 hz
    clear h hx hq hr
    go_enter Try.func8, Try.ntmps8
    go_wp2_with (go_at_call 20; ((with_reducible refine HC.out.mono ?_); rintro e w1 ⟨rfl, hb⟩; have HB1 := Lib.hid hb; clear hb))
    go_ret
    have hb := H0.out.trans (HB1.out.mono H0.out.size)
    exact ⟨ret_bool HE.out.1.symm, by rw [HE.out.2]; exact HP.out.on hb, Save.of hb⟩
end Go.Proofs.Ytjkjbpfpmghlaaa
