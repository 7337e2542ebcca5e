/- The small play of layer 20's statements (premise): it returns true, whatever way graphs are kept (under Graphs and Premise). No condition but those in each statement. -/
import Derived.Test.YtomidcbpnaajeaaGreatPreG
import Derived.Test.YtomidcbpnaajeaaGreatReg
namespace Go.Proofs.YtomidcbpnaajeaaGreat.Pre
open Go.RowKit Cmd Bat Ids Rec Wid Gra Cps
set_option linter.unusedVariables false
set_option linter.unusedSimpArgs false

def prs : List Rcd := [((0, 1), 1, [], [(2, [107], 4607182418800017408)]), ((0, 2), 1, [], [(2, [107], 4607182418800017408)])]
def prm : List Rcd := [((0, 1), 1, [], [(2, [107], 4607182418800017408)]), ((0, 2), 1, [(0, 1)], [(2, [107], 4607182418800017408)])]
theorem prs_err : gErr prs = 0 := by decide
theorem prs_mend : mendG prs = prm := by rfl
theorem prs_edge : edgeG prs (0, 1) (0, 2) = false := by decide
theorem prs_holds : Hlds prs (0, 1) (0, 2) false := .inr ⟨rfl, 0, 1, by decide, by decide, by decide, by decide, by decide, fun j m h1 h2 h => by
  have h3 : m < 2 := h2
  omega⟩
theorem prs_lot : Lot prs := by
  have key : ∀ x ∈ prs, wfG x ∧ x.2.2.1.length ≤ 1000 ∧ x.2.2.2.length ≤ 1000 := fun x hx => by
    unfold prs at hx
    simp only [List.mem_cons, List.not_mem_nil, or_false] at hx
    rcases hx with rfl | rfl
    · exact ⟨⟨⟨by decide, by decide⟩, fun d hd => (by cases hd), fun c hc => by rw [List.mem_singleton.1 hc]; exact ⟨by decide, by decide⟩⟩, by decide, by decide⟩
    · exact ⟨⟨⟨by decide, by decide⟩, fun d hd => (by cases hd), fun c hc => by rw [List.mem_singleton.1 hc]; exact ⟨by decide, by decide⟩⟩, by decide, by decide⟩
  exact ⟨fun x hx => (key x hx).1, by decide, fun x hx => (key x hx).2⟩
theorem one_cmdP {W : World} {g : Nat} {c : Int} {s : List UInt8} {f : Nat} (h : W.heap[g]? = some (.cells #[.int .i64 c, .string (str s), .float .f64 f] 55 (0, 0))) : layC.Row W (.slice (some ⟨g, 0, none⟩) 1 1) [(c, s, f)] := by
  refine ⟨_, 1, rfl, Nat.le_refl _, by omega, fun _ => ⟨g, 0, rfl, (Array.getElem?_eq_some_iff.1 h).1, fun j hj => ?_⟩⟩
  obtain rfl : j = 0 := by have : j < 1 := hj; omega
  exact ⟨cell_row h rfl, cell_row h rfl, cell_row h rfl⟩
theorem no_idsP (W : World) : RowAt W (.slice none 0 0) [] := ⟨none, 0, rfl, Nat.le_refl _, by omega, (fun _ => rfl), fun h => absurd rfl h⟩
theorem two_recP {W : World} {g : Nat} {c1 : Value} (h : W.heap[g]? = some (.cells #[.int .i64 0, .int .i64 1, .int .i64 1, .slice none 0 0, c1, .int .i64 0, .int .i64 2, .int .i64 1, .slice none 0 0, c1] 42 (0, 0)))
    (h1 : layC.Row W c1 [(2, [107], 4607182418800017408)]) : layG.Row W (.slice (some ⟨g, 0, none⟩) 2 2) prs := by
  refine ⟨_, 2, rfl, Nat.le_refl _, by omega, fun _ => ⟨g, 0, rfl, (Array.getElem?_eq_some_iff.1 h).1, fun j hj => ?_⟩⟩
  have hj2 : j = 0 ∨ j = 1 := by have : j < 2 := hj; omega
  rcases hj2 with rfl | rfl
  · exact ⟨cell_row h rfl, cell_row h rfl, cell_row h rfl, ⟨_, cell_row h rfl, no_idsP W⟩, _, cell_row h rfl, h1⟩
  · exact ⟨cell_row h rfl, cell_row h rfl, cell_row h rfl, ⟨_, cell_row h rfl, no_idsP W⟩, _, cell_row h rfl, h1⟩
/-- What the boxes hold, and the batch of both. -/
structure Bx (w W : World) : Prop where
  low : Below w.heap.size w W
  cmd : layC.Row W (.slice (some ⟨w.heap.size, 0, none⟩) 1 1) [(2, [107], 4607182418800017408)]
  a : W.heap[w.heap.size + 1]? = some (.cells #[.int .i64 0, .int .i64 1, .int .i64 1, .slice none 0 0, .slice (some ⟨w.heap.size, 0, none⟩) 1 1] 42 (0, 0))
  b : W.heap[w.heap.size + 1 + 1]? = some (.cells #[.int .i64 0, .int .i64 2, .int .i64 1, .slice none 0 0, .slice (some ⟨w.heap.size, 0, none⟩) 1 1] 42 (0, 0))
theorem Bx.on {w W X : World} (h : Bx w W) (hb : Below W.heap.size W X) : Bx w X := ⟨h.low.trans (hb.mono h.low.size), h.cmd.on hb, (hb.block _ (Array.getElem?_eq_some_iff.1 h.a).1).trans h.a, (hb.block _ (Array.getElem?_eq_some_iff.1 h.b).1).trans h.b⟩
theorem bx_made (w : World) : Bx w (((w.alloc (.cells #[.int .i64 2, .string ⟨#[107]⟩, .float .f64 4607182418800017408] 55)).alloc (.cells #[.int .i64 0, .int .i64 1, .int .i64 1, .slice none 0 0, .slice (some ⟨w.heap.size, 0, none⟩) 1 1] 42)).alloc (.cells #[.int .i64 0, .int .i64 2, .int .i64 1, .slice none 0 0, .slice (some ⟨w.heap.size, 0, none⟩) 1 1] 42)) := by
  have b1 := Cmd.below_one w (.cells #[.int .i64 2, .string ⟨#[107]⟩, .float .f64 4607182418800017408] 55)
  have n1 := heap_alloc_new w (.cells #[.int .i64 2, .string ⟨#[107]⟩, .float .f64 4607182418800017408] 55)
  obtain ⟨w1, h1⟩ : ∃ w1, w1 = w.alloc (.cells #[.int .i64 2, .string ⟨#[107]⟩, .float .f64 4607182418800017408] 55) := ⟨_, rfl⟩
  have s1 : w1.heap.size = w.heap.size + 1 := by rw [h1]; simp
  rw [← h1] at b1 n1 ⊢
  have b2 := Cmd.below_one w1 (.cells #[.int .i64 0, .int .i64 1, .int .i64 1, .slice none 0 0, .slice (some ⟨w.heap.size, 0, none⟩) 1 1] 42)
  have n2 := heap_alloc_new w1 (.cells #[.int .i64 0, .int .i64 1, .int .i64 1, .slice none 0 0, .slice (some ⟨w.heap.size, 0, none⟩) 1 1] 42)
  obtain ⟨w2, h2⟩ : ∃ w2, w2 = w1.alloc (.cells #[.int .i64 0, .int .i64 1, .int .i64 1, .slice none 0 0, .slice (some ⟨w.heap.size, 0, none⟩) 1 1] 42) := ⟨_, rfl⟩
  have s2 : w2.heap.size = w.heap.size + 1 + 1 := by rw [h2, World.size_alloc, s1]
  rw [← h2] at b2 n2 ⊢
  have b3 := Cmd.below_one w2 (.cells #[.int .i64 0, .int .i64 2, .int .i64 1, .slice none 0 0, .slice (some ⟨w.heap.size, 0, none⟩) 1 1] 42)
  have n3 := heap_alloc_new w2 (.cells #[.int .i64 0, .int .i64 2, .int .i64 1, .slice none 0 0, .slice (some ⟨w.heap.size, 0, none⟩) 1 1] 42)
  have b23 := b2.trans (b3.mono b2.size)
  rw [s1] at n2
  rw [s2] at n3
  exact ⟨b1.trans (b23.mono b1.size), (one_cmdP (c := 2) (s := [107]) (f := 4607182418800017408) n1).on b23, (b3.block _ (by omega)).trans n2, n3⟩
theorem bx_size (w : World) : (((w.alloc (.cells #[.int .i64 2, .string ⟨#[107]⟩, .float .f64 4607182418800017408] 55)).alloc (.cells #[.int .i64 0, .int .i64 1, .int .i64 1, .slice none 0 0, .slice (some ⟨w.heap.size, 0, none⟩) 1 1] 42)).alloc (.cells #[.int .i64 0, .int .i64 2, .int .i64 1, .slice none 0 0, .slice (some ⟨w.heap.size, 0, none⟩) 1 1] 42)).heap.size = w.heap.size + 1 + 1 + 1 := by simp
set_option maxRecDepth 100000 in
set_option maxHeartbeats 16000000 in
theorem pplay_any {G : Nat → Nat → List Rcd → World → Prop} (HG : Graphs G) (PG : Premise G) (w : World) : Calls Tryz.prog 7 #[] w (RetBelow (.bool true) w) := by
  have HGG := Lib.hid HG
  have HPG := Lib.hid PG
  have X3 := Lib.hid (bx_made w)
  have S3 := Lib.hid (bx_size w)
  obtain ⟨w3, hw3⟩ : ∃ w3, w3 = (((w.alloc (.cells #[.int .i64 2, .string ⟨#[107]⟩, .float .f64 4607182418800017408] 55)).alloc (.cells #[.int .i64 0, .int .i64 1, .int .i64 1, .slice none 0 0, .slice (some ⟨w.heap.size, 0, none⟩) 1 1] 42)).alloc (.cells #[.int .i64 0, .int .i64 2, .int .i64 1, .slice none 0 0, .slice (some ⟨w.heap.size, 0, none⟩) 1 1] 42)) := ⟨_, rfl⟩
  rw [← hw3] at X3 S3
  have HB4 := Lib.hid (Cmd.below_one w3 (.cells #[.int .i64 0, .int .i64 1, .int .i64 1, .slice none 0 0, .slice (some ⟨w.heap.size, 0, none⟩) 1 1, .int .i64 0, .int .i64 2, .int .i64 1, .slice none 0 0, .slice (some ⟨w.heap.size, 0, none⟩) 1 1] 42))
  have X4 := Lib.hid (X3.out.on HB4.out)
  have r4 := two_recP (heap_alloc_new w3 (.cells #[.int .i64 0, .int .i64 1, .int .i64 1, .slice none 0 0, .slice (some ⟨w.heap.size, 0, none⟩) 1 1, .int .i64 0, .int .i64 2, .int .i64 1, .slice none 0 0, .slice (some ⟨w.heap.size, 0, none⟩) 1 1] 42)) X4.out.cmd
  rw [S3.out] at r4
  have CN := Lib.hid (pnew_ok HG r4 prs_lot prs_err)
  subst hw3
  clear r4 HG PG S3
  go_enter Tryz.func7, Tryz.ntmps7
  go_upto_region 4 with (go_at_call 8; ((with_reducible refine CN.out.mono ?_); rintro E w6 ⟨g, rfl, hg, hb⟩; have X6 := Lib.hid (X4.out.on hb); have G6 := Lib.hid hg; have CH := Lib.hid (HPG.out.holds hg); clear hb hg))
  go_upto_region 5 with (go_at_call 9; ((with_reducible refine CH.out.mono ?_); rintro E w7 ⟨a, b, a', b', ok, rfl, hh, hb⟩; obtain ⟨e1, e2, rfl⟩ := hlds_one hh prs_holds; obtain ⟨rfl, rfl⟩ := Prod.mk.inj e1; obtain ⟨rfl, rfl⟩ := Prod.mk.inj e2; have X7 := Lib.hid (X6.out.on hb); have G7 := Lib.hid (HGG.out.on G6.out hb); clear hb hh e1 e2))
  have hb1 := Cmd.below_one w7 (.cells #[.int .i64 0, .int .i64 1] 32)
  have hi1 := heap_alloc_new w7 (.cells #[.int .i64 0, .int .i64 1] 32)
  have hb2 := Cmd.below_one (w7.alloc (.cells #[.int .i64 0, .int .i64 1] 32)) (.cells #[.int .i64 0, .int .i64 2] 32)
  have hi2 := heap_alloc_new (w7.alloc (.cells #[.int .i64 0, .int .i64 1] 32)) (.cells #[.int .i64 0, .int .i64 2] 32)
  rw [show (w7.alloc (.cells #[.int .i64 0, .int .i64 1] 32)).heap.size = w7.heap.size + 1 by simp] at hi2
  have hi1' := (hb2.block w7.heap.size (by simp)).trans hi1
  have hb12 := hb1.trans (hb2.mono hb1.size)
  have X9 := Lib.hid (X7.out.on hb12)
  have G9 := Lib.hid (HGG.out.on G7.out (hb12.mono (HGG.out.le G7.out)))
  have I9 := Lib.hid (And.intro hi1' hi2)
  obtain ⟨w9, hw9⟩ : ∃ w9, w9 = (w7.alloc (.cells #[.int .i64 0, .int .i64 1] 32)).alloc (.cells #[.int .i64 0, .int .i64 2] 32) := ⟨_, rfl⟩
  rw [← hw9] at X9 G9 I9 ⊢
  clear hw9 hb1 hi1 hb2 hi2 hi1' hb12
  have a0 := cell_row (i := 0) X9.out.a rfl
  have a1 := cell_row (i := 1) X9.out.a rfl
  have a2 := cell_row (i := 2) X9.out.a rfl
  have a3 := cell_row (i := 3) X9.out.a rfl
  have a4 := cell_row (i := 4) X9.out.a rfl
  have b0 := cell_row (i := 0) X9.out.b rfl
  have b1 := cell_row (i := 1) X9.out.b rfl
  have b2 := cell_row (i := 2) X9.out.b rfl
  have b3 := cell_row (i := 3) X9.out.b rfl
  have b4 := cell_row (i := 4) X9.out.b rfl
  have HB10 := Lib.hid (Cmd.below_one w9 (.cells #[.int .i64 0, .int .i64 1, .int .i64 1, .slice none 0 0, .slice (some ⟨w.heap.size, 0, none⟩) 1 1, .int .i64 0, .int .i64 2, .int .i64 1, .slice none 0 0, .slice (some ⟨w.heap.size, 0, none⟩) 1 1] 42))
  have X10 := Lib.hid (X9.out.on HB10.out)
  have CM := Lib.hid (HPG.out.mend _ _ _ (two_recP (heap_alloc_new w9 (.cells #[.int .i64 0, .int .i64 1, .int .i64 1, .slice none 0 0, .slice (some ⟨w.heap.size, 0, none⟩) 1 1, .int .i64 0, .int .i64 2, .int .i64 1, .slice none 0 0, .slice (some ⟨w.heap.size, 0, none⟩) 1 1] 42)) X10.out.cmd) prs_lot)
  rw [prs_mend] at CM
  go_upto_region 6 with (go_at_call 17; ((with_reducible refine CM.out.mono ?_); rintro E w11 ⟨vl, rfl, hr, hb⟩; have HB11 := Lib.hid hb; have RL := Lib.hid hr; clear hb hr))
  have HB911 := Lib.hid (HB10.out.trans (HB11.out.mono HB10.out.size))
  have X11 := Lib.hid (X9.out.on HB911.out)
  have i1 := (HB911.out.block _ (Array.getElem?_eq_some_iff.1 I9.out.1).1).trans I9.out.1
  have i2 := (HB911.out.block _ (Array.getElem?_eq_some_iff.1 I9.out.2).1).trans I9.out.2
  clear a0 a1 a2 a3 a4 b0 b1 b2 b3 b4 CM CH CN
  have a0 := cell_row (i := 0) X11.out.a rfl
  have a1 := cell_row (i := 1) X11.out.a rfl
  have b0 := cell_row (i := 0) X11.out.b rfl
  have b1 := cell_row (i := 1) X11.out.b rfl
  have x0 := cell_row (i := 0) i1 rfl
  have x1 := cell_row (i := 1) i1 rfl
  have y0 := cell_row (i := 0) i2 rfl
  have y1 := cell_row (i := 1) i2 rfl
  obtain ⟨pl, cl, rfl, -, hdl⟩ := RL.out.parts
  obtain ⟨Bl, ol, rfl, HCl⟩ := hdl.resolve_left (by decide)
  obtain ⟨p1, k1, p1', k1', A1, -, -⟩ := rcdAt HCl.out (k := 1) (by decide) (show layG.at prm 1 = ((0, 2), 1, [(0, 1)], [(2, [107], 4607182418800017408)]) from rfl)
  have l3 : w11.cell? ⟨Bl, ol + 1 * 5 + 3, none⟩ = some (.slice p1 1 k1) := A1.c3
  have CE := Lib.hid (HPG.out.edge (HGG.out.on G9.out (HB911.out.mono (HGG.out.le G9.out))) 0 1 0 2 ⟨by decide, by decide⟩ ⟨by decide, by decide⟩)
  rw [prs_edge] at CE
  change Hid (layG.Row w11 (Value.slice (some ⟨Bl, ol, none⟩) 2 cl) prm) at RL
  change Code.wp _ _ _ _ _
  go_wp2_with (go_at_call 12; ((with_reducible refine CE.out.mono ?_); rintro E w12 ⟨rfl, hb⟩; have X12 := Lib.hid (X11.out.on hb); clear hb))
  go_ret
  exact ⟨rfl, X12.out.low⟩
end Go.Proofs.YtomidcbpnaajeaaGreat.Pre
