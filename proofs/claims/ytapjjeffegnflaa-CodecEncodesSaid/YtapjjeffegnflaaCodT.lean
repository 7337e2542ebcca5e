/- The statement's function of layer 11 (codec) on any record's bytes: it returns true. Conditions: the record's lists lie in memory as their cells say; texts of a length that Go reads. (Written by tools/gen_encodes.py.) -/
import Derived.Test.YtapjjeffegnflaaCodP
namespace Go.Proofs.Ytapjjeffegnflaa.Cod
open Go.RowKit F64 Cmd Bat Ids Rec Wir Dig
set_option linter.unusedVariables false
set_option linter.unusedSimpArgs false

set_option maxHeartbeats 16000000 in
set_option maxRecDepth 100000 in
theorem encodes_many (a b q : Int) (v u : Value) (ds : List Idn) (cs : List Cmdn) (w : World) (h : RowAt w v ds) (g : layC.Row w u cs) (hw : ∀ x ∈ cs, wfC x) (hl : 100 < ds.length ∨ (¬ 100 < ds.length ∧ 100 < cs.length)) : Calls Try.prog 3 #[.agg #[.int .i64 a, .int .i64 b, .int .i64 q, v, u]] w (RetBelow (.bool true) w) := by
  have CW := Lib.hid cplay_any
  have B0 := Lib.hid (BoxR.start 27 w a b q v u)
  have hv : ∃ p cap, v = .slice p ds.length cap := by obtain ⟨p, cap, e, _⟩ := h; exact ⟨p, cap, e⟩
  have hu : ∃ p cap, u = .slice p cs.length cap := by obtain ⟨p, cap, e, _⟩ := g; exact ⟨p, cap, e⟩
  obtain ⟨p1, k1, rfl⟩ := hv
  obtain ⟨p3, k3, rfl⟩ := hu
  unfold cellsR at B0
  clear h g hw
  rcases hl with h1 | ⟨h1, h2⟩
  · have h1' : (100 : Int) < ds.length := by omega
    have h3 : decide ((100 : Int) < ds.length) = true := decide_eq_true h1'
    clear h1
    go_enter Try.func3, Try.ntmps3
    go_wp2_with (first
      | (go_at_call 6; (with_reducible refine (CW.out _).mono ?_); rintro E1 w1 ⟨rfl, hb⟩; have B1 := Lib.hid (B0.out.on hb); clear hb))
    go_ret
    exact ⟨rfl, B1.out.below⟩
  · have h1' : ¬ (100 : Int) < ds.length := by omega
    have h2' : (100 : Int) < cs.length := by omega
    have h3 : decide ((100 : Int) < ds.length) = false := decide_eq_false h1'
    have h4 : decide ((100 : Int) < cs.length) = true := decide_eq_true h2'
    clear h1 h2
    go_enter Try.func3, Try.ntmps3
    go_wp2_with (first
      | (go_at_call 6; (with_reducible refine (CW.out _).mono ?_); rintro E1 w1 ⟨rfl, hb⟩; have B1 := Lib.hid (B0.out.on hb); clear hb))
    go_ret
    exact ⟨rfl, B1.out.below⟩
set_option maxHeartbeats 16000000 in
set_option maxRecDepth 100000 in
theorem encodes_no (a b q : Int) (v u : Value) (ds : List Idn) (cs : List Cmdn) (w : World) (h : RowAt w v ds) (g : layC.Row w u cs) (hw : ∀ x ∈ cs, wfC x) (h1 : ¬ 100 < ds.length) (h2 : ¬ 100 < cs.length) (hne : rErr a b q ds cs ≠ 0) : Calls Try.prog 3 #[.agg #[.int .i64 a, .int .i64 b, .int .i64 q, v, u]] w (RetBelow (.bool true) w) := by
  have CW := Lib.hid cplay_any
  have B0 := Lib.hid (BoxR.start 27 w a b q v u)
  obtain ⟨x, hx⟩ : ∃ x, rErr a b q ds cs = x := ⟨_, rfl⟩
  have CZ := Lib.hid (fun W (hb : Below w.heap.size w W) => size_r a b q v u ds cs W (h.on hb) (g.on hb) hw)
  rw [if_neg hne] at CZ
  rw [hx] at hne
  have CE := Lib.hid (fun W (hb : Below w.heap.size w W) => enc_no (h.on hb) (g.on hb) hw hx hne)
  have CK := Lib.hid (fun W (hb : Below w.heap.size w W) => refcheck_r a b q v u ds cs W (h.on hb) (g.on hb) hw)
  rw [hx] at CK
  have x1 : (x != 0) = true := by rw [bne_iff_ne]; exact hne
  have x2 : (x == x) = true := by rw [beq_iff_eq]
  have h1' : ¬ (100 : Int) < ds.length := by omega
  have h2' : ¬ (100 : Int) < cs.length := by omega
  have h3 : decide ((100 : Int) < ds.length) = false := decide_eq_false h1'
  have h4 : decide ((100 : Int) < cs.length) = false := decide_eq_false h2'
  have hv : ∃ p cap, v = .slice p ds.length cap := by obtain ⟨p, cap, e, _⟩ := h; exact ⟨p, cap, e⟩
  have hu : ∃ p cap, u = .slice p cs.length cap := by obtain ⟨p, cap, e, _⟩ := g; exact ⟨p, cap, e⟩
  obtain ⟨p1, k1, rfl⟩ := hv
  obtain ⟨p3, k3, rfl⟩ := hu
  unfold cellsR at B0
  clear h g hw hx h1 h2
  go_enter Try.func3, Try.ntmps3
  go_wp2_with (first
    | (go_at_call 7; (with_reducible refine (CE.out _ B0.out.below).mono ?_); rintro E1 w1 ⟨rfl, hb⟩; have B1 := Lib.hid (B0.out.on hb); obtain ⟨x0, x1, x2, x3, x4⟩ := B1.out.five; clear hb)
    | (go_at_call 8; (with_reducible refine (CK.out _ B1.out.below).mono ?_); rintro E2 w2 ⟨rfl, hb⟩; have B2 := Lib.hid (B1.out.on hb); obtain ⟨y0, y1, y2, y3, y4⟩ := B2.out.five; clear hb)
    | (go_at_call 9; (with_reducible refine (CZ.out _ B2.out.below).mono ?_); rintro E3 w3 ⟨rfl, hb⟩; have B3 := Lib.hid (B2.out.on hb); clear hb)
    | (go_at_call 6; (with_reducible refine (CW.out _).mono ?_); rintro E4 w4 ⟨rfl, hb⟩; have B4 := Lib.hid (B3.out.on hb); clear hb))
  go_ret
  exact ⟨rfl, B4.out.below⟩
set_option maxHeartbeats 16000000 in
set_option maxRecDepth 100000 in
theorem encodes_ok (a b q : Int) (v u : Value) (ds : List Idn) (cs : List Cmdn) (w : World) (h : RowAt w v ds) (g : layC.Row w u cs) (hw : ∀ x ∈ cs, wfC x) (h1 : ¬ 100 < ds.length) (h2 : ¬ 100 < cs.length) (he : rErr a b q ds cs = 0) : Calls Try.prog 3 #[.agg #[.int .i64 a, .int .i64 b, .int .i64 q, v, u]] w (RetBelow (.bool true) w) := by
  have CW := Lib.hid cplay_any
  have B0 := Lib.hid (BoxR.start 27 w a b q v u)
  have hw2 : ∀ c ∈ cs, c.2.2 < 18446744073709551616 := fun c hc => (hw c hc).1
  have hlen := recB_len (small_of he hw2)
  have hsl := seal_len (recB a b q ds cs)
  have CZ := Lib.hid (fun W (hb : Below w.heap.size w W) => size_r a b q v u ds cs W (h.on hb) (g.on hb) hw)
  rw [if_pos he] at CZ
  have hdp := dec_put he hw2
  have CB := Lib.hid (fun W (hb : Below w.heap.size w W) => bytes_r a b q v u ds cs W (h.on hb) (g.on hb) (fine_of he hw2))
  obtain ⟨Z, hZ⟩ : ∃ Z, sealt (recB a b q ds cs) = Z := ⟨_, rfl⟩
  rw [hZ] at hsl CZ hdp CB
  obtain ⟨n, hn⟩ : ∃ n, Z.length = n := ⟨_, rfl⟩
  rw [hn] at CZ
  have hn0 : 0 < n := by omega
  have CE := Lib.hid (fun W (hb : Below w.heap.size w W) => enc_ok (h.on hb) (g.on hb) hw he hZ hn hn0)
  have CK := Lib.hid (fun W (hb : Below w.heap.size w W) => refcheck_r a b q v u ds cs W (h.on hb) (g.on hb) hw)
  rw [he] at CK
  have CR := Lib.hid (fun W hb => (CB.out W hb).mono fun E w' h => gives_row h rfl hn)
  have CD : Hid (∀ W V, layB.Row W V Z → Calls Try.prog 10 #[V] W (GivesRd a b q ds (cs.map cmdC) W)) := Lib.hid fun W V hr => (decode_any V Z W hr (by omega)).mono fun E w' h => h.took hdp
  have hzr := zero_right he
  have CS : Hid (∀ W p1 c1 p2 c2 cs2, Below w.heap.size w W → cs2.map cmdC = cs.map cmdC → GoodC cs2 → RowAt W (.slice p1 ds.length c1) ds → layC.Row W (.slice p2 cs2.length c2) cs2 → Calls Try.prog 12 #[.agg #[.int .i64 a, .int .i64 b, .int .i64 q, .slice p1 ds.length c1, .slice p2 cs2.length c2], .agg #[.int .i64 a, .int .i64 b, .int .i64 q, v, u]] W (RetBelow (.bool true) W)) := Lib.hid fun W p1 c1 p2 c2 cs2 hb e1 e2 r1 r2 => by
    have := refsame_r a b q (.slice p1 ds.length c1) (.slice p2 cs2.length c2) a b q v u ds ds cs2 cs W r1 r2 (h.on hb) (g.on hb) (dec_has e2 (by rw [e1]; exact hdp)).1 hw
    rw [rsame_cmdC (zero_good e2) hzr e1] at this
    exact this
  have h1' : ¬ (100 : Int) < ds.length := by omega
  have h2' : ¬ (100 : Int) < cs.length := by omega
  have h3 : decide ((100 : Int) < ds.length) = false := decide_eq_false h1'
  have h4 : decide ((100 : Int) < cs.length) = false := decide_eq_false h2'
  have hv : ∃ p cap, v = .slice p ds.length cap := by obtain ⟨p, cap, e, _⟩ := h; exact ⟨p, cap, e⟩
  have hu : ∃ p cap, u = .slice p cs.length cap := by obtain ⟨p, cap, e, _⟩ := g; exact ⟨p, cap, e⟩
  obtain ⟨p1, k1, rfl⟩ := hv
  obtain ⟨p3, k3, rfl⟩ := hu
  unfold cellsR at B0
  have nn : ((n : Int) == n) = true := by rw [beq_iff_eq]
  have hcv : Hid (∀ W base g cap, OwnB W base (.slice (some ⟨g, 0, none⟩) n cap) Z → ∀ X, Below W.heap.size W X → (convert 29 9 (.slice (some ⟨g, 0, none⟩) n cap)).run Try.prog X = .ok (.string (str Z)) X) := Lib.hid fun W base g cap ho X hb => text_run ((rowB ho).on hb)
  clear h g hw hw2 hlen hsl hdp hZ hn hn0 hzr h1 h2 CB
  go_enter Try.func3, Try.ntmps3
  go_wp2_with (first
    | (go_at_call 7; (with_reducible refine (CE.out _ B0.out.below).mono ?_); rintro E1 w1 ⟨g1, cap1, rfl, ho, hc1, hb⟩; have B1 := Lib.hid (B0.out.on hb); have O1 := Lib.hid ho; obtain ⟨x0, x1, x2, x3, x4⟩ := B1.out.five; clear ho hb)
    | (go_at_call 8; (with_reducible refine (CK.out _ B1.out.below).mono ?_); rintro E2 w2 ⟨rfl, hb⟩; have B2 := Lib.hid (B1.out.on hb); have O2 := Lib.hid (own_below O1.out hb); have C2 := Lib.hid (CD.out _ _ (rowB O2.out)); clear hb)
    | (go_at_call 10; (with_reducible refine C2.out.mono ?_); rintro E3 w3 ⟨p5, c5, p6, c6, cs2, rfl, hm, hg, r1, r2, hb⟩; have B3 := Lib.hid (B2.out.on hb); have O3 := Lib.hid (own_below O2.out hb); have HM := Lib.hid hm; have HG := Lib.hid hg; have R1 := Lib.hid r1; have R2 := Lib.hid r2; clear hb hm hg r1 r2))
  have B4 := Lib.hid (B3.out.on (Cmd.below_one w3 (Obj.cells #[.int .i64 a, .int .i64 b, .int .i64 q, .slice p5 ds.length c5, .slice p6 cs2.length c6] 27)))
  have F4 := Lib.hid (Five.new w3 (.int .i64 a) (.int .i64 b) (.int .i64 q) (.slice p5 ds.length c5) (.slice p6 cs2.length c6) 27)
  have lt4 : Hid (w3.heap.size < (w3.alloc (Obj.cells #[.int .i64 a, .int .i64 b, .int .i64 q, .slice p5 ds.length c5, .slice p6 cs2.length c6] 27)).heap.size) := Lib.hid (by simp)
  have A4 := Lib.hid (Cmd.below_one w3 (Obj.cells #[.int .i64 a, .int .i64 b, .int .i64 q, .slice p5 ds.length c5, .slice p6 cs2.length c6] 27))
  have hcv3 := Lib.hid (hcv.out _ _ _ _ O3.out)
  generalize hW4 : (w3.alloc (Obj.cells #[.int .i64 a, .int .i64 b, .int .i64 q, .slice p5 ds.length c5, .slice p6 cs2.length c6] 27)) = w4 at B4 F4 lt4 A4 ⊢
  clear hW4 hcv
  have HS : Hid (∀ w', Below w4.heap.size w4 w' → (w'.cell? ⟨w.heap.size, 0, none⟩ = some (.int .i64 a) ∧ w'.cell? ⟨w.heap.size, 1, none⟩ = some (.int .i64 b) ∧ w'.cell? ⟨w.heap.size, 2, none⟩ = some (.int .i64 q) ∧ w'.cell? ⟨w.heap.size, 3, none⟩ = some (.slice p1 ds.length k1) ∧ w'.cell? ⟨w.heap.size, 4, none⟩ = some (.slice p3 cs.length k3)) ∧ (w'.cell? ⟨w3.heap.size, 0, none⟩ = some (.int .i64 a) ∧ w'.cell? ⟨w3.heap.size, 1, none⟩ = some (.int .i64 b) ∧ w'.cell? ⟨w3.heap.size, 2, none⟩ = some (.int .i64 q) ∧ w'.cell? ⟨w3.heap.size, 3, none⟩ = some (.slice p5 ds.length c5) ∧ w'.cell? ⟨w3.heap.size, 4, none⟩ = some (.slice p6 cs2.length c6)) ∧ (convert 29 9 (.slice (some ⟨g1, 0, none⟩) n cap1)).run Try.prog w' = .ok (.string (str Z)) w') := Lib.hid fun W hb => ⟨(B4.out.on hb).five, (F4.out.same (hb.block _ lt4.out)).cells, hcv3.out _ (A4.out.trans (hb.mono A4.out.size))⟩
  have R5 := Lib.hid (Below.refl w4.heap.size w4).drew
  refine wp_region_held_drew (S := (fun w' => (w'.cell? ⟨w.heap.size, 0, none⟩ = some (.int .i64 a) ∧ w'.cell? ⟨w.heap.size, 1, none⟩ = some (.int .i64 b) ∧ w'.cell? ⟨w.heap.size, 2, none⟩ = some (.int .i64 q) ∧ w'.cell? ⟨w.heap.size, 3, none⟩ = some (.slice p1 ds.length k1) ∧ w'.cell? ⟨w.heap.size, 4, none⟩ = some (.slice p3 cs.length k3)) ∧ (w'.cell? ⟨w3.heap.size, 0, none⟩ = some (.int .i64 a) ∧ w'.cell? ⟨w3.heap.size, 1, none⟩ = some (.int .i64 b) ∧ w'.cell? ⟨w3.heap.size, 2, none⟩ = some (.int .i64 q) ∧ w'.cell? ⟨w3.heap.size, 3, none⟩ = some (.slice p5 ds.length c5) ∧ w'.cell? ⟨w3.heap.size, 4, none⟩ = some (.slice p6 cs2.length c6)) ∧ (convert 29 9 (.slice (some ⟨g1, 0, none⟩) n cap1)).run Try.prog w' = .ok (.string (str Z)) w')) (by kernel_rfl) (HS.out _ R5.out) (fun hHeld => ?_)
  refine wpAnyH_take (i := 0) (v := ?_) rfl (by kernel_rfl) (by kernel_rfl) (by kernel_rfl) (fun _ _ _ h => h) (Or.inl ⟨by rfl, fun w hSw => ?_⟩) (by assumption) ?_
  rotate_left
  · (try dsimp only at hSw); go_simp; (try with_reducible rfl)
  try simp only [List.getElem_toArray, List.getElem_cons_succ, List.getElem_cons_zero, Act.put, List.setIfInBounds_toArray, List.set_cons_zero, List.set_cons_succ]
  refine wpAnyH_take (i := 1) (v := ?_) rfl (by kernel_rfl) (by kernel_rfl) (by kernel_rfl) (fun _ _ _ h => h) (Or.inl ⟨by rfl, fun w hSw => ?_⟩) (by assumption) ?_
  rotate_left
  · (try dsimp only at hSw); go_simp; (try with_reducible rfl)
  try simp only [List.getElem_toArray, List.getElem_cons_succ, List.getElem_cons_zero, Act.put, List.setIfInBounds_toArray, List.set_cons_zero, List.set_cons_succ]
  refine wpAnyH_take (i := 2) (v := ?_) rfl (by kernel_rfl) (by kernel_rfl) (by kernel_rfl) (fun _ _ _ h => h) (Or.inl ⟨by rfl, fun w hSw => ?_⟩) (by assumption) ?_
  rotate_left
  · (try dsimp only at hSw); go_simp; (try with_reducible rfl)
  try simp only [List.getElem_toArray, List.getElem_cons_succ, List.getElem_cons_zero, Act.put, List.setIfInBounds_toArray, List.set_cons_zero, List.set_cons_succ]
  refine wpAnyH_ready (rs := [3]) (by kernel_rfl) (by simp) ?_
  refine AllReadyH.cons rfl (fun K hK => ?_) ?_
  rotate_left
  · exact AllReadyH.nil
  go_simp
  (go_at_call 11; (with_reducible refine (CR.out _ (B4.out.below.trans (R5.out.mono B4.out.below.size))).mono ?_); rintro e x6 ⟨p7, c7, rfl, hc7, hr7, hb⟩; have R6 := Lib.hid (R5.out.trans (hb.mono R5.out.size)); have ht7 := text_run hr7; clear hb hr7)
  refine hK.out _ _ ?_ (fun hHeld => ?_)
  · exact HS.out _ R6.out
  clear hK K
  try simp only [List.getElem_toArray, List.getElem_cons_succ, List.getElem_cons_zero, Act.put, List.setIfInBounds_toArray, List.set_cons_zero, List.set_cons_succ]
  refine wpAnyH_ready (rs := [4]) (by kernel_rfl) (by simp) ?_
  refine AllReadyH.cons rfl (fun K hK => ?_) ?_
  rotate_left
  · exact AllReadyH.nil
  go_simp
  skip
  refine hK.out _ _ ?_ (fun hHeld => ?_)
  · exact HS.out _ R6.out
  clear hK K
  try simp only [List.getElem_toArray, List.getElem_cons_succ, List.getElem_cons_zero, Act.put, List.setIfInBounds_toArray, List.set_cons_zero, List.set_cons_succ]
  refine wpAnyH_take (i := 5) (v := ?_) rfl (by kernel_rfl) (by kernel_rfl) (by kernel_rfl) (fun _ _ _ h => h) (Or.inl ⟨by rfl, fun w hSw => ?_⟩) (by assumption) ?_
  rotate_left
  · (try dsimp only at hSw); go_simp; (try with_reducible rfl)
  try simp only [List.getElem_toArray, List.getElem_cons_succ, List.getElem_cons_zero, Act.put, List.setIfInBounds_toArray, List.set_cons_zero, List.set_cons_succ]
  refine wpAnyH_take (i := 6) (v := ?_) rfl (by kernel_rfl) (by kernel_rfl) (by kernel_rfl) (fun _ _ _ h => h) (Or.inl ⟨by rfl, fun w hSw => ?_⟩) (by assumption) ?_
  rotate_left
  · (try dsimp only at hSw); go_simp; (try with_reducible rfl)
  try simp only [List.getElem_toArray, List.getElem_cons_succ, List.getElem_cons_zero, Act.put, List.setIfInBounds_toArray, List.set_cons_zero, List.set_cons_succ]
  refine wpAnyH_take (i := 7) (v := ?_) rfl (by kernel_rfl) (by kernel_rfl) (by kernel_rfl) (fun _ _ _ h => h) (Or.inl ⟨by rfl, fun w hSw => ?_⟩) (by assumption) ?_
  rotate_left
  · (try dsimp only at hSw); go_simp; (try with_reducible rfl)
  try simp only [List.getElem_toArray, List.getElem_cons_succ, List.getElem_cons_zero, Act.put, List.setIfInBounds_toArray, List.set_cons_zero, List.set_cons_succ]
  refine wpAnyH_take (i := 8) (v := ?_) rfl (by kernel_rfl) (by kernel_rfl) (by kernel_rfl) (fun _ _ _ h => h) (Or.inl ⟨by rfl, fun w hSw => ?_⟩) (by assumption) ?_
  rotate_left
  · (try dsimp only at hSw); go_simp; (try with_reducible rfl)
  try simp only [List.getElem_toArray, List.getElem_cons_succ, List.getElem_cons_zero, Act.put, List.setIfInBounds_toArray, List.set_cons_zero, List.set_cons_succ]
  refine wpAnyH_take (i := 9) (v := ?_) rfl (by kernel_rfl) (by kernel_rfl) (by kernel_rfl) (fun _ _ _ h => h) (Or.inl ⟨by rfl, fun w hSw => ?_⟩) (by assumption) ?_
  rotate_left
  · (try dsimp only at hSw); go_simp; (try with_reducible rfl)
  try simp only [List.getElem_toArray, List.getElem_cons_succ, List.getElem_cons_zero, Act.put, List.setIfInBounds_toArray, List.set_cons_zero, List.set_cons_succ]
  refine wpAnyH_take (i := 10) (v := ?_) rfl (by kernel_rfl) (by kernel_rfl) (by kernel_rfl) (fun _ _ _ h => h) (Or.inl ⟨by rfl, fun w hSw => ?_⟩) (by assumption) ?_
  rotate_left
  · (try dsimp only at hSw); go_simp; (try with_reducible rfl)
  try simp only [List.getElem_toArray, List.getElem_cons_succ, List.getElem_cons_zero, Act.put, List.setIfInBounds_toArray, List.set_cons_zero, List.set_cons_succ]
  refine wpAnyH_take (i := 11) (v := ?_) rfl (by kernel_rfl) (by kernel_rfl) (by kernel_rfl) (fun _ _ _ h => h) (Or.inl ⟨by rfl, fun w hSw => ?_⟩) (by assumption) ?_
  rotate_left
  · (try dsimp only at hSw); go_simp; (try with_reducible rfl)
  try simp only [List.getElem_toArray, List.getElem_cons_succ, List.getElem_cons_zero, Act.put, List.setIfInBounds_toArray, List.set_cons_zero, List.set_cons_succ]
  refine wpAnyH_take (i := 13) (v := ?_) rfl (by kernel_rfl) (by kernel_rfl) (by kernel_rfl) (fun _ _ _ h => h) (Or.inl ⟨by rfl, fun w hSw => ?_⟩) (by assumption) ?_
  rotate_left
  · (try dsimp only at hSw); go_simp; (try with_reducible rfl)
  try simp only [List.getElem_toArray, List.getElem_cons_succ, List.getElem_cons_zero, Act.put, List.setIfInBounds_toArray, List.set_cons_zero, List.set_cons_succ]
  refine wpAnyH_take (i := 14) (v := ?_) rfl (by kernel_rfl) (by kernel_rfl) (by kernel_rfl) (fun _ _ _ h => h) (Or.inl ⟨by rfl, fun w hSw => ?_⟩) (by assumption) ?_
  rotate_left
  · (try dsimp only at hSw); go_simp; (try with_reducible rfl)
  try simp only [List.getElem_toArray, List.getElem_cons_succ, List.getElem_cons_zero, Act.put, List.setIfInBounds_toArray, List.set_cons_zero, List.set_cons_succ]
  refine wpAnyH_ready (rs := [12]) (by kernel_rfl) (by simp) ?_
  refine AllReadyH.cons rfl (fun K hK => ?_) ?_
  rotate_left
  · exact AllReadyH.nil
  go_simp
  (go_at_call 9; (with_reducible refine (CZ.out _ (B4.out.below.trans (R6.out.mono B4.out.below.size))).mono ?_); rintro e x7 ⟨rfl, hb⟩; have R7 := Lib.hid (R6.out.trans (hb.mono R6.out.size)); clear hb)
  refine hK.out _ _ ?_ (fun hHeld => ?_)
  · exact HS.out _ R7.out
  clear hK K
  try simp only [List.getElem_toArray, List.getElem_cons_succ, List.getElem_cons_zero, Act.put, List.setIfInBounds_toArray, List.set_cons_zero, List.set_cons_succ]
  refine wpAnyH_take (i := 15) (v := ?_) rfl (by kernel_rfl) (by kernel_rfl) (by kernel_rfl) (fun _ _ _ h => h) (Or.inl ⟨by rfl, fun w hSw => ?_⟩) (by assumption) ?_
  rotate_left
  · (try dsimp only at hSw); go_simp; (try with_reducible rfl)
  try simp only [List.getElem_toArray, List.getElem_cons_succ, List.getElem_cons_zero, Act.put, List.setIfInBounds_toArray, List.set_cons_zero, List.set_cons_succ]
  refine wpAnyH_take (i := 16) (v := ?_) rfl (by kernel_rfl) (by kernel_rfl) (by kernel_rfl) (fun _ _ _ h => h) (Or.inl ⟨by rfl, fun w hSw => ?_⟩) (by assumption) ?_
  rotate_left
  · (try dsimp only at hSw); go_simp; (try with_reducible rfl)
  try simp only [List.getElem_toArray, List.getElem_cons_succ, List.getElem_cons_zero, Act.put, List.setIfInBounds_toArray, List.set_cons_zero, List.set_cons_succ]
  refine wpAnyH_take (i := 17) (v := ?_) rfl (by kernel_rfl) (by kernel_rfl) (by kernel_rfl) (fun _ _ _ h => h) (Or.inl ⟨by rfl, fun w hSw => ?_⟩) (by assumption) ?_
  rotate_left
  · (try dsimp only at hSw); go_simp; (try with_reducible rfl)
  try simp only [List.getElem_toArray, List.getElem_cons_succ, List.getElem_cons_zero, Act.put, List.setIfInBounds_toArray, List.set_cons_zero, List.set_cons_succ]
  refine wpAnyH_take (i := 18) (v := ?_) rfl (by kernel_rfl) (by kernel_rfl) (by kernel_rfl) (fun _ _ _ h => h) (Or.inl ⟨by rfl, fun w hSw => ?_⟩) (by assumption) ?_
  rotate_left
  · (try dsimp only at hSw); go_simp; (try with_reducible rfl)
  try simp only [List.getElem_toArray, List.getElem_cons_succ, List.getElem_cons_zero, Act.put, List.setIfInBounds_toArray, List.set_cons_zero, List.set_cons_succ]
  refine wpAnyH_take (i := 19) (v := ?_) rfl (by kernel_rfl) (by kernel_rfl) (by kernel_rfl) (fun _ _ _ h => h) (Or.inl ⟨by rfl, fun w hSw => ?_⟩) (by assumption) ?_
  rotate_left
  · (try dsimp only at hSw); go_simp; (try with_reducible rfl)
  try simp only [List.getElem_toArray, List.getElem_cons_succ, List.getElem_cons_zero, Act.put, List.setIfInBounds_toArray, List.set_cons_zero, List.set_cons_succ]
  refine wpAnyH_take (i := 20) (v := ?_) rfl (by kernel_rfl) (by kernel_rfl) (by kernel_rfl) (fun _ _ _ h => h) (Or.inl ⟨by rfl, fun w hSw => ?_⟩) (by assumption) ?_
  rotate_left
  · (try dsimp only at hSw); go_simp; (try with_reducible rfl)
  try simp only [List.getElem_toArray, List.getElem_cons_succ, List.getElem_cons_zero, Act.put, List.setIfInBounds_toArray, List.set_cons_zero, List.set_cons_succ]
  refine wpAnyH_take (i := 21) (v := ?_) rfl (by kernel_rfl) (by kernel_rfl) (by kernel_rfl) (fun _ _ _ h => h) (Or.inl ⟨by rfl, fun w hSw => ?_⟩) (by assumption) ?_
  rotate_left
  · (try dsimp only at hSw); go_simp; (try with_reducible rfl)
  try simp only [List.getElem_toArray, List.getElem_cons_succ, List.getElem_cons_zero, Act.put, List.setIfInBounds_toArray, List.set_cons_zero, List.set_cons_succ]
  refine wpAnyH_take (i := 22) (v := ?_) rfl (by kernel_rfl) (by kernel_rfl) (by kernel_rfl) (fun _ _ _ h => h) (Or.inl ⟨by rfl, fun w hSw => ?_⟩) (by assumption) ?_
  rotate_left
  · (try dsimp only at hSw); go_simp; (try with_reducible rfl)
  try simp only [List.getElem_toArray, List.getElem_cons_succ, List.getElem_cons_zero, Act.put, List.setIfInBounds_toArray, List.set_cons_zero, List.set_cons_succ]
  refine wpAnyH_take (i := 23) (v := ?_) rfl (by kernel_rfl) (by kernel_rfl) (by kernel_rfl) (fun _ _ _ h => h) (Or.inl ⟨by rfl, fun w hSw => ?_⟩) (by assumption) ?_
  rotate_left
  · (try dsimp only at hSw); go_simp; (try with_reducible rfl)
  try simp only [List.getElem_toArray, List.getElem_cons_succ, List.getElem_cons_zero, Act.put, List.setIfInBounds_toArray, List.set_cons_zero, List.set_cons_succ]
  refine wpAnyH_ready (rs := [24]) (by kernel_rfl) (by simp) ?_
  refine AllReadyH.cons rfl (fun K hK => ?_) ?_
  rotate_left
  · exact AllReadyH.nil
  go_simp
  (go_at_call 12; (with_reducible refine (CS.out _ _ _ _ _ _ (B4.out.below.trans (R7.out.mono B4.out.below.size)) HM.out HG.out (R1.out.on (A4.out.trans (R7.out.mono A4.out.size))) (R2.out.on (A4.out.trans (R7.out.mono A4.out.size)))).mono ?_); rintro e x8 ⟨rfl, hb⟩; have R8 := Lib.hid (R7.out.trans (hb.mono R7.out.size)); clear hb)
  refine hK.out _ _ ?_ (fun hHeld => ?_)
  · exact HS.out _ R8.out
  clear hK K
  try simp only [List.getElem_toArray, List.getElem_cons_succ, List.getElem_cons_zero, Act.put, List.setIfInBounds_toArray, List.set_cons_zero, List.set_cons_succ]
  refine wpAnyH_take (i := 25) (v := ?_) rfl (by kernel_rfl) (by kernel_rfl) (by kernel_rfl) (fun _ _ _ h => h) (Or.inl ⟨by rfl, fun w hSw => ?_⟩) (by assumption) ?_
  rotate_left
  · (try dsimp only at hSw); go_simp; (try with_reducible rfl)
  try simp only [List.getElem_toArray, List.getElem_cons_succ, List.getElem_cons_zero, Act.put, List.setIfInBounds_toArray, List.set_cons_zero, List.set_cons_succ]
  refine wpAnyH_take (i := 26) (v := ?_) rfl (by kernel_rfl) (by kernel_rfl) (by kernel_rfl) (fun _ _ _ h => h) (Or.inl ⟨by rfl, fun w hSw => ?_⟩) (by assumption) ?_
  rotate_left
  · (try dsimp only at hSw); go_simp; (try with_reducible rfl)
  try simp only [List.getElem_toArray, List.getElem_cons_succ, List.getElem_cons_zero, Act.put, List.setIfInBounds_toArray, List.set_cons_zero, List.set_cons_succ]
  refine wpAnyH_ready (rs := [27]) (by kernel_rfl) (by simp) ?_
  refine AllReadyH.cons rfl (fun K hK => ?_) ?_
  rotate_left
  · exact AllReadyH.nil
  go_simp
  (go_at_call 6; (with_reducible refine (CW.out _).mono ?_); rintro e x9 ⟨rfl, hb⟩; have R9 := Lib.hid (R8.out.trans (hb.mono R8.out.size)); clear hb)
  refine hK.out _ _ ?_ (fun hHeld => ?_)
  · exact HS.out _ R9.out
  clear hK K
  try simp only [List.getElem_toArray, List.getElem_cons_succ, List.getElem_cons_zero, Act.put, List.setIfInBounds_toArray, List.set_cons_zero, List.set_cons_succ]
  refine wpAnyH_take (i := 28) (v := ?_) rfl (by kernel_rfl) (by kernel_rfl) (by kernel_rfl) (fun _ _ _ h => h) (Or.inl ⟨by rfl, fun w hSw => ?_⟩) (by assumption) ?_
  rotate_left
  · (try dsimp only at hSw); go_simp; (try with_reducible rfl)
  try simp only [List.getElem_toArray, List.getElem_cons_succ, List.getElem_cons_zero, Act.put, List.setIfInBounds_toArray, List.set_cons_zero, List.set_cons_succ]
  refine wpAnyH_take (i := 29) (v := ?_) rfl (by kernel_rfl) (by kernel_rfl) (by kernel_rfl) (fun _ _ _ h => h) (Or.inl ⟨by rfl, fun w hSw => ?_⟩) (by assumption) ?_
  rotate_left
  · (try dsimp only at hSw); go_simp; (try with_reducible rfl)
  try simp only [List.getElem_toArray, List.getElem_cons_succ, List.getElem_cons_zero, Act.put, List.setIfInBounds_toArray, List.set_cons_zero, List.set_cons_succ]
  refine wpAnyH_done (by kernel_rfl) ?_ _
  go_wp2_with fail
  go_ret
  exact ⟨rfl, (B4.out.below.trans (R9.out.mono B4.out.below.size))⟩
end Go.Proofs.Ytapjjeffegnflaa.Cod
