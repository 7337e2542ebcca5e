/- Keys in order, each once: plain facts; and what the document's Keys gives (layer 7, batch). Conditions: the list lies in memory as its cells say, and is not longer than 100000. -/
import Derived.Test.YtacgmhnalbbgbaaBatF
import Derived.Sort.Walk0
namespace Go.Proofs.Ytacgmhnalbbgbaa.Bat
open Go.RowKit Cmd
set_option linter.unusedVariables false

/-! ### Texts in order -/
abbrev Text := List UInt8
def lts (x y : Text) : Bool := decide (x < y)
abbrev Rise (l : List Text) : Prop := l.Pairwise fun x y => x < y
theorem tlt_irr (x : Text) : ¬ x < x := List.lt_irrefl x
theorem tlt_tr {x y z : Text} (h : x < y) (k : y < z) : x < z := List.lt_trans h k
theorem tlt_tot {x y : Text} (h : ¬ x < y) (hn : x ≠ y) : y < x := by
  rcases Decidable.em (y < x) with k | k
  · exact k
  · exact absurd (List.le_antisymm k h) hn
def insS (x : Text) : List Text → List Text
  | [] => [x]
  | y :: t => if lts x y = true then x :: y :: t else y :: insS x t
def putS (l : List Text) (x : Text) : List Text := if x ∈ l then l else insS x l
def kset (ks : List Text) : List Text := ks.foldl putS []
theorem insS_mem (x : Text) : ∀ (l : List Text) (z : Text), z ∈ insS x l ↔ z = x ∨ z ∈ l
  | [], z => by simp [insS]
  | y :: t, z => by
    unfold insS
    split
    · simp
    · rw [List.mem_cons, insS_mem x t z, List.mem_cons]
      exact ⟨fun h => by rcases h with h | h | h <;> simp [h], fun h => by rcases h with h | h | h <;> simp [h]⟩
theorem insS_len (x : Text) : ∀ l : List Text, (insS x l).length = l.length + 1
  | [] => rfl
  | y :: t => by
    unfold insS
    split
    · rfl
    · rw [List.length_cons, insS_len x t, List.length_cons]
theorem insS_rise (x : Text) : ∀ {l : List Text}, Rise l → x ∉ l → Rise (insS x l)
  | [], _, _ => by simp [insS, Rise]
  | y :: t, h, hx => by
    obtain ⟨h1, h2⟩ := List.pairwise_cons.1 h
    rw [List.mem_cons, not_or] at hx
    unfold insS
    split
    · rename_i hlt
      have hlt : x < y := of_decide_eq_true hlt
      refine List.Pairwise.cons (fun z hz => ?_) h
      rcases List.mem_cons.1 hz with rfl | hz
      · exact hlt
      · exact tlt_tr hlt (h1 z hz)
    · rename_i hlt
      have hlt : ¬ x < y := fun e => hlt (decide_eq_true e)
      refine List.Pairwise.cons (fun z hz => ?_) (insS_rise x h2 hx.2)
      rcases (insS_mem x t z).1 hz with rfl | hz
      · exact tlt_tot hlt hx.1
      · exact h1 z hz
theorem putS_mem (l : List Text) (x z : Text) : z ∈ putS l x ↔ z = x ∨ z ∈ l := by
  unfold putS
  split
  · rename_i hm
    exact ⟨.inr, fun h => by rcases h with rfl | h; exact hm; exact h⟩
  · exact insS_mem x l z
theorem putS_rise {l : List Text} (h : Rise l) (x : Text) : Rise (putS l x) := by
  unfold putS
  split
  · exact h
  · rename_i hm; exact insS_rise x h hm
theorem putS_len (l : List Text) (x : Text) : (putS l x).length ≤ l.length + 1 := by
  unfold putS
  split
  · omega
  · rw [insS_len]; omega
theorem kset_snoc (ks : List Text) (x : Text) : kset (ks ++ [x]) = putS (kset ks) x := by unfold kset; rw [List.foldl_append]; rfl
theorem fold_mem : ∀ (ks l : List Text) (z : Text), z ∈ ks.foldl putS l ↔ z ∈ l ∨ z ∈ ks
  | [], l, z => by simp
  | k :: t, l, z => by
    rw [List.foldl_cons, fold_mem t (putS l k) z, putS_mem, List.mem_cons]
    exact ⟨fun h => by rcases h with (h | h) | h <;> simp [h], fun h => by rcases h with h | h | h <;> simp [h]⟩
theorem fold_rise : ∀ (ks : List Text) {l : List Text}, Rise l → Rise (ks.foldl putS l)
  | [], _, h => h
  | k :: t, _, h => fold_rise t (putS_rise h k)
theorem fold_len : ∀ (ks l : List Text), (ks.foldl putS l).length ≤ l.length + ks.length
  | [], l => Nat.le_refl _
  | k :: t, l => by
    have h1 := fold_len t (putS l k)
    have h2 := putS_len l k
    rw [List.foldl_cons, List.length_cons]; omega
theorem kset_mem (ks : List Text) (z : Text) : z ∈ kset ks ↔ z ∈ ks := by unfold kset; rw [fold_mem]; simp
theorem kset_rise (ks : List Text) : Rise (kset ks) := fold_rise ks .nil
theorem kset_len (ks : List Text) : (kset ks).length ≤ ks.length := by have := fold_len ks []; unfold kset; simpa using this
/-- Two lists that rise and have the same are one. -/
theorem rise_eq : ∀ {a b : List Text}, Rise a → Rise b → (∀ x, x ∈ a ↔ x ∈ b) → a = b
  | [], [], _, _, _ => rfl
  | [], y :: b, _, _, h => by have := (h y).2 (by simp); cases this
  | x :: a, [], _, _, h => by have := (h x).1 (by simp); cases this
  | x :: a, y :: b, ha, hb, h => by
    obtain ⟨a1, a2⟩ := List.pairwise_cons.1 ha
    obtain ⟨b1, b2⟩ := List.pairwise_cons.1 hb
    have e : x = y := by
      rcases List.mem_cons.1 ((h x).1 (by simp)) with e | hx
      · exact e
      · rcases List.mem_cons.1 ((h y).2 (by simp)) with e | hy
        · exact e.symm
        · exact absurd (tlt_tr (a1 y hy) (b1 x hx)) (tlt_irr x)
    subst e
    refine congrArg _ (rise_eq a2 b2 fun z => ⟨fun hz => ?_, fun hz => ?_⟩)
    · rcases List.mem_cons.1 ((h z).1 (List.mem_cons_of_mem _ hz)) with e | hz2
      · subst e; exact absurd (a1 z hz) (tlt_irr z)
      · exact hz2
    · rcases List.mem_cons.1 ((h z).2 (List.mem_cons_of_mem _ hz)) with e | hz2
      · subst e; exact absurd (b1 z hz) (tlt_irr z)
      · exact hz2
theorem less_run (s x : Text) : Op.bytesLess (str s).toList (str x).toList = lts s x := by rw [bytesLess_eq, str, str, ByteArray.toList_mk, ByteArray.toList_mk]; rfl

/-- The invariant of the inner loop of the document's Keys. -/
def PutAt (x : Text) (zs out : List Text) (k : Nat) (d : Bool) : Prop := insS x zs = out ++ (if d then zs.drop k else insS x (zs.drop k)) ∧ out.length = k + d.toNat
theorem PutAt.start (x : Text) (zs : List Text) : PutAt x zs [] 0 false := ⟨rfl, rfl⟩
theorem PutAt.past {x : Text} {zs out : List Text} {k : Nat} (h : PutAt x zs out k true) (hk : k < zs.length) : PutAt x zs (out ++ [layS.at zs k]) (k + 1) true := by
  refine ⟨?_, by rw [List.length_append, h.2]; show k + 1 + 1 = k + 1 + 1; rfl⟩
  rw [h.1, if_pos rfl, if_pos rfl, layS.drop hk]; simp
theorem PutAt.go {x : Text} {zs out : List Text} {k : Nat} (h : PutAt x zs out k false) (hk : k < zs.length) (hx : lts x (layS.at zs k) = false) : PutAt x zs (out ++ [layS.at zs k]) (k + 1) false := by
  refine ⟨?_, by rw [List.length_append, h.2]; simp⟩
  rw [h.1, layS.drop hk]
  simp [insS, hx]
theorem PutAt.hit {x : Text} {zs out : List Text} {k : Nat} (h : PutAt x zs out k false) (hk : k < zs.length) (hx : lts x (layS.at zs k) = true) : PutAt x zs (out ++ [x] ++ [layS.at zs k]) (k + 1) true := by
  refine ⟨?_, by rw [List.length_append, List.length_append, h.2]; simp⟩
  rw [h.1, layS.drop hk]
  simp [insS, hx]
theorem PutAt.endT {x : Text} {zs out : List Text} (h : PutAt x zs out zs.length true) : insS x zs = out := by
  have := h.1
  simpa using this
theorem PutAt.endF {x : Text} {zs out : List Text} (h : PutAt x zs out zs.length false) : insS x zs = out ++ [x] := by
  have := h.1
  simpa [insS] using this

/-! ### The document's Keys -/
def ktake (zs : List Cmdn) (k : Nat) : List Text := kset (keys (zs.take k))
theorem ktake_zero (zs : List Cmdn) : ktake zs 0 = [] := rfl
theorem ktake_succ {zs : List Cmdn} {k : Nat} (h : k < zs.length) {c : Int} {s : Text} {f : Nat} (hx : layC.at zs k = (c, s, f)) : ktake zs (k + 1) = putS (ktake zs k) s := by
  unfold ktake keys
  rw [layC.take h, hx, List.map_append]
  exact kset_snoc _ _
theorem ktake_len (zs : List Cmdn) (k : Nat) : (ktake zs k).length ≤ k := by
  have h1 := kset_len (keys (zs.take k))
  unfold keys at h1
  rw [List.length_map, List.length_take] at h1
  unfold ktake keys
  omega
theorem ktake_all (zs : List Cmdn) : ktake zs zs.length = kset (keys zs) := by unfold ktake; rw [List.take_length]

theorem grow_own {wq wr w1 : World} {o : Value} {out : List Text} (h : Below wq.heap.size wq wr) (ho : OwnS wr wq.heap.size o out) (b : Obj) (hg : (wr.alloc b).grownBy w1 o.ownBlock) : Below wq.heap.size wq w1 :=
  below_grown (h.alloc h.size _) (Nat.le_refl _) (World.ownsRow.alloc ho _) (by have := h.size; simp; omega) hg

set_option maxHeartbeats 8000000 in
set_option maxRecDepth 100000 in
theorem refkeys_any (v : Value) (zs : List Cmdn) (w : World) (h : layC.Row w v zs) (hl : zs.length ≤ 100000) : Calls Try.prog 43 #[v] w (layS.Gives (kset (keys zs)) w) := by
  obtain ⟨i0, hi, hz0, hz1, hz2⟩ := info_parts info_str
  obtain ⟨p, cap, rfl, h1, hd⟩ := h.parts
  have HP : Hid (ktake zs zs.length = kset (keys zs)) := Lib.hid (ktake_all zs)
  obtain ⟨n, hn⟩ : ∃ n, n = zs.length := ⟨_, rfl⟩
  rw [← hn] at h1 hd hl HP ⊢
  have HZ := Lib.hid hn
  generalize kset (keys zs) = r at HP
  clear h hn
  go_enter Try.func43, Try.ntmps43
  go_wp2
  go_loopw [3, 4] (fun o i wr => ∃ k : Nat, k ≤ n ∧ i = .int .i64 k ∧ Hid (Below w.heap.size w wr) ∧ Hid (layS.Row wr o (ktake zs k))) (fun _ i _ => n - (intOf i).toNat)
  case atStart => exact ⟨0, Nat.zero_le _, rfl, Lib.hid (below_one _ _), Lib.hid (rowS (base := w.heap.size) (e := 9) (zs := []) (World.ownsRow_made w #[] 0 (Nat.le_refl _) (by decide) rfl))⟩
  case round =>
    obtain ⟨k, hk, rfl, hbw, hrow⟩ := hrel
    by_cases hkn : k < n
    · obtain ⟨B, off, rfl, HC⟩ := hd.resolve_left (by omega)
      have hkz : k < zs.length := by rw [← HZ.out]; exact hkn
      obtain ⟨c, s, f, hx⟩ : ∃ c s f, layC.at zs k = (c, s, f) := ⟨_, _, _, rfl⟩
      obtain ⟨c0, c1, c2⟩ := cellC (HC.out.on hbw.out) hkz hx
      have HCC := Lib.hid (fun W (hb : Below w.heap.size w W) => (cellC (HC.out.on hb) hkz hx).2.1)
      have HT := Lib.hid (ktake_succ hkz hx)
      have hkl := ktake_len zs k
      have k0 : (0 : Int) ≤ k := by omega
      have kn : (k : Int) < n := by omega
      clear hx hd hkz c0 c2
      generalize ktake zs k = out at hrow HT hkl
      have HI := Lib.hid (in_any u3 out s wr hrow.out)
      by_cases hm : s ∈ out
      · have HN : Hid (ktake zs (k + 1) = out) := Lib.hid (by rw [HT.out]; unfold putS; rw [if_pos hm])
        rw [decide_eq_true hm] at HI
        clear hm
        go_wp2_with (first
          | (go_at_call 63; (with_reducible refine HI.out.mono ?_); rintro e w1 ⟨rfl, rfl⟩))
        go_roundw
        case rel => exact ⟨k + 1, by omega, by go_num, hbw, Lib.hid (by rw [HN.out]; exact hrow.out)⟩
        case measure => simp [intOf]; omega
      · have HN : Hid (ktake zs (k + 1) = insS s out) := Lib.hid (by rw [HT.out]; unfold putS; rw [if_neg hm])
        rw [decide_eq_false hm] at HI
        clear hm
        obtain ⟨wq, hwq⟩ : ∃ wq, wq = wr := ⟨_, rfl⟩
        subst hwq
        obtain ⟨q, cap', hq, g1, hd'⟩ := hrow.out.parts
        obtain ⟨m, hm⟩ : ∃ m, m = out.length := ⟨_, rfl⟩
        rw [← hm] at hq g1 hd' hkl
        subst hq
        have HM := Lib.hid hm
        clear hm hrow
        go_wp2_with (first
          | (go_at_call 63; (with_reducible refine HI.out.mono ?_); rintro e w1 ⟨rfl, rfl⟩))
        clear HI
        go_loopw [5, 6, 7] (fun o d i wr => ∃ (l : Nat) (dn : Bool) (ys : List Text), l ≤ m ∧ ys.length ≤ l + 1 ∧ i = .int .i64 l ∧ d = .bool dn ∧ Hid (Below wq.heap.size wq wr) ∧ Hid (OwnS wr wq.heap.size o ys) ∧ Hid (PutAt s out ys l dn)) (fun _ _ i _ => m - (intOf i).toNat)
        case atStart => exact ⟨0, false, [], Nat.zero_le _, Nat.zero_le _, rfl, rfl, Lib.hid (below_one _ _), Lib.hid (World.ownsRow_made wq #[] 0 (Nat.le_refl _) (by decide) rfl), Lib.hid (PutAt.start _ _)⟩
        case round =>
          obtain ⟨l, dn, ys, hl2, ho, rfl, rfl, hbw2, hown, hput⟩ := hrel
          have hs : wq.heap.size ≤ wr.heap.size := hbw2.out.size
          have d1 := HCC.out wr (hbw.out.trans (hbw2.out.mono hbw.out.size))
          by_cases hlm : l < m
          · obtain ⟨B', off', rfl, HC'⟩ := hd'.resolve_left (by omega)
            obtain ⟨x, hx⟩ : ∃ x, layS.at out l = x := ⟨_, rfl⟩
            have hlo : l < out.length := by rw [← HM.out]; exact hlm
            have d2 := cellS (HC'.out.on hbw2.out) hlo hx
            have HX := Lib.hid hx
            have HL := Lib.hid hlo
            have l0 : (0 : Int) ≤ l := by omega
            have lm : (l : Int) < m := by omega
            have hle := less_run s x
            clear hx hd' hlo c1
            cases dn with
            | true =>
              have ho2 := hput.out.2
              have HPT := Lib.hid (hput.out.past HL.out)
              rw [HX.out] at HPT
              go_wp2
              go_quiet (fail)
              have hoD : Hid (OwnS (wr.drewN nq) wq.heap.size u5 ys) := Lib.hid hown.out
              have hbD := Lib.hid (below_drN hbw2.out nq)
              go_wp2_with (first
                | (at_builtin; refine wpList_append_own _ rfl _ _ 43 rfl wq.heap.size 9 i0 (.string ⟨#[]⟩) 1 16 Try.underlying43 hi hz0 hz1 hz2 rfl (by decide) _ _ _ rfl (World.ownsRow.alloc hoD.out _) ⟨wr.heap.size, 0, none⟩ 1 1 [.string (str x)] rfl rfl (cell_one_new _ _ _) (fun u hu => by simp at hu; subst hu; rfl) (by unfold maxLen; omega) (by omega) (by simp; omega) ?_; intro v1 w3 hown1 hgrow1 hnil1; have X1 := Lib.hid (And.intro (OwnS.snoc hown1) (grow_own hbD.out hoD.out _ hgrow1)); clear hown1 hgrow1 hnil1))
              go_roundw
              case rel => exact ⟨l + 1, true, ys ++ [x], by omega, by simp; omega, by go_num, rfl, Lib.hid X1.out.2, Lib.hid X1.out.1, HPT⟩
              case measure => simp [intOf]; omega
            | false =>
              have ho2 := hput.out.2
              have hoD : Hid (OwnS wr wq.heap.size u5 ys) := Lib.hid hown.out
              cases hlt : lts s x with
              | true =>
                have HPT := Lib.hid (hput.out.hit HL.out (by rw [HX.out]; exact hlt))
                rw [HX.out] at HPT
                rw [hlt] at hle
                clear hlt
                go_wp2
                go_quiet (fail)
                have hoD : Hid (OwnS (wr.drewN nq) wq.heap.size u5 ys) := Lib.hid hown.out
                have hbD := Lib.hid (below_drN hbw2.out nq)
                go_wp2_with (first
                  | (at_builtin; refine wpList_append_own _ rfl _ _ 43 rfl wq.heap.size 9 i0 (.string ⟨#[]⟩) 1 16 Try.underlying43 hi hz0 hz1 hz2 rfl (by decide) _ _ _ rfl (World.ownsRow.alloc hoD.out _) ⟨wr.heap.size, 0, none⟩ 1 1 [.string (str s)] rfl rfl (cell_one_new _ _ _) (fun u hu => by simp at hu; subst hu; rfl) (by unfold maxLen; omega) (by omega) (by simp; omega) ?_; intro v1 w3 hown1 hgrow1 hnil1; have X1 := Lib.hid (And.intro (OwnS.snoc hown1) (grow_own hbD.out hoD.out _ hgrow1)); have q2 := cellS (HC'.out.on X1.out.2) HL.out HX.out; have hs3 : wq.heap.size ≤ w3.heap.size := X1.out.2.size; clear hown1 hgrow1 hnil1)
                  | (at_builtin; refine wpList_append_own _ rfl _ _ 43 rfl wq.heap.size 9 i0 (.string ⟨#[]⟩) 1 16 Try.underlying43 hi hz0 hz1 hz2 rfl (by decide) _ _ _ rfl (World.ownsRow.alloc X1.out.1 _) ⟨w3.heap.size, 0, none⟩ 1 1 [.string (str x)] rfl rfl (cell_one_new _ _ _) (fun u hu => by simp at hu; subst hu; rfl) (by rw [List.length_append]; simp only [List.length_cons, List.length_nil]; unfold maxLen; omega) (by rw [List.length_append]; simp only [List.length_cons, List.length_nil]; omega) (by simp; omega) ?_; intro v2 w4 hown2 hgrow2 hnil2; have X2 := Lib.hid (And.intro (OwnS.snoc hown2) (grow_own X1.out.2 X1.out.1 _ hgrow2)); clear hown2 hgrow2 hnil2))
                go_roundw
                case rel => exact ⟨l + 1, true, ys ++ [s] ++ [x], by omega, by have e : ys.length = l := ho2; simp; omega, by go_num, rfl, Lib.hid X2.out.2, Lib.hid X2.out.1, HPT⟩
                case measure => simp [intOf]; omega
              | false =>
                have HPT := Lib.hid (hput.out.go HL.out (by rw [HX.out]; exact hlt))
                rw [HX.out] at HPT
                rw [hlt] at hle
                clear hlt
                go_wp2
                go_quiet (fail)
                have hoD : Hid (OwnS (wr.drewN nq) wq.heap.size u5 ys) := Lib.hid hown.out
                have hbD := Lib.hid (below_drN hbw2.out nq)
                go_wp2_with (first
                  | (at_builtin; refine wpList_append_own _ rfl _ _ 43 rfl wq.heap.size 9 i0 (.string ⟨#[]⟩) 1 16 Try.underlying43 hi hz0 hz1 hz2 rfl (by decide) _ _ _ rfl (World.ownsRow.alloc hoD.out _) ⟨wr.heap.size, 0, none⟩ 1 1 [.string (str x)] rfl rfl (cell_one_new _ _ _) (fun u hu => by simp at hu; subst hu; rfl) (by unfold maxLen; omega) (by omega) (by simp; omega) ?_; intro v1 w3 hown1 hgrow1 hnil1; have X1 := Lib.hid (And.intro (OwnS.snoc hown1) (grow_own hbD.out hoD.out _ hgrow1)); clear hown1 hgrow1 hnil1))
                go_roundw
                case rel => exact ⟨l + 1, false, ys ++ [x], by omega, by simp; omega, by go_num, rfl, Lib.hid X1.out.2, Lib.hid X1.out.1, HPT⟩
                case measure => simp [intOf]; omega
          · have lm : ¬ (l : Int) < m := by omega
            have hlm' : l = out.length := by rw [← HM.out]; omega
            have hbb := Lib.hid (hbw.out.trans (hbw2.out.mono hbw.out.size))
            clear c1
            cases dn with
            | true =>
              have HE : Hid (insS s out = ys) := Lib.hid (PutAt.endT (by rw [← hlm']; exact hput.out))
              clear hlm' hd'
              go_wp2
              go_roundw
              case rel => exact ⟨k + 1, by omega, by go_num, hbb, Lib.hid (by rw [HN.out, HE.out]; exact rowS hown.out)⟩
              case measure => simp [intOf]; omega
            | false =>
              have HE : Hid (insS s out = ys ++ [s]) := Lib.hid (PutAt.endF (by rw [← hlm']; exact hput.out))
              clear hlm' hd'
              go_wp2_with (first
                | (at_builtin; refine wpList_append_own _ rfl _ _ 43 rfl wq.heap.size 9 i0 (.string ⟨#[]⟩) 1 16 Try.underlying43 hi hz0 hz1 hz2 rfl (by decide) _ _ _ rfl (World.ownsRow.alloc hown.out _) ⟨wr.heap.size, 0, none⟩ 1 1 [.string (str s)] rfl rfl (cell_one_new _ _ _) (fun u hu => by simp at hu; subst hu; rfl) (by unfold maxLen; omega) (by omega) (by simp; omega) ?_; intro v1 w3 hown1 hgrow1 hnil1; have X1 := Lib.hid (And.intro (OwnS.snoc hown1) (grow_own hbw2.out hown.out _ hgrow1)); clear hown1 hgrow1 hnil1))
              go_roundw
              case rel => exact ⟨k + 1, by omega, by go_num, Lib.hid (hbw.out.trans (X1.out.2.mono hbw.out.size)), Lib.hid (by rw [HN.out, HE.out]; exact rowS X1.out.1)⟩
              case measure => simp [intOf]; omega
    · have kn : ¬ (k : Int) < n := by omega
      obtain rfl : k = n := by omega
      clear hd
      go_wp2
      go_ret
      exact ⟨_, rfl, by rw [← HP.out]; exact hrow.out, hbw.out⟩
end Go.Proofs.Ytacgmhnalbbgbaa.Bat
