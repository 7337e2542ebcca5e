/- What the program's Keys gives: its keys are gathered in a map, gone over and sorted by the library (layer 7, batch). Conditions: the list lies in memory as its cells say, and is not longer than 100000; texts of a length that a machine holds. -/
import Derived.Test.YtomidcbpnaajeaaGreatBatG
import Derived.Test.YtomidcbpnaajeaaGreatShelf
import Derived.Test.YtomidcbpnaajeaaGreatShelfS
import Derived.Sort.KeysCollected
import Derived.Sort.OwnSorted
import Derived.Maps.OwnSet
import Derived.Maps.RangeWalk
import Derived.Carry
namespace Go.Proofs.YtomidcbpnaajeaaGreat.Bat
open Go.RowKit Cmd Go.Maps Go.WideElems Go.ChangeMaps Go.Sort
set_option linter.unusedVariables false

/-! ### The map -/
theorem law_str : Keyed Tryz.prog 9 := string_keyed Tryz.underlying9
theorem und_mapS : Tryz.prog.underlying 108 = some (.map 9 4) := Tryz.underlying108
noncomputable abbrev boolElem : Value → Option (DataW Unit × List MemPlace) := plainElem (H := Unit) Tryz.prog 4
theorem bool_mk : boolElem (.bool true) = some (.lit (.bool true), []) := plainElem_bool Tryz.underlying4 true
set_option maxRecDepth 100000 in
theorem bool_inv {v : Value} {z : DataW Unit × List MemPlace} (h : boolElem v = some z) : ∃ x, v = .bool x := by
  unfold boolElem plainElem at h
  rw [Tryz.underlying4] at h
  cases v <;> simp at h
  exact ⟨_, rfl⟩
theorem key_str {s : Text} (h : s.length ≤ 140737488351232) : keyOf Tryz.prog 9 (.string (str s)) = some (.string s) := by
  have hs : (str s).size ≤ maxLen := by rw [str_size]; unfold maxLen; omega
  simp [keyOf, Tryz.underlying9, mapKey, hs]
  rfl
/-- The map has just these keys. -/
structure Told (D : DataW Unit) (ks : List Text) : Prop where
  has : ∀ k, Maps.has D k = true ↔ ∃ x ∈ ks, Lit.string x = k
  size : Maps.size D ≤ ks.length
theorem lit_key (s : Text) : WideAt.IsKeyLit (.string s) := trivial
theorem Told.nil : Told (.map []) [] := ⟨fun k => ⟨fun h => (by cases h), fun ⟨x, h, _⟩ => (by cases h)⟩, Nat.le_refl _⟩
theorem Told.put {D : DataW Unit} {ks : List Text} (h : Told D ks) (hT : Tidy D) (s : Text) : Told (D.put (.string s) (.lit (.bool true))) (ks ++ [s]) := by
  refine ⟨fun k => ?_, ?_⟩
  · by_cases e : k = .string s
    · subst e
      exact ⟨fun _ => ⟨s, by simp, rfl⟩, fun _ => has_put_same hT.isMap (lit_key s) _⟩
    · rw [has_put_other e, h.has]
      constructor
      · rintro ⟨y, hy, e2⟩; exact ⟨y, List.mem_append.2 (.inl hy), e2⟩
      · rintro ⟨y, hy, e2⟩
        rcases List.mem_append.1 hy with hy | hy
        · exact ⟨y, hy, e2⟩
        · rw [List.mem_singleton] at hy; subst hy; exact absurd e2.symm e
  · have := h.size
    rw [size_put hT, List.length_append]
    simp only [List.length_cons, List.length_nil]
    split <;> omega
def kuntil (zs : List Cmdn) (k : Nat) : List Text := keys (zs.take k)
theorem kuntil_succ {zs : List Cmdn} {k : Nat} (h : k < zs.length) {c : Int} {s : Text} {f : Nat} (hx : layC.at zs k = (c, s, f)) : kuntil zs (k + 1) = kuntil zs k ++ [s] := by
  unfold kuntil keys; rw [layC.take h, hx, List.map_append]; rfl
theorem kuntil_all (zs : List Cmdn) : kuntil zs zs.length = keys zs := by unfold kuntil; rw [List.take_length]
/-- Block b is a map that has just the keys of the first k commands. -/
def MapAt (w : World) (b : Nat) (ks : List Text) (n : Nat) : Prop := ∃ D : DataW Unit, w.ownsMap Tryz.prog 9 boolElem b n D ∧ Told D ks
theorem MapAt.lt {w : World} {b n : Nat} {ks : List Text} (h : MapAt w b ks n) : b < w.heap.size := by obtain ⟨D, h, _⟩ := h; exact h.lt

/-- Sorted they are the keys, each once. -/
theorem sorted_kset {ss ks : List Text} (hnd : ss.Nodup) (hm : ∀ x, x ∈ ss ↔ x ∈ ks) : ss.mergeSort leB = kset ks := by
  have tr : ∀ a b c : Text, leB a b = true → leB b c = true → leB a c = true := fun a b c h1 h2 => by simp only [leB, decide_eq_true_eq] at *; exact List.le_trans h1 h2
  have to : ∀ a b : Text, (leB a b || leB b a) = true := fun a b => by simp only [leB, Bool.or_eq_true, decide_eq_true_eq]; exact List.le_total a b
  refine rise_eq ?_ (kset_rise ks) fun x => ?_
  · have h1 := List.pairwise_mergeSort tr to ss
    have h2 : (ss.mergeSort leB).Nodup := (List.mergeSort_perm ss leB).symm.nodup hnd
    refine (h1.and h2).imp fun {a b} h => ?_
    have h3 : a ≤ b := of_decide_eq_true h.1
    rcases Decidable.em (a < b) with k | k
    · exact k
    · exact absurd (List.le_antisymm h3 k) h.2
  · rw [List.mem_mergeSort, kset_mem, hm]

/-! ### Gone over -/
abbrev Going (w : World) (m r n : Nat) (D : DataW Unit) (left : Lit → Bool) (cnt : Nat) : Prop := w.ranges Tryz.prog 9 boolElem m r n D left cnt
/-- What has been gathered while the map is gone over. -/
structure Coll (ks : List Text) (D : DataW Unit) (left : Lit → Bool) (cnt : Nat) (ss : List Text) : Prop where
  coll : Collected D left ss
  told : Told D ks
  len : ss.length + cnt ≤ ks.length
theorem Coll.start {ks : List Text} {D : DataW Unit} (t : Told D ks) : Coll ks D (Maps.has D) (Maps.size D) [] := ⟨Collected.start D, t, by have := t.size; simpa using this⟩
theorem Coll.done {ks : List Text} {D : DataW Unit} {left : Lit → Bool} {cnt : Nat} {ss : List Text} (h : Coll ks D left cnt ss) (hl : ∀ kl, left kl = false) : ss.mergeSort leB = kset ks := by
  refine sorted_kset h.coll.1 fun x => ?_
  rw [h.coll.2 x, hl, h.told.has]
  exact ⟨fun ⟨⟨y, hy, e⟩, _⟩ => by cases e; exact hy, fun hx => ⟨⟨x, hx, rfl⟩, rfl⟩⟩
/-- A round's step: nothing is left, or one of the keys has come. (Both goals are hidden, for the walk to stand.) -/
theorem wp_next_keys {w : World} {ops : Array Oper} {rest : List Oper} {o : Oper} {a : Act} {Q : Exit → Act → World → Prop} (hg : o.guard = none) (it : Operand) (hop : o.op = Op.next it false) (m r n : Nat) (D : DataW Unit) (ks ss : List Text) (left : Lit → Bool) (cnt : Nat)
    (hit : a.eval it = .pointer (some ⟨r, 0, none⟩)) (h : Going w m r n D left cnt) (hC : Coll ks D left cnt ss)
    (hDone : Hid ((∀ kl, left kl = false) → wpList Tryz.prog ops Q rest (a.put o.dst (.tuple #[.bool false])) w))
    (hMore : Hid (∀ (s : Text) (y : Value) (w' : World) (left' : Lit → Bool) (cnt' : Nat), s ∈ ks → Going w' m r n D left' cnt' → Coll ks D left' cnt' (ss ++ [s]) → cnt' < cnt → w.grownBy w' (some r) → w'.heap.size = w.heap.size →
      (Instr.entry (.pointer (some ⟨r, 0, none⟩))).run Tryz.prog w' = .ok (.tuple #[.string (str s), y]) w' → wpList Tryz.prog ops Q rest (a.put o.dst (.tuple #[.bool true, .string (str s), y])) w')) :
    wpList Tryz.prog ops Q (o :: rest) a w := by
  refine wpList_next_ranges w hg it hop 9 law_str boolElem (fun s : Text => .string (str s)) Value.bool (fun key kl hk => by obtain ⟨x, hx, _⟩ := Maps.keyOf_str Tryz.underlying9 hk; exact ⟨x, hx⟩) (fun v y hv => bool_inv hv) m r n D left cnt hit h (fun _ => hDone.out) ?_
  intro s c kl yv w' cnt' hkey hlk hv hat hrg hlt hgr hsz hen
  obtain ⟨x, e, rfl, _⟩ := Maps.keyOf_str Tryz.underlying9 hkey
  obtain rfl : s = x := encStr_inj e
  have hh := has_true_of_atKey hat
  obtain ⟨z, hz, e3⟩ := (hC.told.has _).1 hh
  cases e3
  exact hMore.out s (.bool c) w' _ cnt' hz hrg ⟨hC.coll.step hlk hat, hC.told, by have := hC.len; rw [List.length_append]; simp only [List.length_cons, List.length_nil]; omega⟩ hlt hgr hsz hen

/-! ### Sorted by the library -/
def SortsIt (base : Nat) (v : Value) (ss : List Text) (w : World) (e : Ending) (w' : World) : Prop := e = .returned (.tuple #[]) ∧ OwnS w' base v (ss.mergeSort leB) ∧ w.grownBy w' v.ownBlock
theorem sort_own (base : Nat) (v : Value) (ss : List Text) (w : World) (h : OwnS w base v ss) (hl : ss.length ≤ 100000) : Calls Tryz.prog 70 #[v] w (SortsIt base v ss w) := by
  rcases h.2 with ⟨rfl, h0⟩ | ⟨g, cap, cur, rfl, hbase, hb, h1, h2, h3, h4⟩
  · have e : ss = [] := List.eq_nil_of_length_eq_zero h0
    subst e
    exact (Tryz.slices_Sort_string_none none 0 w).mono fun e w' ⟨he, hw⟩ => by subst hw; exact ⟨he, by simpa using h, ⟨rfl, rfl, rfl, Nat.le_refl _, fun _ _ _ => rfl⟩⟩
  · have hH : Holds encStr w g 0 ss.toArray := holds_of_block hb (by simpa using h4)
    have hgl : g < w.heap.size := (Array.getElem?_eq_some_iff.1 hb).1
    refine (Tryz.slices_Sort_string g 0 cap ss w hH hgl (by omega)).mono fun e w' ⟨he, n, os, hw⟩ => ?_
    subst hw
    have ho := ownsRow_sorted (os := os) (n := n) (ss := ss) (ts := ss.mergeSort leB) (by simp) hbase hb h1 h2 h3
    refine ⟨he, ?_, grownBy_sorted _⟩
    unfold OwnS
    rw [List.length_mergeSort]; exact ho
theorem clone_any (s : Text) (w : World) (h : s.length ≤ 140737488351232) : Calls Tryz.prog 67 #[.string (str s)] w (RetBelow (.string (str s)) w) := by
  have HC := Lib.hid (Tryz.stringslite_Clone (str s) w (by rw [str_size]; omega))
  clear h
  go_enter Tryz.func67, Tryz.ntmps67
  go_wp2_with (go_at_call 83; (with_reducible refine HC.out.mono ?_); rintro e w1 ⟨rfl, hb⟩; have HB := Lib.hid hb; clear hb)
  go_ret
  exact ⟨rfl, HB.out⟩

theorem own_low {w : World} {base : Nat} {e : TypeId} {size : Nat} {v : Value} {n : Nat} {xs : List Value} (h : w.ownsRow base e size v n xs) {r : Nat} (hr : r < base) : some r ≠ v.ownBlock := fun e1 => by
  have := (World.ownsRow.lt h r e1.symm).1
  omega

/-- A row of texts of the call's own. -/
def GivesOwnS (zs : List Text) (w : World) (e : Ending) (w' : World) : Prop := ∃ v, e = .returned v ∧ OwnS w' w.heap.size v zs ∧ Below w.heap.size w w'
set_option maxHeartbeats 8000000 in
set_option maxRecDepth 100000 in
theorem bkeys_own (v : Value) (zs : List Cmdn) (w : World) (h : layC.Row w v zs) (hl : zs.length ≤ 100000) (hw : ∀ x ∈ zs, wfC x) : Calls Tryz.prog 48 #[v] w (GivesOwnS (kset (keys zs)) w) := by
  have hmm := @run_makeMap Tryz.prog
  obtain ⟨i0, hi, hz0, hz1, hz2⟩ := info_parts info_str
  obtain ⟨p, cap, rfl, h1, hd⟩ := h.parts
  have HP : Hid (kuntil zs zs.length = keys zs) := Lib.hid (kuntil_all zs)
  have HKL : Hid ((keys zs).length = zs.length) := Lib.hid (by unfold keys; rw [List.length_map])
  have HKW : Hid (∀ s ∈ keys zs, s.length ≤ 140737488351232) := Lib.hid fun s hs => by
    unfold keys at hs
    rw [List.mem_map] at hs
    obtain ⟨x, hx, rfl⟩ := hs
    exact (hw x hx).2
  obtain ⟨n, hn⟩ : ∃ n, n = zs.length := ⟨_, rfl⟩
  rw [← hn] at h1 hd hl HP HKL ⊢
  have HZ := Lib.hid hn
  have HW := Lib.hid hw
  clear h hn hw
  go_enter Tryz.func48, Tryz.ntmps48
  go_wp2
  clear hmm
  go_loopw [11] (fun i wr => ∃ k : Nat, k ≤ n ∧ i = .int .i64 k ∧ Hid (Below w.heap.size w wr) ∧ Hid (MapAt wr w.heap.size (kuntil zs k) k)) (fun i _ => n - (intOf i).toNat)
  case atStart => exact ⟨0, Nat.zero_le _, rfl, Lib.hid (below_one _ _), Lib.hid ⟨_, World.ownsMap_made w _ _ _, Told.nil⟩⟩
  case round =>
    obtain ⟨k, hk, rfl, hbw, hmap⟩ := hrel
    by_cases hkn : k < n
    · obtain ⟨B, off, rfl, HC⟩ := hd.resolve_left (by omega)
      have hkz : k < zs.length := by rw [← HZ.out]; exact hkn
      obtain ⟨c, s, f, hx⟩ : ∃ c s f, layC.at zs k = (c, s, f) := ⟨_, _, _, rfl⟩
      obtain ⟨c0, c1, c2⟩ := cellC (HC.out.on hbw.out) hkz hx
      have hlt := (HC.out.on hbw.out).lt
      have hne : B ≠ wr.heap.size := by omega
      have hwx := wf_at HW.out hkz hx
      have hkey := key_str hwx.2
      have HT := Lib.hid (kuntil_succ hkz hx)
      have k0 : (0 : Int) ≤ k := by omega
      have kn : (k : Int) < n := by omega
      obtain ⟨D, hown, htold⟩ := hmap.out
      have HO := Lib.hid hown
      have HD := Lib.hid (htold.put (hown.tidy law_str) s)
      have HB := Lib.hid (hbw.out.alloc hbw.out.size (.cells #[.int .i64 c, .string (str s), .float .f64 f] 55))
      clear hx hd hkz hwx hown htold
      go_wp2_with (first
        | (at_mapUpdate; refine wpList_mapUpdate_own _ rfl _ _ _ 108 rfl 9 4 law_str und_mapS boolElem w.heap.size k D rfl (HO.out.alloc _) (by unfold maxLen; omega) _ _ _ rfl rfl hkey _ [] bool_mk ?_; intro w1 hown1 hgrow1; have X1 := Lib.hid hown1; have X2 := Lib.hid (Below.grown HB.out hgrow1 HB.out.size (fun j hj => by cases hj; exact Nat.le_refl _)); clear hown1 hgrow1))
      go_roundw
      case rel => exact ⟨k + 1, by omega, by go_num, X2, Lib.hid ⟨_, X1.out, by rw [HT.out]; exact HD.out⟩⟩
      case measure => simp [intOf]; omega
    · have kn : ¬ (k : Int) < n := by omega
      obtain rfl : k = n := by omega
      obtain ⟨D, hown, htold⟩ := hmap.out
      rw [HP.out] at htold
      have HT := Lib.hid htold
      have HM := Lib.hid hown.lt
      obtain ⟨wq, hwq⟩ : ∃ wq, wq = wr := ⟨_, rfl⟩
      subst hwq
      clear hd htold
      go_wp2_with (first
        | (at_range; refine wpList_range_own _ rfl _ 108 rfl 9 4 law_str und_mapS boolElem w.heap.size k D rfl hown ?_; intro w0 hrg0 hg0 hs0; have HRG := Lib.hid hrg0; have HG0 := Lib.hid hg0; have HS0 := Lib.hid hs0; clear hrg0 hg0 hs0)
        | fail)
      try go_frame
      go_loopw [6] (fun o wr => ∃ (left : Lit → Bool) (cnt : Nat) (ss : List Text), Hid (Going wr w.heap.size wq.heap.size k D left cnt) ∧ Hid (OwnS wr (wq.heap.size + 1) o ss) ∧ Hid (Below wq.heap.size wq wr) ∧ Hid (wq.heap.size + 1 ≤ wr.heap.size) ∧ Hid (Coll (keys zs) D left cnt ss)) (fun _ wr => wr.rangeLeft w.heap.size wq.heap.size)
      case atStart =>
        exact ⟨_, _, [], HRG, Lib.hid (World.ownsRow_nil _ _ _ _), Lib.hid (Below.grown (Below.refl _ _) HG0.out (Nat.le_refl _) (fun k hk => by cases hk)), Lib.hid (by rw [HS0.out]; exact Nat.le_refl _), Lib.hid (Coll.start HT.out)⟩
      case round =>
        obtain ⟨left, cnt, ss, hrg, hrow, hbw2, hsz, hC⟩ := hrel
        go_wp2_with (first
          | (at_next; refine wp_next_keys rfl _ rfl w.heap.size wq.heap.size k D (keys zs) ss left cnt rfl hrg.out hC.out ?_ ?_)
          | fail)
        · refine Lib.hid fun hl0 => ?_
          have HL := Lib.hid (hC.out.done hl0)
          have HS := Lib.hid (sort_own (wq.heap.size + 1) u6 ss wr hrow.out (by have := hC.out.len; rw [HKL.out] at this; omega))
          clear hl0
          go_wp2_with (go_at_call 70; ((with_reducible refine HS.out.mono ?_); rintro e w3 ⟨rfl, ho3, hg3⟩; have HO3 := Lib.hid ho3; have HG3 := Lib.hid hg3; clear ho3 hg3))
          go_ret
          have hb3 : Below wq.heap.size wq w3 := below_grown hbw2.out (by omega) hrow.out hbw2.out.size HG3.out
          exact ⟨_, rfl, own_mono (by rw [← HL.out]; exact HO3.out) (by have := hbw.out.size; omega), hbw.out.trans (hb3.mono hbw.out.size)⟩
        · refine Lib.hid ?_
          intro s c w2 left2 cnt2 hmem hrg2 hC2 hlt hg2 hs2 hen
          have hsz2 : wq.heap.size + 1 ≤ w2.heap.size := by rw [hs2]; exact hsz.out
          have HB2 : Hid (Below wq.heap.size wq w2) := Lib.hid (Below.grown hbw2.out hg2 hbw2.out.size (fun k hk => by cases hk; exact Nat.le_refl _))
          have HO2 : Hid (OwnS w2 (wq.heap.size + 1) u6 ss) := Lib.hid (World.ownsRow.kept hrow.out hg2 (.inr (own_low hrow.out (by omega)).symm))
          have HG2 := Lib.hid hrg2
          have HC2 := Lib.hid hC2
          have HCL := Lib.hid (clone_any s w2 (HKW.out s hmem))
          have HSZ := Lib.hid hsz2
          have HLT := Lib.hid hlt
          have hol : ss.length ≤ 100000 := by have := hC.out.len; rw [HKL.out] at this; omega
          clear hrg2 hC2 hlt hg2 hs2 hsz2 hmem
          go_wp2_with (first
            | (go_at_call 67; ((with_reducible refine HCL.out.mono ?_); rintro e w3 ⟨rfl, hb⟩; have HB3 := Lib.hid (HB2.out.trans (hb.mono HB2.out.size)); have HO3 := Lib.hid (own_below HO2.out hb); have HG3 := Lib.hid (HG2.out.kept (grown_of hb) (by simp) (by simp)); have hs3 : wq.heap.size + 1 ≤ w3.heap.size := Nat.le_trans HSZ.out hb.size; clear hb))
            | (at_builtin; refine wpList_append_own _ rfl _ _ 66 rfl (wq.heap.size + 1) 9 i0 (.string ⟨#[]⟩) 1 16 Tryz.underlying66 hi hz0 hz1 hz2 rfl (by decide) _ _ _ rfl (World.ownsRow.alloc HO3.out _) ⟨w3.heap.size, 0, none⟩ 1 1 [.string (str s)] rfl rfl (cell_one_new _ _ _) (fun u hu => by simp at hu; subst hu; rfl) (by unfold maxLen; omega) (by omega) (by simp; omega) ?_; intro v1 w4 hown1 hgrow1 hnil1; have X1 := Lib.hid (OwnS.snoc hown1); have X2 := Lib.hid (below_grown (HB3.out.alloc HB3.out.size _) (Nat.le_succ _) (World.ownsRow.alloc HO3.out _) (by have := HB3.out.size; simp; omega) hgrow1); have X3 := Lib.hid ((HG3.out.alloc _).kept hgrow1 (own_low HO3.out (by have := HM.out; omega)) (own_low HO3.out (by omega))); have hs4 : wq.heap.size + 1 ≤ w4.heap.size := (by have := hgrow1.size; simp at this; omega); clear hown1 hgrow1 hnil1))
          go_roundw
          case rel => exact ⟨left2, cnt2, ss ++ [s], X3, X1, X2, Lib.hid hs4, HC2⟩
          case measure => rw [X3.out.left_eq, hrg.out.left_eq]; exact HLT.out
theorem bkeys_any (v : Value) (zs : List Cmdn) (w : World) (h : layC.Row w v zs) (hl : zs.length ≤ 100000) (hw : ∀ x ∈ zs, wfC x) : Calls Tryz.prog 48 #[v] w (layS.Gives (kset (keys zs)) w) :=
  (bkeys_own v zs w h hl hw).mono fun e w' ⟨u, h1, h2, h3⟩ => ⟨u, h1, rowS h2, h3⟩
end Go.Proofs.YtomidcbpnaajeaaGreat.Bat
