/- What the program's Sorted gives (layer 3, ident): the list in order, each id once, in memory of the call's own. Conditions: the list lies in memory as its cells say, and is not longer than 100000. -/
import Derived.Test.YtnekajpoheipiaaGreatIdF
import Derived.Shelf.SlSortCmp.NoneTotal
import Derived.Lib.OwnBridge
import Derived.Laws.AppendOwnNone
import Derived.Lib.AppendIntMem
namespace Go.Proofs.YtnekajpoheipiaaGreat.Ids
open Go.RowKit Go.Lib Go.Sort
set_option linter.unusedVariables false

theorem RowM.of_hold {w : World} {g : Nat} {d : Array Idn} (h : HoldsK ids 2 w g 0 d) (hlt : g < w.heap.size) : RowM w g d := by
  have h0 := fun j (hj : j < d.size) => HoldsK.cell h (i := j) (c := 0) hj (by omega)
  have h1 := fun j (hj : j < d.size) => HoldsK.cell h (i := j) (c := 1) hj (by omega)
  simp only [Nat.zero_add, Nat.add_zero] at h0 h1
  exact ⟨hlt, fun j hj => (h0 j hj).1, fun j hj => (h1 j hj).1, fun j hj => (h0 j hj).2, fun j hj => (h1 j hj).2⟩
theorem sorted_world {w : World} {B g m : Nat} {d0 d : Array Idn} {os : Array Obj} {a : World} (hb : Below B a w) (hB : B ≤ g) (hg : g < w.heap.size) (h0 : HoldsK ids 2 w g 0 d0) (hs : d.size = d0.size) :
    RowM (sortWorldK ids 2 w g 0 m d os) g d ∧ Below B a (sortWorldK ids 2 w g 0 m d os) := by
  have hsz : (putRowK ids 2 (Sort.ahead w m) g 0 d).heap.size = w.heap.size := by unfold putRowK; simp
  have h1 := holdsK_putRowK ids 2 (Sort.ahead w m) g 0 d0 d (holdsK_ahead ids 2 w m g 0 d0 h0) hs
  have h2 := holdsK_grow ids 2 _ os g 0 d (by rw [hsz]; exact hg) h1
  have hb2 : Below B a (putRowK ids 2 (Sort.ahead w m) g 0 d) := Lib.below_putRow (enc := id) hb hB
  refine ⟨RowM.of_hold h2 ?_, below_gr hb2 (by rw [hsz]; omega) os⟩
  have := (below_gr hb2 (by rw [hsz]; omega) os).size
  show g < ((putRowK ids 2 (Sort.ahead w m) g 0 d).heap ++ os).size
  rw [Array.size_append, hsz]; omega

theorem cup_srt {zs : List Idn} {d : Array Idn} {n : Nat} (hn : n = zs.length) (hp : PermIn 0 n zs.toArray d) (hs : SortedIn (ltOf idCmp) 0 n d) : d.size = n ∧ compactUpTo d n = srt zs := by
  obtain ⟨p1, -, p3⟩ := hp
  have hds : d.size = n := by rw [p1, hn]; simp
  refine ⟨hds, rise_eq (cup_rise d n fun i j hij hj => ?_) (srt_rise zs) fun x => ?_⟩
  · rw [← ltOf_id]; exact hs i j (Nat.zero_le _) hij hj
  · have e1 : d.extract 0 n = d := by rw [← hds]; simp
    have e2 : (zs.toArray).extract 0 n = zs.toArray := by rw [hn]; simp
    rw [e1, e2] at p3
    have hm : x ∈ d.toList ↔ x ∈ zs := p3.mem_iff
    rw [srt_mem, ← hm]
    constructor
    · intro h
      obtain ⟨j, hj, e⟩ := cup_sub d n x h
      rw [← e, getElem!_pos d j (by omega)]; simp
    · intro h
      obtain ⟨j, hj, e⟩ := List.getElem_of_mem h
      have hj' : j < d.size := by simpa using hj
      have := cup_mem d n j (by omega)
      rw [getElem!_pos d j hj'] at this
      rw [← e]; simpa using this

theorem compact_small (p : Option Addr) (cap : Nat) (w : World) : Calls Tryz.prog 45 #[.slice p 0 cap] w fun e w' => e = .returned (.slice p 0 cap) ∧ w = w' := by
  go_enter Tryz.func45, Tryz.ntmps45
  go_wp2
  go_ret
  exact ⟨rfl, rfl⟩

set_option maxHeartbeats 1000000 in
theorem sorted_any (v : Value) (zs : List Idn) (w : World) (h : RowAt w v zs) (hl : zs.length ≤ 100000) : Calls Tryz.prog 22 #[v] w (GivesRow (srt zs) w) := by
  have eg : ∀ args w, (callFunc 44 args).run Tryz.prog w = .ok (.enter 44 args) w := enters_of Tryz.func44 (by kernel_rfl) rfl
  obtain ⟨i0, hi, hz0, hz1, hz2⟩ := info_parts info_id
  obtain ⟨p, cap, rfl, h1, h2, -, h3⟩ := h
  have S0 : Hid (∀ w, Calls Tryz.prog 43 #[.slice none 0 0, .func (.func 44) #[] #[]] w fun e w' => e = .returned (.tuple #[]) ∧ w' = w) := Lib.hid fun w => AnyF.slices_SortFunc_none Tryz.sortId none 0 _ w
  by_cases hz : zs = []
  · subst hz
    clear h3 eg
    cases p with
    | none =>
      go_enter Tryz.func22, Tryz.ntmps22
      go_wp2_with (first
        | (go_at_call 43; refine (S0.out _).mono ?_; rintro e w' ⟨rfl, rfl⟩)
        | (go_at_call 45; refine (compact_small _ _ _).mono ?_; rintro e w' ⟨rfl, rfl⟩))
      go_ret
      exact ⟨_, rfl, row_nil _, Below.refl _ _⟩
    | some ad =>
      go_enter Tryz.func22, Tryz.ntmps22
      go_wp2_with (first
        | (at_builtin; refine wpList_append_own _ rfl _ _ 23 rfl w.heap.size 25 i0 (.agg #[.int .i64 0, .int .i64 0]) 2 16 Tryz.underlying23 hi hz0 hz1 hz2 rfl (by decide) _ _ _ rfl (World.ownsRow_nil w w.heap.size 25 2) ad 0 cap [] rfl rfl (fun j u hu => by simp at hu) (fun u hu => by simp at hu) (by unfold maxLen; omega) (by omega) (Nat.le_refl _) ?_; intro v1 w1 hown1 hgrow1 hnil1; obtain rfl := hnil1.2 ⟨rfl, rfl⟩; have HB := Lib.hid (Below.grown (Below.refl w.heap.size w) hgrow1 (Nat.le_refl _) (fun k hk => by cases hk)); clear hown1 hgrow1 hnil1)
        | (go_at_call 43; refine (S0.out _).mono ?_; rintro e w' ⟨rfl, rfl⟩)
        | (go_at_call 45; refine (compact_small _ _ _).mono ?_; rintro e w' ⟨rfl, rfl⟩))
      go_ret
      exact ⟨_, rfl, row_nil _, HB.out⟩
  · obtain ⟨B, off, rfl, hlt, hc⟩ := h3 hz
    obtain ⟨n, hn⟩ : ∃ n, n = zs.length := ⟨_, rfl⟩
    have hnews : ∀ j u, (flat zs)[j]? = some u → w.cell? ((⟨B, off, none⟩ : Addr).add j) = some u := fun j u hu => by
      have hj : j / 2 < zs.length := by
        have := (List.getElem?_eq_some_iff.1 hu).1
        rw [flat_len] at this; omega
      have h4 := hc _ hj
      have h5 := flat_at zs _ hj
      have ha : ((⟨B, off, none⟩ : Addr).add j) = ⟨B, off + j, none⟩ := Addr.add_lit _ _ _
      rw [ha]
      rcases Nat.mod_two_eq_zero_or_one j with h2 | h2
      · have e : j / 2 * 2 = j := by omega
        rw [e] at h4 h5
        rw [h5.1] at hu
        rw [h4.1, ← hu]
      · have e : j / 2 * 2 + 1 = j := by omega
        rw [Nat.add_assoc, e] at h4
        rw [e] at h5
        rw [h5.2] at hu
        rw [h4.2, ← hu]
    have hone : ∀ u ∈ flat zs, u.oneCell' = true := fun u hu => by
      unfold flat at hu
      rw [List.mem_flatMap] at hu
      obtain ⟨x, _, hx⟩ := hu
      simp [ids] at hx
      rcases hx with rfl | rfl <;> rfl
    have hfl : (flat zs).length = n * 2 := by rw [flat_len, hn]
    have SO : Hid (∀ (g cp : Nat) (w1 : World), HoldsK ids 2 w1 g 0 zs.toArray → g < w1.heap.size → Calls Tryz.prog 43 #[.slice (some ⟨g, 0, none⟩) n cp, .func (.func 44) #[] #[]] w1 fun e w' =>
        e = .returned (.tuple #[]) ∧ ∃ d' m os, (PermIn 0 n zs.toArray d' ∧ SortedIn (ltOf idCmp) 0 n d') ∧ w' = sortWorldK ids 2 w1 g 0 m d' os) := Lib.hid fun g cp w1 hh hg => by
      have hsz : zs.toArray.size = n := by simp [hn]
      have hcon := AnyQ.slices_SortFunc Tryz.sortId 2 Tryz.isAgg25 Tryz.sizeOf25 ids (fun _ => rfl) (fun x v hv => by simp [ids] at hv; rcases hv with rfl | rfl <;> rfl) idCmp swo_id 44 #[] g 0 cp zs.toArray w1 eg (cmp_lays g 0 zs.toArray.size w1) hh hg (by rw [hsz]; omega)
      rw [hsz] at hcon
      exact hcon.mono fun e w' ⟨he, d', m, os, hp, hs, hw⟩ => ⟨he, d', m, os, ⟨hp, hs⟩, hw⟩
    have HN := Lib.hid hn
    have HZ := Lib.hid hz
    have hl2 : n ≤ 100000 := by omega
    rw [← hn] at h1 ⊢
    clear hc h3 eg hz hn hl
    go_enter Tryz.func22, Tryz.ntmps22
    go_wp2_with (first
      | (at_builtin; refine wpList_append_own _ rfl _ _ 23 rfl w.heap.size 25 i0 (.agg #[.int .i64 0, .int .i64 0]) 2 16 Tryz.underlying23 hi hz0 hz1 hz2 rfl (by decide) _ _ _ rfl (World.ownsRow_nil w w.heap.size 25 2) ⟨B, off, none⟩ n cap (flat zs) rfl hfl hnews hone (by unfold maxLen; omega) (by omega) (Nat.le_refl _) ?_; intro v1 w1 hown1 hgrow1 hnil1; refine Hid.out ?_)
      | fail)
    have hb1 : Below w.heap.size w w1 := Below.grown (Below.refl w.heap.size w) hgrow1 (Nat.le_refl _) (fun k hk => by cases hk)
    have ho1 : Owns w1 w.heap.size v1 zs := by
      have : w1.ownsRow w.heap.size 25 2 v1 (0 + n) ([] ++ flat zs) := hown1
      rw [Nat.zero_add, List.nil_append, HN.out] at this
      exact this
    obtain ⟨g, cp, rfl, hg0, hg, hcp, hcm, hh⟩ := Owns.hold ho1 HZ.out
    rw [← HN.out] at hcp ⊢
    have C1 := Lib.hid (SO.out g cp w1 hh hg)
    have H1 := Lib.hid hh
    have HB := Lib.hid hb1
    have HG := Lib.hid (And.intro hg0 hg)
    have HC := Lib.hid (And.intro hcp hcm)
    clear hown1 hgrow1 hnil1 hb1 ho1 hh hg0 hg hcp hcm hnews hone hfl SO S0
    refine Lib.hid ?_
    go_wp2_with (first
      | (go_at_call 43; refine C1.out.mono ?_; rintro e w2 ⟨rfl, d', m, os, hd, hw⟩; have HW := Lib.hid hw; clear hw; refine Hid.out ?_)
      | fail)
    have hu := cup_srt HN.out hd.1 hd.2
    have hsz : d'.size = zs.toArray.size := by rw [hu.1, HN.out]; simp
    have hsw := sorted_world (m := m) (d := d') (os := os) HB.out HG.out.1 HG.out.2 H1.out hsz
    rw [← HW.out] at hsw
    have HU := Lib.hid hu
    have HS := Lib.hid hsw
    have CP := Lib.hid (compact_any d' n g cp w2 hu.1.symm hsw.1 HC.out.1 HC.out.2)
    rw [hu.2] at CP
    have HL := Lib.hid (srt_length zs)
    clear hd HW hu hsw hsz
    refine Lib.hid ?_
    go_wp2_with (first
      | (go_at_call 45; refine CP.out.mono ?_; rintro e w3 ⟨rfl, hr⟩; have HR := Lib.hid hr; clear hr)
      | fail)
    go_ret
    have hr := HR.out.1
    refine ⟨_, rfl, ⟨some ⟨g, 0, none⟩, cp, rfl, ?_, HC.out.2, (fun h => by cases h), fun _ => ⟨g, 0, rfl, hr.lt, fun j hj => ⟨hr.fst j hj, hr.snd j hj⟩⟩⟩, HS.out.2.trans (HR.out.2.mono HG.out.1)⟩
    exact Nat.le_trans HL.out (by rw [← HN.out]; exact HC.out.1)
end Go.Proofs.YtnekajpoheipiaaGreat.Ids
