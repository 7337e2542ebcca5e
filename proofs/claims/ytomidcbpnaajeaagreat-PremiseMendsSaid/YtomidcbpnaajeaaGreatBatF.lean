/- What the program's Writes and the document's give: the places of the commands that write a key (layer 7, batch). Conditions: the list lies in memory as its cells say, is not longer than 100000; numbers' words of 64 bits; texts of a length that Go reads. -/
import Derived.Test.YtomidcbpnaajeaaGreatBatA
import Derived.Maps.AppendAt
import Derived.WalkSmall
import Derived.Sort.EncStr
namespace Go.Proofs.YtomidcbpnaajeaaGreat.Bat
open Go.RowKit Cmd
set_option linter.unusedVariables false

/-! ### Rows of the call's own, of one cell an element -/
def encI (x : Int) : Value := .int .i64 x
theorem rowI {w : World} {base : Nat} {e : TypeId} {v : Value} {zs : List Int} (h : w.ownsRow base e 1 v zs.length (zs.map encI)) : layI.Row w v zs := own_row (L := layI) (enc := encI) (fun _ _ => rfl) (fun _ _ _ _ h => h) h
theorem rowS {w : World} {base : Nat} {e : TypeId} {v : Value} {zs : List (List UInt8)} (h : w.ownsRow base e 1 v zs.length (zs.map encStr)) : layS.Row w v zs := own_row (L := layS) (enc := encStr) (fun _ _ => rfl) (fun _ _ _ _ h => h) h
abbrev OwnI (w : World) (base : Nat) (v : Value) (zs : List Int) : Prop := w.ownsRow base 3 1 v zs.length (zs.map encI)
abbrev OwnS (w : World) (base : Nat) (v : Value) (zs : List (List UInt8)) : Prop := w.ownsRow base 9 1 v zs.length (zs.map encStr)
theorem OwnI.snoc {w : World} {base : Nat} {v : Value} {zs : List Int} {x : Int} (h : w.ownsRow base 3 1 v (zs.length + 1) (zs.map encI ++ [.int .i64 x])) : OwnI w base v (zs ++ [x]) := by
  unfold OwnI; rw [List.length_append, List.map_append]; exact h
theorem OwnS.snoc {w : World} {base : Nat} {v : Value} {zs : List (List UInt8)} {x : List UInt8} (h : w.ownsRow base 9 1 v (zs.length + 1) (zs.map encStr ++ [.string (str x)])) : OwnS w base v (zs ++ [x]) := by
  unfold OwnS; rw [List.length_append, List.map_append]; exact h
theorem info_int : (Tryz.prog.info? 3).map (fun i => (i.zero, i.size, i.bytes)) = some (some (.int .i64 0), 1, 8) := by kernel_rfl
theorem info_str : (Tryz.prog.info? 9).map (fun i => (i.zero, i.size, i.bytes)) = some (some (.string ⟨#[]⟩), 1, 16) := by kernel_rfl

/-! ### The places of those that write a key -/
def plc (zs : List Cmdn) (s : List UInt8) (k : Nat) : List Int := ((List.range k).filter fun j => decide ((layC.at zs j).2.1 = s) && wrt (layC.at zs j)).map fun j => ((j : Nat) : Int)
theorem plc_zero (zs : List Cmdn) (s : List UInt8) : plc zs s 0 = [] := rfl
theorem plc_yes {zs : List Cmdn} {s : List UInt8} {k : Nat} (h : (decide ((layC.at zs k).2.1 = s) && wrt (layC.at zs k)) = true) : plc zs s (k + 1) = plc zs s k ++ [(k : Int)] := by
  unfold plc; rw [List.range_succ, List.filter_append, List.map_append]; simp only [List.filter_cons, h, if_true, List.filter_nil, List.map_cons, List.map_nil]
theorem plc_no {zs : List Cmdn} {s : List UInt8} {k : Nat} (h : (decide ((layC.at zs k).2.1 = s) && wrt (layC.at zs k)) = false) : plc zs s (k + 1) = plc zs s k := by
  unfold plc; rw [List.range_succ, List.filter_append, List.map_append]; simp only [List.filter_cons, h, Bool.false_eq_true, if_false, List.filter_nil, List.map_nil, List.append_nil]
theorem plc_len (zs : List Cmdn) (s : List UInt8) (k : Nat) : (plc zs s k).length ≤ k := by
  unfold plc; rw [List.length_map]; exact Nat.le_trans (List.length_filter_le _ _) (by rw [List.length_range]; exact Nat.le_refl _)
def places (zs : List Cmdn) (s : List UInt8) : List Int := plc zs s zs.length

/-- A row of numbers of the call's own. -/
def GivesOwnI (zs : List Int) (w : World) (e : Ending) (w' : World) : Prop := ∃ v, e = .returned v ∧ OwnI w' w.heap.size v zs ∧ Below w.heap.size w w'
set_option maxHeartbeats 4000000 in
set_option maxRecDepth 100000 in
theorem bwrites_own (v : Value) (zs : List Cmdn) (s : List UInt8) (w : World) (h : layC.Row w v zs) (hl : zs.length ≤ 100000) (hw : ∀ x ∈ zs, wfC x) : Calls Tryz.prog 31 #[v, .string (str s)] w (GivesOwnI (places zs s) w) := by
  obtain ⟨i0, hi, hz0, hz1, hz2⟩ := info_parts info_int
  obtain ⟨p, cap, rfl, h1, hd⟩ := h.parts
  have HP : Hid (places zs s = plc zs s zs.length) := Lib.hid rfl
  obtain ⟨n, hn⟩ : ∃ n, n = zs.length := ⟨_, rfl⟩
  rw [← hn] at h1 hd hl HP ⊢
  have HZ := Lib.hid hn
  have HW := Lib.hid hw
  generalize places zs s = r at HP
  clear h hn hw
  go_enter Tryz.func31, Tryz.ntmps31
  go_wp2
  go_loopw [5, 10] (fun o i wr => ∃ k : Nat, k ≤ n ∧ i = .int .i64 k ∧ Hid (Below w.heap.size w wr) ∧ Hid (OwnI wr w.heap.size o (plc zs s k))) (fun _ i _ => n - (intOf i).toNat)
  case atStart => exact ⟨0, Nat.zero_le _, rfl, Lib.hid (Below.refl _ _), Lib.hid (World.ownsRow_nil w w.heap.size 3 1)⟩
  case round =>
    obtain ⟨k, hk, rfl, hbw, hown⟩ := hrel
    by_cases hkn : k < n
    · obtain ⟨B, off, rfl, HC⟩ := hd.resolve_left (by omega)
      have hkz : k < zs.length := by rw [← HZ.out]; exact hkn
      obtain ⟨c, t, f, hx⟩ : ∃ c t f, layC.at zs k = (c, t, f) := ⟨_, _, _, rfl⟩
      obtain ⟨c0, c1, c2⟩ := cellC (HC.out.on hbw.out) hkz hx
      have hlt := (HC.out.on hbw.out).lt
      have hne : B ≠ wr.heap.size := by omega
      have hwx := wf_at HW.out hkz hx
      have HB := Lib.hid (Boxed.start wr c t f)
      have HR := Lib.hid (fun w => writes_any c t f w hwx.1)
      have HX : Hid ((decide ((layC.at zs k).2.1 = s) && wrt (layC.at zs k)) = (decide (t = s) && cWrites c t f)) := Lib.hid (by rw [hx]; rfl)
      have he := str_dec t s
      have k0 : (0 : Int) ≤ k := by omega
      have kn : (k : Int) < n := by omega
      have hs : w.heap.size ≤ wr.heap.size := hbw.out.size
      clear hx hd hwx hkz
      generalize cWrites c t f = y at HR HX
      generalize decide (t = s) = x at he HX
      cases x
      · have HN := Lib.hid (plc_no HX.out)
        go_wp2
        go_roundw
        case rel => exact ⟨k + 1, by omega, by go_num, Lib.hid (hbw.out.trans (HB.out.below.mono hs)), Lib.hid (by rw [HN.out]; exact own_below hown.out HB.out.below)⟩
        case measure => simp [intOf]; omega
      · cases y
        · have HN := Lib.hid (plc_no HX.out)
          go_wp2_with (first
            | (go_at_call 52; (with_reducible refine (HR.out _).mono ?_); rintro e w1 ⟨rfl, hb⟩; have HB1 := Lib.hid (HB.out.on hb); clear hb))
          go_roundw
          case rel => exact ⟨k + 1, by omega, by go_num, Lib.hid (hbw.out.trans (HB1.out.below.mono hs)), Lib.hid (by rw [HN.out]; exact own_below hown.out HB1.out.below)⟩
          case measure => simp [intOf]; omega
        · have HN := Lib.hid (plc_yes HX.out)
          have hpl := plc_len zs s k
          go_wp2_with (first
            | (go_at_call 52; (with_reducible refine (HR.out _).mono ?_); rintro e w1 ⟨rfl, hb⟩; have HB1 := Lib.hid (HB.out.on hb); clear hb; have HO1 := Lib.hid (own_below hown.out HB1.out.below); have HB2 := Lib.hid (hbw.out.trans (HB1.out.below.mono hs)); have hs1 : w.heap.size ≤ w1.heap.size := HB2.out.size)
            | (at_builtin; refine wpList_append_own _ rfl _ _ 75 rfl w.heap.size 3 i0 (.int .i64 0) 1 8 Tryz.underlying75 hi hz0 hz1 hz2 rfl (by decide) _ _ _ rfl (World.ownsRow.alloc HO1.out _) ⟨w1.heap.size, 0, none⟩ 1 1 [.int .i64 k] rfl rfl (cell_one_new _ _ _) (fun u hu => by simp at hu; subst hu; rfl) (by unfold maxLen; omega) (by omega) (by simp; omega) ?_; intro v1 w3 hown1 hgrow1 hnil1; have X1 := Lib.hid (And.intro (OwnI.snoc hown1) (below_grown (HB2.out.alloc HB2.out.size _) (Nat.le_refl _) (World.ownsRow.alloc HO1.out _) (by simp; omega) hgrow1)); clear hown1 hgrow1 hnil1))
          go_roundw
          case rel => exact ⟨k + 1, by omega, by go_num, Lib.hid X1.out.2, Lib.hid (by rw [HN.out]; exact X1.out.1)⟩
          case measure => simp [intOf]; omega
    · have kn : ¬ (k : Int) < n := by omega
      obtain rfl : k = n := by omega
      clear hd
      go_wp2
      go_ret
      exact ⟨_, rfl, by rw [HP.out]; exact hown.out, hbw.out⟩
theorem bwrites_any (v : Value) (zs : List Cmdn) (s : List UInt8) (w : World) (h : layC.Row w v zs) (hl : zs.length ≤ 100000) (hw : ∀ x ∈ zs, wfC x) : Calls Tryz.prog 31 #[v, .string (str s)] w (layI.Gives (places zs s) w) :=
  (bwrites_own v zs s w h hl hw).mono fun e w' ⟨u, h1, h2, h3⟩ => ⟨u, h1, rowI h2, h3⟩

end Go.Proofs.YtomidcbpnaajeaaGreat.Bat
