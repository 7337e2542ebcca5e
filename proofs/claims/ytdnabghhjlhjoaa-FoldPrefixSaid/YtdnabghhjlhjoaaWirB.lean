/- Rows of bytes: as arguments, and of the call's own; what Put and the document's Bytes give (layer 9, wire). Conditions: the bytes lie in memory as their cells say, and are not more than 100000. -/
import Derived.Test.YtdnabghhjlhjoaaWirA
import Derived.Test.YtdnabghhjlhjoaaLay
namespace Go.Proofs.Ytdnabghhjlhjoaa.Wir
open Go.RowKit Cmd Bat
set_option linter.unusedVariables false

/-! ### Rows of bytes -/
def encB (c : UInt8) : Value := .int .u8 (c.toNat : Int)
def layB : Lay UInt8 := ⟨0, fun o j => o + j, fun w b o x => w.cell? ⟨b, o, none⟩ = some (.int .u8 (x.toNat : Int)), fun {w w' b o x} hb h h0 => (h.cell (p := ⟨b, o, none⟩) hb).trans h0⟩
theorem cellB {w : World} {B off : Nat} {zs : List UInt8} (h : layB.In w B off zs) {k : Nat} (hk : k < zs.length) {x : UInt8} (hx : layB.at zs k = x) : w.cell? ⟨B, off + k, none⟩ = some (.int .u8 (x.toNat : Int)) := by
  subst hx; exact h.cell k hk
abbrev OwnB (w : World) (base : Nat) (v : Value) (zs : List UInt8) : Prop := w.ownsRow base 5 1 v zs.length (zs.map encB)
theorem rowB {w : World} {base : Nat} {v : Value} {zs : List UInt8} (h : OwnB w base v zs) : layB.Row w v zs := own_row (L := layB) (enc := encB) (fun _ _ => rfl) (fun _ _ _ _ h => h) h
theorem info_byte : (Try.prog.info? 5).map (fun i => (i.zero, i.size, i.bytes)) = some (some (.int .u8 0), 1, 1) := by kernel_rfl
def GivesB (zs : List UInt8) (w : World) (e : Ending) (w' : World) : Prop := ∃ v, e = .returned v ∧ OwnB w' w.heap.size v zs ∧ Below w.heap.size w w'
/-- A row that what is appended to moves: the call's own, or without spare room. -/
def Grows (w : World) (base : Nat) (v : Value) (zs : List UInt8) : Prop := OwnB w base v zs ∨ (layB.Row w v zs ∧ ∃ p, v = .slice p zs.length zs.length ∧ (p = none → zs.length = 0))
theorem Grows.on {w w' : World} {base : Nat} {v : Value} {zs : List UInt8} (h : Grows w base v zs) (hb : Below w.heap.size w w') : Grows w' base v zs :=
  h.imp (fun h => own_below h hb) fun ⟨h1, h2⟩ => ⟨h1.on hb, h2⟩
theorem Grows.row {w : World} {base : Nat} {v : Value} {zs : List UInt8} (h : Grows w base v zs) : layB.Row w v zs := h.elim rowB (·.1)
theorem own_len {w : World} {base : Nat} {v : Value} {zs : List UInt8} (h : OwnB w base v zs) : ∃ p cap, v = .slice p zs.length cap ∧ zs.length ≤ cap ∧ cap ≤ 9223372036854775807 := by
  obtain ⟨p, cap, e, h1, h2, -⟩ := rowB h; exact ⟨p, cap, e, h1, h2⟩
theorem row_olds {w : World} {p : Option Addr} {n cap : Nat} {zs : List UInt8} (h : layB.Row w (.slice p n cap) zs) : ∀ b, p = some b → ∀ j u, (zs.map encB)[j]? = some u → w.cell? (b.add j) = some u := by
  intro b hp j u hj
  obtain ⟨p', cap', e, h1, h2, h3⟩ := h
  have hj' : j < zs.length := by
    have := (List.getElem?_eq_some_iff.1 hj).1; simpa using this
  obtain ⟨B, off, rfl, hi⟩ := h3 (by rintro rfl; simp at hj')
  injection e with e1 e2 e3
  rw [hp] at e1
  injection e1 with e1
  subst e1
  rw [Addr.add_lit]
  refine (hi.cell j hj').trans ?_
  rw [List.getElem?_map, List.getElem?_eq_getElem hj'] at hj
  rw [layB.at_get hj']
  simpa [encB] using hj
/-- What is appended at the operation: to a row of the call's own, or without spare room. -/
theorem wp_more {ops : Array Oper} {rest : List Oper} {o : Oper} {a : Act} {Q : Exit → Act → World → Prop} {w : World} (hgd : o.guard = none) (s x : Operand)
    (ho : o.op = .call { callee := .builtin .append, args := #[s, x], argTypes := #[97, 97] }) (base : Nat) (v : Value) (zs : List UInt8) (hs : a.eval s = v) (hv : Grows w base v zs) (hb : base ≤ w.heap.size)
    (ad : Addr) (m c : Nat) (ys : List UInt8) (hx : a.eval x = .slice (some ad) m c) (hm : m = ys.length) (hc : ∀ j u, (ys.map encB)[j]? = some u → w.cell? (ad.add j) = some u) (hl : zs.length + ys.length ≤ 1000000) (hp : 0 < ys.length)
    (hK : ∀ v' w', Hid (OwnB w' base v' (zs ++ ys)) → Hid (Below base w w') → wpList Try.prog ops Q rest (a.put o.dst v') w') : wpList Try.prog ops Q (o :: rest) a w := by
  obtain ⟨i0, hi, hz0, hz1, hz2⟩ := info_parts info_byte
  subst hm
  have e : (zs ++ ys).length = zs.length + ys.length := List.length_append
  rcases hv with h | ⟨h, p, rfl, h0⟩
  · refine wpList_append_own w hgd s x 97 ho base 5 i0 _ 1 1 Try.underlying97 hi hz0 hz1 hz2 rfl (by decide) v zs.length (zs.map encB) hs h ad ys.length c (ys.map encB) hx (by simp) hc (fun u hu => by obtain ⟨y, _, rfl⟩ := List.mem_map.1 hu; rfl) (by unfold maxLen; omega) (by omega) hb fun v' w' h1 h2 h3 => ?_
    refine hK v' w' (Lib.hid ?_) (Lib.hid (below_grown (Below.refl _ _) (Nat.le_refl _) h hb h2))
    unfold OwnB; rw [e, List.map_append]; exact h1
  · refine wpList_append_grows w hgd s x 97 ho 5 i0 _ 1 1 Try.underlying97 hi hz0 hz1 hz2 rfl (by decide) p zs.length zs.length (zs.map encB) hs (fun e => ⟨h0 e, h0 e⟩) (by simp) (row_olds h) ad ys.length c (ys.map encB) hx (by simp) hc (fun u hu => by obtain ⟨y, _, rfl⟩ := List.mem_map.1 hu; rfl) (by omega) (by unfold maxLen; omega) (by omega) fun v' w' h1 h2 => ?_
    refine hK v' w' (Lib.hid ?_) (Lib.hid (Below.grown (Below.refl _ _) h2 hb (fun k hk => by cases hk)))
    unfold OwnB; rw [e, List.map_append]; exact own_mono h1 hb
theorem one_cell (w : World) (c : UInt8) : ∀ j u, ([c].map encB)[j]? = some u → (w.alloc (.cells #[.int .u8 (c.toNat : Int)] 5)).cell? ((⟨w.heap.size, 0, none⟩ : Addr).add j) = some u := cell_one_new _ _ _

/-! ### Cuts -/
def cutq (p : Option Addr) (l m : Nat) : Option Addr := if m = l then p else p.map (·.add l)
set_option maxRecDepth 100000 in
theorem size_byte (w : World) : (sizeOf (Try.prog.elem 97)).run Try.prog w = .ok 1 w := by
  obtain ⟨i0, hi, hz0, hz1, hz2⟩ := info_parts info_byte
  rw [show Try.prog.elem 97 = 5 by kernel_rfl]
  simp [sizeOf, typeInfo, hi, hz1]
theorem sliced_cut (p : Option Addr) (l h m : Nat) : sliced p l h m 1 = .slice (cutq p l m) (h - l) (m - l) := by simp [sliced, cutq]
theorem cut_full (p : Option Addr) (n cap : Nat) (hc : n ≤ cap) (w : World) :
    (Instr.slice 97 (.slice p n cap) none (some (.int .i64 n)) (some (.int .i64 n))).run Try.prog w = .ok (.slice (cutq p 0 n) n n) w := by
  rw [run_slice_hm w _ _ _ _ (by kernel_rfl) _ _ _ _ (by omega) (by omega) (by omega), size_byte]
  show Result.ok (sliced p 0 (Int.toNat n) (Int.toNat n) 1) w = _
  rw [sliced_cut]; simp
theorem cut_from (p : Option Addr) (n cap l : Nat) (hl : l ≤ n) (w : World) :
    (Instr.slice 97 (.slice p n cap) (some (.int .i64 l)) none none).run Try.prog w = .ok (.slice (cutq p l cap) (n - l) (cap - l)) w := by
  rw [run_slice_l w _ _ _ _ (by kernel_rfl) _ _ (by omega) (by omega), size_byte]
  show Result.ok (sliced p (Int.toNat l) n cap 1) w = _
  rw [sliced_cut]; simp
theorem cut_to (p : Option Addr) (n cap h : Nat) (hh : h ≤ cap) (w : World) :
    (Instr.slice 97 (.slice p n cap) none (some (.int .i64 h)) none).run Try.prog w = .ok (.slice (cutq p 0 cap) h cap) w := by
  rw [run_slice_h w _ _ _ _ (by kernel_rfl) _ _ (by omega) (by omega), size_byte]
  show Result.ok (sliced p 0 (Int.toNat h) cap 1) w = _
  rw [sliced_cut]; simp
theorem cut_both (p : Option Addr) (n cap l h : Nat) (hl : l ≤ h) (hh : h ≤ cap) (w : World) :
    (Instr.slice 97 (.slice p n cap) (some (.int .i64 l)) (some (.int .i64 h)) none).run Try.prog w = .ok (.slice (cutq p l cap) (h - l) (cap - l)) w := by
  rw [run_slice_lh w _ _ _ _ (by kernel_rfl) _ _ _ _ (by omega) (by omega) (by omega), size_byte]
  show Result.ok (sliced p (Int.toNat l) (Int.toNat h) cap 1) w = _
  rw [sliced_cut]; simp
/-- What is cut reads as the part. -/
theorem row_cut {w : World} {p : Option Addr} {n cap : Nat} {zs : List UInt8} (h : layB.Row w (.slice p n cap) zs) (l h' m : Nat) (h1 : l ≤ h') (h2 : h' ≤ zs.length) (h3 : h' ≤ m) (h4 : m ≤ 9223372036854775807) :
    layB.Row w (.slice (cutq p l m) (h' - l) (m - l)) ((zs.take h').drop l) := by
  obtain ⟨p', cap', e, g1, g2, g3⟩ := h
  injection e with e1 e2 e3
  subst e1
  have hlen : ((zs.take h').drop l).length = h' - l := by rw [List.length_drop, List.length_take]; omega
  refine ⟨_, _, by rw [hlen], by rw [hlen]; omega, by omega, fun hz => ?_⟩
  have hpos : l < h' := by
    rcases Nat.lt_or_ge l h' with h | h
    · exact h
    · exact absurd (List.eq_nil_of_length_eq_zero (by omega)) hz
  obtain ⟨B, off, rfl, hi⟩ := g3 (by rintro rfl; simp at h2; omega)
  refine ⟨B, off + l, ?_, hi.lt, fun j hj => ?_⟩
  · unfold cutq; rw [if_neg (by omega)]; simp [Addr.add_lit]
  · rw [hlen] at hj
    have e : layB.at ((zs.take h').drop l) j = layB.at zs (l + j) := by
      rw [layB.at_get (by omega), layB.at_get (by omega)]; simp
    rw [e]
    have := hi.cell (l + j) (by omega)
    rw [show layB.pos off (l + j) = layB.pos (off + l) j by show off + (l + j) = off + l + j; omega] at this
    exact this
/-! ### A row of bytes as a text -/
set_option maxRecDepth 100000 in
theorem text_run {w : World} {p : Option Addr} {n cap : Nat} {zs : List UInt8} (h : layB.Row w (.slice p n cap) zs) : (convert 97 9 (.slice p n cap)).run Try.prog w = .ok (.string (str zs)) w := by
  obtain ⟨p', cap', e, g1, g2, g3⟩ := h
  injection e with e1 e2 e3
  subst e1 e2 e3
  by_cases hz : zs = []
  · subst hz
    rw [run_convert_bytes_string w 97 9 5 _ _ _ (by kernel_rfl) (by kernel_rfl) (by kernel_rfl)]
    cases p with
    | none => simp [Conv.bytesToString, str]; rfl
    | some ad =>
      have hl : (loadCells ad 0).run Try.prog w = .ok #[] w := by simpa using run_loadCells_list (P := Try.prog) w ad [] (by simp)
      have := run_bytesToString (P := Try.prog) w ad 0 cap [] hl
      rw [List.length_nil, this]; rfl
  · obtain ⟨B, off, rfl, hi⟩ := g3 hz
    exact run_convert_bytes_back w 97 9 5 _ cap zs (by kernel_rfl) (by kernel_rfl) (by kernel_rfl) fun j hj => by
      rw [Addr.add_lit]
      refine (hi.cell j hj).trans ?_
      rw [layB.at_get hj]

/-! ### full, Put, the document's Bytes -/
end Go.Proofs.Ytdnabghhjlhjoaa.Wir
