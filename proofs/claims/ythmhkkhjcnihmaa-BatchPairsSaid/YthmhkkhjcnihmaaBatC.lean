/- What a search with a predicate gives over a list of commands; and by it the program's Check, Touches and Conflict (layer 7, batch). Conditions: the list lies in memory as its cells say; numbers' words of 64 bits. -/
import Derived.Test.YthmhkkhjcnihmaaBatB
namespace Go.Proofs.Ythmhkkhjcnihmaa.Bat
open Go.RowKit Cmd
set_option linter.unusedVariables false

/-- What is asked of a predicate: of each command of the list, in whatever world in which all that lay lies. -/
def PredOn (g : Nat) (lb : Array Value) (p : Cmdn → Bool) (zs : List Cmdn) (w : World) : Prop :=
  ∀ (W : World) (x : Cmdn), x ∈ zs → Below w.heap.size w W → Calls Try.prog g (#[cval x] ++ lb) W (RetBelow (.bool (p x)) W)
theorem callAt {g : Nat} {lb : Array Value} {p : Cmdn → Bool} {zs : List Cmdn} {w : World} (h : PredOn g lb p zs w) {W : World} {c : Int} {s : List UInt8} {f : Nat} (hx : (c, s, f) ∈ zs) (hb : Below w.heap.size w W) :
    Calls Try.prog g (#[.agg #[.int .i64 c, .string (str s), .float .f64 f]] ++ lb) W (RetBelow (.bool (p (c, s, f))) W) := h W (c, s, f) hx hb
def GivesIdx (b : Bool) (w : World) (e : Ending) (w' : World) : Prop := ∃ r : Int, e = .returned (.int .i64 r) ∧ decide (0 ≤ r) = b ∧ Below w.heap.size w w'

/-- The functions that are handed over. -/
def OneOf (g : Nat) : Prop := g = 22 ∨ g = 27 ∨ g = 31 ∨ g = 32

set_option maxHeartbeats 4000000 in
theorem index_any (v : Value) (zs : List Cmdn) (g : Nat) (lb : Array Value) (p : Cmdn → Bool) (w : World) (h : layC.Row w v zs) (hg : OneOf g) (hp : PredOn g lb p zs w) :
    Calls Try.prog 37 #[v, .func (.func g) #[] lb] w (GivesIdx (zs.any p) w) := by
  obtain ⟨a, cap, rfl, h1, hd⟩ := h.parts
  obtain ⟨n, hn⟩ : ∃ n, n = zs.length := ⟨_, rfl⟩
  rw [← hn] at h1 hd ⊢
  have HZ := Lib.hid hn
  clear h hn
  have HT : Hid (∀ j, j < n → p (layC.at zs j) = true → zs.any p = true) := Lib.hid fun j hj h => List.any_eq_true.2 ⟨_, layC.at_mem (by rw [← HZ.out]; exact hj), h⟩
  have HF : Hid ((∀ j, j < n → p (layC.at zs j) = false) → zs.any p = false) := Lib.hid fun h => by
    rw [List.any_eq_false]
    intro x hx
    obtain ⟨j, hj, rfl⟩ := (Lay.mem (L := layC)).1 hx
    rw [h j (by rw [HZ.out]; exact hj)]; decide
  have HP := Lib.hid hp
  generalize zs.any p = r at HT HF
  clear hp
  rcases hg with rfl | rfl | rfl | rfl
  all_goals
    go_enter Try.func37, Try.ntmps37
    go_wp2
    go_loopw [8] (fun i wr => ∃ k : Nat, k ≤ n ∧ i = .int .i64 k ∧ Hid (Below w.heap.size w wr) ∧ Hid (∀ j, j < k → p (layC.at zs j) = false)) (fun i _ => n - (intOf i).toNat)
    case atStart => exact ⟨0, Nat.zero_le _, rfl, Lib.hid (Below.refl _ _), Lib.hid fun j hj => absurd hj (Nat.not_lt_zero _)⟩
    case round =>
      obtain ⟨k, hk, rfl, hbw, hno⟩ := hrel
      by_cases hkn : k < n
      · obtain ⟨B, off, rfl, HC⟩ := hd.resolve_left (by omega)
        obtain ⟨c, s, f, hx⟩ : ∃ c s f, layC.at zs k = (c, s, f) := ⟨_, _, _, rfl⟩
        obtain ⟨c0, c1, c2⟩ := cellC (HC.out.on hbw.out) (by rw [← HZ.out]; exact hkn) hx
        have hcall := callAt HP.out (W := wr) (c := c) (s := s) (f := f) (by rw [← hx]; exact layC.at_mem (by rw [← HZ.out]; exact hkn)) hbw.out
        have HX := Lib.hid hx
        have k0 : (0 : Int) ≤ k := by omega
        have kn : (k : Int) < n := by omega
        clear hx hd
        cases hq : p (c, s, f) with
        | true =>
          rw [hq] at hcall
          have HR : Hid (r = true) := Lib.hid (HT.out k hkn (by rw [HX.out]; exact hq))
          have HQ := Lib.hid hcall
          clear hq hcall
          go_wp2_with (first
            | (go_at_call 22; (with_reducible refine HQ.out.mono ?_); rintro e w1 ⟨rfl, hb⟩; have HB := Lib.hid hb; clear hb)
            | (go_at_call 27; (with_reducible refine HQ.out.mono ?_); rintro e w1 ⟨rfl, hb⟩; have HB := Lib.hid hb; clear hb)
            | (go_at_call 31; (with_reducible refine HQ.out.mono ?_); rintro e w1 ⟨rfl, hb⟩; have HB := Lib.hid hb; clear hb)
            | (go_at_call 32; (with_reducible refine HQ.out.mono ?_); rintro e w1 ⟨rfl, hb⟩; have HB := Lib.hid hb; clear hb))
          go_ret
          exact ⟨_, rfl, by rw [HR.out]; exact decide_eq_true k0, hbw.out.trans (HB.out.mono hbw.out.size)⟩
        | false =>
          rw [hq] at hcall
          have HR : Hid (p (layC.at zs k) = false) := Lib.hid (by rw [HX.out]; exact hq)
          have HQ := Lib.hid hcall
          clear hq hcall
          go_wp2_with (first
            | (go_at_call 22; (with_reducible refine HQ.out.mono ?_); rintro e w1 ⟨rfl, hb⟩; have HB := Lib.hid hb; clear hb)
            | (go_at_call 27; (with_reducible refine HQ.out.mono ?_); rintro e w1 ⟨rfl, hb⟩; have HB := Lib.hid hb; clear hb)
            | (go_at_call 31; (with_reducible refine HQ.out.mono ?_); rintro e w1 ⟨rfl, hb⟩; have HB := Lib.hid hb; clear hb)
            | (go_at_call 32; (with_reducible refine HQ.out.mono ?_); rintro e w1 ⟨rfl, hb⟩; have HB := Lib.hid hb; clear hb))
          go_roundw
          case rel => exact ⟨k + 1, by omega, by go_num, Lib.hid (hbw.out.trans (HB.out.mono hbw.out.size)), Lib.hid fun j hj => by
            by_cases e : j = k
            · rw [e]; exact HR.out
            · exact hno.out j (by omega)⟩
          case measure => simp [intOf]; omega
      · have kn : ¬ (k : Int) < n := by omega
        obtain rfl : k = n := by omega
        clear hd
        go_wp2
        go_ret
        exact ⟨_, rfl, by rw [HF.out hno.out]; decide, hbw.out⟩

theorem contains_any (v : Value) (zs : List Cmdn) (g : Nat) (lb : Array Value) (p : Cmdn → Bool) (w : World) (h : layC.Row w v zs) (hg : OneOf g) (hp : PredOn g lb p zs w) :
    Calls Try.prog 21 #[v, .func (.func g) #[] lb] w (RetBelow (.bool (zs.any p)) w) := by
  have HI := Lib.hid (index_any v zs g lb p w h hg hp)
  generalize zs.any p = r at HI
  clear h hp hg
  go_enter Try.func21, Try.ntmps21
  go_wp2_with (go_at_call 37; (with_reducible refine HI.out.mono ?_); rintro e w1 ⟨x, rfl, hx, hb⟩; have HX := Lib.hid hx; have HB := Lib.hid hb; clear hx hb)
  go_ret
  exact ⟨ret_bool HX.out, HB.out⟩

/-! ### Check -/
theorem checkfn (c : Int) (s : List UInt8) (f : Nat) (w : World) (hf : f < 18446744073709551616) : Calls Try.prog 22 #[.agg #[.int .i64 c, .string (str s), .float .f64 f]] w (RetBelow (.bool (!cRight c s f)) w) := by
  have HB := Lib.hid (Boxed.start w c s f)
  have HC := Lib.hid (fun w => check_any c s f w hf)
  clear hf
  rcases err_cases c s f with ⟨h1, h2⟩ | ⟨h1, h2⟩
  all_goals
    rw [h1]; rw [h2] at HC; clear h1 h2
    go_enter Try.func22, Try.ntmps22
    go_wp2_with (first
      | (go_at_call 23; (with_reducible refine (HC.out _).mono ?_); rintro e w1 ⟨rfl, hb⟩; have HB1 := Lib.hid (HB.out.on hb); clear hb))
    go_ret
    exact ⟨rfl, HB1.out.below⟩

def bErr (zs : List Cmdn) : Int := if 8 < zs.length then 5 else if (zs.any fun x => !right x) = true then 12 else 0
theorem bcheck_any (v : Value) (zs : List Cmdn) (w : World) (h : layC.Row w v zs) (hw : ∀ x ∈ zs, wfC x) : Calls Try.prog 6 #[v] w (RetBelow (.int .i64 (bErr zs)) w) := by
  have HC : Hid (Calls Try.prog 21 #[v, .func (.func 22) #[] #[]] w (RetBelow (.bool (zs.any fun x => !right x)) w)) :=
    Lib.hid (contains_any v zs _ #[] (fun x => !right x) w h (.inl rfl) fun W x hx hb => checkfn x.1 x.2.1 x.2.2 W (hw x hx).1)
  have HE : Hid (bErr zs = if 8 < zs.length then 5 else if (zs.any fun x => !right x) = true then 12 else 0) := Lib.hid rfl
  obtain ⟨p, cap, rfl, h1, -⟩ := h.parts
  generalize (zs.any fun x => !right x) = r at HC HE
  obtain ⟨n, hn⟩ : ∃ n, n = zs.length := ⟨_, rfl⟩
  rw [← hn] at h1 HC HE ⊢
  clear h hw hn
  by_cases h8 : 8 < n
  · have h2 : 8 < (n : Int) := by omega
    rw [if_pos h8] at HE
    clear h8
    go_enter Try.func6, Try.ntmps6
    go_wp2
    go_ret
    exact ⟨ret_int HE.out.symm, Below.refl _ _⟩
  · have h2 : ¬ 8 < (n : Int) := by omega
    rw [if_neg h8] at HE
    clear h8
    cases r
    all_goals
      go_enter Try.func6, Try.ntmps6
      go_wp2_with (first
        | (go_at_call 21; (with_reducible refine HC.out.mono ?_); rintro e w1 ⟨rfl, hb⟩; have HB := Lib.hid hb; clear hb))
      go_ret
      exact ⟨ret_int HE.out.symm, HB.out⟩

/-! ### Touches -/
theorem touchfn (c : Int) (t s : List UInt8) (f : Nat) (g : Nat) (w : World) (hg : g < w.heap.size) (hc : w.cell? ⟨g, 0, none⟩ = some (.string (str s))) : Calls Try.prog 27 #[.agg #[.int .i64 c, .string (str t), .float .f64 f], .pointer (some ⟨g, 0, none⟩)] w (RetBelow (.bool (decide (t = s))) w) := by
  have HB := Lib.hid (Boxed.start w c t f)
  have he := str_dec t s
  have hne : g ≠ w.heap.size := by omega
  generalize decide (t = s) = r at he
  go_enter Try.func27, Try.ntmps27
  go_wp2
  go_ret
  exact ⟨rfl, HB.out.below⟩
def keys (zs : List Cmdn) : List (List UInt8) := zs.map fun x => x.2.1
theorem touches_any (v : Value) (zs : List Cmdn) (s : List UInt8) (w : World) (h : layC.Row w v zs) : Calls Try.prog 14 #[v, .string (str s)] w (RetBelow (.bool (decide (s ∈ keys zs))) w) := by
  have hb0 := below_one w (.cells #[.string (str s)] 9)
  have hc0 : (w.alloc (.cells #[.string (str s)] 9)).cell? ⟨w.heap.size, 0, none⟩ = some (.string (str s)) := by rw [World.cell?_alloc_mark]; rfl
  have hs0 : w.heap.size < (w.alloc (.cells #[.string (str s)] 9)).heap.size := by simp
  have HC : Hid (Calls Try.prog 21 #[v, .func (.func 27) #[] #[.pointer (some ⟨w.heap.size, 0, none⟩)]] (w.alloc (.cells #[.string (str s)] 9)) (RetBelow (.bool (zs.any fun x => decide (x.2.1 = s))) (w.alloc (.cells #[.string (str s)] 9)))) :=
    Lib.hid (contains_any v zs _ _ (fun x => decide (x.2.1 = s)) _ (h.on hb0) (.inr (.inl rfl)) fun W x hx hb => touchfn x.1 x.2.1 s x.2.2 w.heap.size W (Nat.lt_of_lt_of_le hs0 hb.size) ((hb.cell (p := ⟨w.heap.size, 0, none⟩) hs0).trans hc0))
  have HE : Hid ((zs.any fun x => decide (x.2.1 = s)) = decide (s ∈ keys zs)) := Lib.hid (by
    unfold keys
    rw [Bool.eq_iff_iff, List.any_eq_true, decide_eq_true_eq, List.mem_map]
    exact ⟨fun ⟨x, h1, h2⟩ => ⟨x, h1, of_decide_eq_true h2⟩, fun ⟨x, h1, h2⟩ => ⟨x, h1, decide_eq_true h2⟩⟩)
  rw [HE.out] at HC
  generalize decide (s ∈ keys zs) = r at HC
  have HB0 := Lib.hid hb0
  clear HE hb0 hc0 hs0 h
  go_enter Try.func14, Try.ntmps14
  go_wp2_with (first
    | (go_at_call 21; (with_reducible refine HC.out.mono ?_); rintro e w1 ⟨rfl, hb⟩; have HB := Lib.hid hb; clear hb))
  go_ret
  exact ⟨rfl, HB0.out.trans (HB.out.mono HB0.out.size)⟩

/-! ### Conflict -/
theorem conffn2 (c : Int) (s : List UInt8) (f : Nat) (c' : Int) (s' : List UInt8) (f' : Nat) (g : Nat) (a w : World) (hx : Boxed a g c s f w) (hf : f < 18446744073709551616) (hf' : f' < 18446744073709551616) :
    Calls Try.prog 32 #[.agg #[.int .i64 c', .string (str s'), .float .f64 f'], .pointer (some ⟨g, 0, none⟩)] w (RetBelow (.bool (cConf c s f c' s' f')) w) := by
  have HB := Lib.hid (Boxed.start w c' s' f')
  have HC := Lib.hid (fun w => conf_any c s f c' s' f' w hf hf')
  have hne : g ≠ w.heap.size := by have := hx.lt; omega
  have c0 := hx.c0
  have c1 := hx.c1
  have c2 := hx.c2
  have hlt := hx.lt
  generalize cConf c s f c' s' f' = r at HC
  clear hx hf hf'
  go_enter Try.func32, Try.ntmps32
  go_wp2_with (first
    | (go_at_call 33; (with_reducible refine (HC.out _).mono ?_); rintro e w1 ⟨rfl, hb⟩; have HB1 := Lib.hid (HB.out.on hb); clear hb))
  go_ret
  exact ⟨rfl, HB1.out.below⟩
theorem conffn (c : Int) (s : List UInt8) (f : Nat) (v : Value) (ys : List Cmdn) (g : Nat) (w : World) (hg : g < w.heap.size) (hc : w.cell? ⟨g, 0, none⟩ = some v) (h : layC.Row w v ys) (hf : f < 18446744073709551616) (hw : ∀ x ∈ ys, wfC x) :
    Calls Try.prog 31 #[.agg #[.int .i64 c, .string (str s), .float .f64 f], .pointer (some ⟨g, 0, none⟩)] w (RetBelow (.bool (ys.any (conf (c, s, f)))) w) := by
  have hbx := Boxed.start w c s f
  have HC : Hid (Calls Try.prog 21 #[v, .func (.func 32) #[] #[.pointer (some ⟨w.heap.size, 0, none⟩)]] (w.alloc (.cells #[.int .i64 c, .string (str s), .float .f64 f] 38)) (RetBelow (.bool (ys.any (conf (c, s, f)))) (w.alloc (.cells #[.int .i64 c, .string (str s), .float .f64 f] 38)))) :=
    Lib.hid (contains_any v ys _ _ (conf (c, s, f)) _ (h.on hbx.below) (.inr (.inr (.inr rfl))) fun W x hx hb => conffn2 c s f x.1 x.2.1 x.2.2 w.heap.size w W (hbx.on hb) hf (hw x hx).1)
  have HB := Lib.hid hbx
  have hv : ∃ p n cap, v = .slice p n cap := by obtain ⟨p, cap, e, _⟩ := h; exact ⟨p, _, cap, e⟩
  obtain ⟨p, n, cap, rfl⟩ := hv
  have hne : g ≠ w.heap.size := by omega
  generalize ys.any (conf (c, s, f)) = r at HC
  clear h hf hw hbx
  go_enter Try.func31, Try.ntmps31
  go_wp2_with (first
    | (go_at_call 21; (with_reducible refine HC.out.mono ?_); rintro e w1 ⟨rfl, hb⟩; have HB1 := Lib.hid (HB.out.on hb); clear hb))
  go_ret
  exact ⟨rfl, HB1.out.below⟩
def bConf (xs ys : List Cmdn) : Bool := xs.any fun x => ys.any (conf x)
theorem bconf_any (v u : Value) (xs ys : List Cmdn) (w : World) (h : layC.Row w v xs) (k : layC.Row w u ys) (hx : ∀ x ∈ xs, wfC x) (hy : ∀ x ∈ ys, wfC x) : Calls Try.prog 18 #[v, u] w (RetBelow (.bool (bConf xs ys)) w) := by
  have hv : ∃ p n cap, u = .slice p n cap := by obtain ⟨p, cap, e, _⟩ := k; exact ⟨p, _, cap, e⟩
  obtain ⟨p, n, cap, rfl⟩ := hv
  have hb0 := below_one w (.cells #[.slice p n cap] 22)
  have hc0 : (w.alloc (.cells #[.slice p n cap] 22)).cell? ⟨w.heap.size, 0, none⟩ = some (.slice p n cap) := by rw [World.cell?_alloc_mark]; rfl
  have hs0 : w.heap.size < (w.alloc (.cells #[.slice p n cap] 22)).heap.size := by simp
  have HC : Hid (Calls Try.prog 21 #[v, .func (.func 31) #[] #[.pointer (some ⟨w.heap.size, 0, none⟩)]] (w.alloc (.cells #[.slice p n cap] 22)) (RetBelow (.bool (bConf xs ys)) (w.alloc (.cells #[.slice p n cap] 22)))) :=
    Lib.hid (contains_any v xs _ _ (fun x => ys.any (conf x)) _ (h.on hb0) (.inr (.inr (.inl rfl))) fun W x hxm hb => conffn x.1 x.2.1 x.2.2 _ ys w.heap.size W (Nat.lt_of_lt_of_le hs0 hb.size) ((hb.cell (p := ⟨w.heap.size, 0, none⟩) hs0).trans hc0) ((k.on hb0).on hb) (hx x hxm).1 hy)
  have HB0 := Lib.hid hb0
  generalize bConf xs ys = r at HC
  clear hb0 hc0 hs0 h k hx hy
  go_enter Try.func18, Try.ntmps18
  go_wp2_with (first
    | (go_at_call 21; (with_reducible refine HC.out.mono ?_); rintro e w1 ⟨rfl, hb⟩; have HB := Lib.hid hb; clear hb))
  go_ret
  exact ⟨rfl, HB0.out.trans (HB.out.mono HB0.out.size)⟩
end Go.Proofs.Ythmhkkhjcnihmaa.Bat
