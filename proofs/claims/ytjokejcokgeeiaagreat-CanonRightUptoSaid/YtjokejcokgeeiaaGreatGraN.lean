/- What the developers' calls of layer 15 (edges) give, all of them: a graph as it lies in memory is one that the statement's walk may go by. Conditions: those in each statement. -/
import Derived.Test.YtjokejcokgeeiaaGreatGrbA
import Derived.Test.YtjokejcokgeeiaaGreatIdF
namespace Go.Proofs.YtjokejcokgeeiaaGreat.Gra
open Go.RowKit Cmd Bat Ids Rec Wid Mpg Itr Go.Maps
set_option linter.unusedVariables false
set_option linter.unusedSimpArgs false

set_option maxRecDepth 100000 in
theorem miss_nil (v : Value) (W : World) (SO : SortIs) (CH : HeldIs v none none W) : Calls Tryz.prog 80 #[v] W (GivesRow [] W) := by
  have C1 := Lib.hid (CH W (Below.refl _ _))
  have hrg := fun W => run_range_nilMap (P := Tryz.prog) W 52 43 38 Tryz.underlying52
  have hnx : ∀ (W : World) ty, (Instr.next (.pointer (some ⟨W.heap.size, 0, none⟩)) false ty).run Tryz.prog (W.alloc (.mapIter none 0 #[] 0)) = _ := fun W ty => run_next_nilMap W ty 0 0 #[]
  have HSO := Lib.hid (fun w => SO (.slice none 0 0) [] w ⟨none, 0, rfl, Nat.le_refl _, by omega, fun _ => rfl, fun h => absurd rfl h⟩ (by simp))
  clear CH SO
  go_enter Tryz.func80, Tryz.ntmps80
  go_wp2_with (go_at_call 86; (with_reducible refine C1.out.mono ?_); rintro E w1 ⟨rfl, hb⟩; have B1 := Lib.hid (hb.trans ((Cmd.below_one w1 (.cells #[.map none, .map none] 54)).mono hb.size)); have c1 := cell_row (i := 1) (heap_alloc_new w1 (.cells #[.map none, .map none] 54)) rfl; have hnw := hnx (w1.alloc (.cells #[.map none, .map none] 54)); rw [World.size_alloc] at hnw; clear hb)
  refine wp_loop_rounds 1 ?_
  rw [rounds_succ]
  have B2 := Lib.hid (B1.out.trans ((Cmd.below_one (w1.alloc (.cells #[.map none, .map none] 54)) (.mapIter none 0 #[] 0)).mono B1.out.size))
  go_wp2_with (go_at_call 74; refine (HSO.out _).mono ?_; rintro E w3 ⟨u, rfl, hr, hb⟩; have R3 := Lib.hid hr; have B3 := Lib.hid hb; clear hr hb)
  go_ret
  exact ⟨_, rfl, R3.out, B2.out.trans (B3.out.mono B2.out.size)⟩
theorem GrM.held {g : Nat} {rs : List Rcd} {W : World} {mr mu : Nat} {f h : Idn → Option Value} (G : GrM g rs W mr mu f h) : HeldIs (gptr g) (some mr) (some mu) W := fun W' hb => held_any g mr mu W' (keeps_below hb _ _ _ G.blk)
theorem nil_look_ok (a b : Int) (W : World) : (Instr.lookup 49 (.map none) (.agg #[.int .i64 a, .int .i64 b]) true).run Tryz.prog W = .ok (.tuple #[zeroRec, .bool false]) W := by kernel_rfl
theorem nil_look (a b : Int) (W : World) : (Instr.lookup 52 (.map none) (.agg #[.int .i64 a, .int .i64 b]) false).run Tryz.prog W = .ok (.slice none 0 0) W := by kernel_rfl
theorem rowI_nil (W : World) : RowAt W (.slice none 0 0) [] := ⟨none, 0, rfl, Nat.le_refl _, by omega, fun _ => rfl, fun h => absurd rfl h⟩
theorem graphs : Graphs GrP where
  on := GrP.on
  le := fun G => G.1
  lot := fun G => by obtain ⟨mr, mu, f, h, G⟩ := G.at; exact ⟨G.lot, G.err⟩
  new := fun v rs w hr L => new_run (link_any sorted_any) v rs w hr L
  len := fun {N g rs W} G => by
    obtain ⟨mr, mu, f, h, G⟩ := G.at
    refine len_run (gptr g) (some mr) (some mu) rs.length W G.held fun W' hb => ?_
    have := (G.rm.on hb).len Tryz.underlying49 3 (gerr_nodup G.err) (fun x => (G.rf.has x).symm)
    rwa [idsG_len] at this
  ids := fun {N g rs W} G => by
    obtain ⟨mr, mu, f, h, G⟩ := G.at
    exact gids_run (gptr g) (some mr) (some mu) (gIds rs) W G.held fun W' hb => ids_run (some mr) (gIds rs) W' sorted_any (coll_some W' mr 1000 rs f (G.rm.on hb) (by omega) (G.rf.keep (keeps_below hb)) G.lot.few (gerr_nodup G.err))
  recY := fun {N g rs W} G a b hw x hx e => by
    obtain ⟨mr, mu, f, h, G⟩ := G.at
    obtain ⟨⟨a', b'⟩, q, ds, cs⟩ := x
    have e : (a', b') = (a, b) := e
    cases e
    obtain ⟨v, hf, R⟩ := G.rf.val _ hx
    have hlow := G.lot.low _ hx
    have hwf := G.lot.wf _ hx
    refine rec_yes (gptr g) (some mr) (some mu) a b q ds cs hlow.1 hlow.2 W G.held fun W' hb => ?_
    obtain ⟨P, Q, hv, h1, h2⟩ := R.keep (keeps_below hb)
    refine get_yes W' 0 a b q mr P Q ds cs hlow.1 hlow.2 hwf.batch h1 h2 fun W2 hb2 => ?_
    have := (G.rm.on (hb.trans (hb2.mono hb.size))).look_ok Tryz.underlying49 zero_rec (x := (a, b)) hw
    rw [hf, hv] at this
    exact this
  recN := fun {N g rs W} G a b hw hn => by
    obtain ⟨mr, mu, f, h, G⟩ := G.at
    have hf : f (a, b) = none := by
      cases hf : f (a, b) with
      | none => rfl
      | some v => exact absurd ((G.rf.has _).1 (by rw [hf]; rfl)) hn
    refine rec_no (gptr g) (some mr) (some mu) a b W G.held fun W' hb => get_no W' (some mr) a b fun W2 hb2 => ?_
    have := (G.rm.on (hb.trans (hb2.mono hb.size))).look_ok Tryz.underlying49 zero_rec (x := (a, b)) hw
    rw [hf] at this
    exact this
  miss := fun {N g rs W} G => by
    obtain ⟨mr, mu, f, h, G⟩ := G.at
    exact miss_any (gptr g) mr mu rs f h W 1000 16000 sorted_any G.held G.rm G.rf G.um (fun x => G.uf.has x) (fun x hx => by
      obtain ⟨r, hr, hm⟩ := List.mem_flatMap.1 hx
      exact (G.lot.wf r hr).deps x hm) (by omega)
  users := fun {N g rs W} G a b hw => by
    obtain ⟨mr, mu, f, h, G⟩ := G.at
    have hl : (gUsers rs (a, b)).length ≤ 100000 := by
      have h1 := srt_length (usersL rs (a, b))
      have h2 := usersL_len rs (a, b)
      have h3 := G.lot.few
      unfold gUsers; omega
    refine users_run (gptr g) (some mr) (some mu) a b ((h (a, b)).getD (.slice none 0 0)) (gUsers rs (a, b)) hl W G.held ?_ fun W' hb => (G.um.on hb).look Tryz.underlying52 zero_ids (x := (a, b)) hw
    cases hh : h (a, b) with
    | none => rw [G.uf.no _ hh]; exact rowI_nil W
    | some v => exact (G.uf.yes _ v hh).1.row
  usersO := fun {N g rs W} G a b hw => by
    obtain ⟨mr, mu, f, h, G⟩ := G.at
    have hl : (gUsers rs (a, b)).length ≤ 100000 := by
      have h1 := srt_length (usersL rs (a, b))
      have h2 := usersL_len rs (a, b)
      have h3 := G.lot.few
      unfold gUsers; omega
    refine users_own (gptr g) (some mr) (some mu) a b ((h (a, b)).getD (.slice none 0 0)) (gUsers rs (a, b)) hl W G.held ?_ fun W' hb => (G.um.on hb).look Tryz.underlying52 zero_ids (x := (a, b)) hw
    cases hh : h (a, b) with
    | none => rw [G.uf.no _ hh]; exact rowI_nil W
    | some v => exact (G.uf.yes _ v hh).1.row
  nlen := fun W => len_run (.pointer none) none none 0 W (fun W' _ => held_nil W') fun W' _ => Maps.len_nil Tryz.underlying49 3
  nids := fun W => gids_run (.pointer none) none none [] W (fun W' _ => held_nil W') fun W' _ => ids_run none [] W' sorted_any (coll_nil W')
  nrec := fun W a b => rec_no (.pointer none) none none a b W (fun W' _ => held_nil W') fun W' _ => get_no W' none a b fun W2 _ => nil_look_ok a b W2
  nmiss := fun W => miss_nil (.pointer none) W sorted_any (fun W' _ => held_nil W')
  nusers := fun W a b => users_run (.pointer none) none none a b (.slice none 0 0) [] (by simp) W (fun W' _ => held_nil W') (rowI_nil W) fun W' _ => nil_look a b W'
  nusersO := fun W a b => users_own (.pointer none) none none a b (.slice none 0 0) [] (by simp) W (fun W' _ => held_nil W') (rowI_nil W) fun W' _ => nil_look a b W'
end Go.Proofs.YtjokejcokgeeiaaGreat.Gra
