/- What the developers' calls of layer 15 (edges) give, all of them: a graph as it lies in memory is one that the statement's walk may go by. Conditions: those in each statement. -/
import Derived.Test.YtomidcbpnaajeaaGreatGrbA
import Derived.Test.YtomidcbpnaajeaaGreatIdF
namespace Go.Proofs.YtomidcbpnaajeaaGreat.Gra
open Go.RowKit Cmd Bat Ids Rec Wid Mpg Itr Go.Maps
set_option linter.unusedVariables false
set_option linter.unusedSimpArgs false

theorem GrM.held {g : Nat} {rs : List Rcd} {W : World} {mr mu : Nat} {f h : Idn → Option Value} (G : GrM g rs W mr mu f h) : HeldIs (gptr g) (some mr) (some mu) W := fun W' hb => held_any g mr mu W' (keeps_below hb _ _ _ G.blk)
theorem nil_look_ok (a b : Int) (W : World) : (Instr.lookup 56 (.map none) (.agg #[.int .i64 a, .int .i64 b]) true).run Tryz.prog W = .ok (.tuple #[zeroRec, .bool false]) W := by kernel_rfl
theorem nil_look (a b : Int) (W : World) : (Instr.lookup 59 (.map none) (.agg #[.int .i64 a, .int .i64 b]) false).run Tryz.prog W = .ok (.slice none 0 0) W := by kernel_rfl
theorem rowI_nil (W : World) : RowAt W (.slice none 0 0) [] := ⟨none, 0, rfl, Nat.le_refl _, by omega, fun _ => rfl, fun h => absurd rfl h⟩
theorem graphs : Graphs GrP where
  on := GrP.on
  le := fun G => G.1
  lot := fun G => by obtain ⟨mr, mu, f, h, G⟩ := G.at; exact ⟨G.lot, G.err⟩
  new := fun v rs w hr L => new_run (link_any sorted_any) v rs w hr L
  ids := fun {N g rs W} G => by
    obtain ⟨mr, mu, f, h, G⟩ := G.at
    exact gids_run (gptr g) (some mr) (some mu) (gIds rs) W G.held fun W' hb => ids_run (some mr) (gIds rs) W' sorted_any (coll_some W' mr 1000 rs f (G.rm.on hb) (by omega) (G.rf.keep (keeps_below hb)) G.lot.few (gerr_nodup G.err))
  recY := fun {N g rs W} G a b hw x hx e => by
    obtain ⟨mr, mu, f, h, G⟩ := G.at
    obtain ⟨⟨a', b'⟩, q, ds, cs⟩ := x
    have e : (a', b') = (a, b) := e
    cases e
    obtain ⟨v, hf, R⟩ := G.rf.val _ hx
    have hlow := G.lot.low _ hx
    have hwf := G.lot.wf _ hx
    refine rec_yes (gptr g) (some mr) (some mu) a b q ds cs hlow.1 hlow.2 W G.held fun W' hb => ?_
    obtain ⟨P, Q, hv, h1, h2⟩ := R.keep (keeps_below hb)
    refine get_yes W' 0 a b q mr P Q ds cs hlow.1 hlow.2 hwf.batch h1 h2 fun W2 hb2 => ?_
    have := (G.rm.on (hb.trans (hb2.mono hb.size))).look_ok Tryz.underlying56 zero_rec (x := (a, b)) hw
    rw [hf, hv] at this
    exact this
  recN := fun {N g rs W} G a b hw hn => by
    obtain ⟨mr, mu, f, h, G⟩ := G.at
    have hf : f (a, b) = none := by
      cases hf : f (a, b) with
      | none => rfl
      | some v => exact absurd ((G.rf.has _).1 (by rw [hf]; rfl)) hn
    refine rec_no (gptr g) (some mr) (some mu) a b W G.held fun W' hb => get_no W' (some mr) a b fun W2 hb2 => ?_
    have := (G.rm.on (hb.trans (hb2.mono hb.size))).look_ok Tryz.underlying56 zero_rec (x := (a, b)) hw
    rw [hf] at this
    exact this
  nids := fun W => gids_run (.pointer none) none none [] W (fun W' _ => held_nil W') fun W' _ => ids_run none [] W' sorted_any (coll_nil W')
  nrec := fun W a b => rec_no (.pointer none) none none a b W (fun W' _ => held_nil W') fun W' _ => get_no W' none a b fun W2 _ => nil_look_ok a b W2
end Go.Proofs.YtomidcbpnaajeaaGreat.Gra
