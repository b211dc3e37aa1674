/- The way of a rule: Way. -/
import Derived.Test.YtpnjmldbohecdaaEV
import Derived.Test.YtpnjmldbohecdaaET
namespace Go.Proofs.Ytpnjmldbohecdaa
open Go.RowKit Go.Maps Go.Shelf

/-- What Way tells. -/
def wayOk (ls : List Li) : Bool := allIn (bindP ls) (placesB 0 ls)
def wayL (ls : List Li) : List Int := if wayOk ls = true then (takeN (bindP ls) ls ls.length).1 else []
def WayR (w : World) (ls : List Li) (e : Ending) (w' : World) : Prop := ∃ a c, e = .returned (.tuple #[.slice a (wayL ls).length c, .bool (wayOk ls)]) ∧ OwnR 3 1 encI w.heap.size w' (.slice a (wayL ls).length c) (wayL ls) ∧ Stay w w'
theorem bind_range {ls : List Li} (hn : ls.length ≤ 1048576) : ∀ p ∈ bindP ls, 0 ≤ p.1 ∧ p.1 < 1048576 := fun p hp => by
  obtain ⟨j, hj, h1, -⟩ := placesB_mem 0 ls p (sel_mem hp)
  rw [h1]
  omega

set_option maxRecDepth 100000 in
theorem way_any (x : Ru) (w : World) (h : x.fit w) : Calls Try.prog 7 #[x.v] w (WayR w x.body) := by
  obtain ⟨w0, hw0⟩ : ∃ w0, w0 = w.alloc (.cells #[.string x.head.pred, .slice x.head.a x.head.ts.length x.head.cap, .slice x.a x.body.length x.cap] 27) := ⟨_, rfl⟩
  have s0 : Stay w w0 := by rw [hw0]; exact Stay.new _ _
  have HC : Hid (∀ W, Stay w0 W → W.cell? ⟨w.heap.size, 2, none⟩ = some (.slice x.a x.body.length x.cap)) := fun W hW => by
    subst hw0
    exact hW.cell (by simp)
  have e2 := HC.out w0 (Stay.refl _)
  rw [hw0] at e2
  have h0 := h.stay s0
  have hb := bindersOf_ok x w0 h0.ins h0.small h0.reads h0.shorts
  have hall := fun W (hW : Stay w0 W) bm (hB : BndM W bm (bindP x.body)) => all_any x.body x.a x.b x.off x.cap W (h0.ins.2.stay hW) (bodySmall h0.small) (bodyReads (h0.stay hW).reads) (placesB_short h0.shorts.2) bm _ hB
  have htk := fun W (hW : Stay w0 W) bm (hB : BndM W bm (bindP x.body)) => take_any x.body x.a x.b x.off x.cap W (h0.ins.2.stay hW) (fun l hl => (h0.stay hW).lit hl) h0.small.2.1 bm _ hB (bind_range h0.small.2.1)
  obtain ⟨R, hR⟩ : ∃ R, R = WayR w x.body := ⟨_, rfl⟩
  rw [← hR]
  have HR : Hid (R = WayR w x.body) := hR
  have HS : Hid (Stay w w0) := s0
  unfold Bnds at hb
  clear h h0 s0 hR
  dsimp only [Ru.v, At.sl] at *
  obtain ⟨ok, hok⟩ : ∃ ok, ok = allIn (bindP x.body) (placesB 0 x.body) := ⟨_, rfl⟩
  have HO : Hid (wayOk x.body = ok) := by show _ = _; rw [hok]; rfl
  rw [← hok] at hall
  clear hok
  go_enter Try.func7, Try.ntmps7
  go_wp2_with fail
  rw [← hw0]
  refine hb.mono ?_
  rintro e w1 ⟨bm, rfl, hbm, -, s1⟩
  have e3 := HC.out w1 s1
  have hal1 := hall w1 s1 bm hbm
  have HB : Hid (BndM w1 bm (bindP x.body) ∧ Stay w0 w1) := ⟨hbm, s1⟩
  clear hb hall e2 hw0 hbm s1
  go_wp2_with fail
  refine hal1.mono ?_
  rintro e w2 ⟨rfl, s2⟩
  have S2 : Hid (Stay w0 w2) := HB.out.2.trans s2
  cases ok
  · clear hal1 htk
    go_wp2
    rw [HR.out]
    have hw : wayL x.body = [] := by unfold wayL; rw [HO.out]; rfl
    refine ⟨none, 0, ?_, ?_, HS.out.trans S2.out⟩
    · rw [hw, HO.out]; rfl
    · rw [hw]; exact OwnR.nil
  · have ht2 := htk w2 S2.out bm (HB.out.1.stay s2)
    have e4 := HC.out w2 S2.out
    clear hal1 htk
    go_wp2_with (go_at_call 27; refine ht2.mono ?_; rintro e w3 ⟨a3, c3, rfl, hO3, s3⟩)
    rw [HR.out]
    have hw : wayL x.body = (takeN (bindP x.body) x.body x.body.length).1 := by unfold wayL; rw [HO.out]; rfl
    have sw := HS.out.trans S2.out
    refine ⟨a3, c3, ?_, ?_, sw.trans s3⟩
    · rw [hw, HO.out]; rfl
    · rw [hw]; exact hO3.base sw.size
end Go.Proofs.Ytpnjmldbohecdaa
