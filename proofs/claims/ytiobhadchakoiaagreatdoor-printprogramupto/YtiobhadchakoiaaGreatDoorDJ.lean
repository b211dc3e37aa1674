/- Programs: written, print.Program. -/
import Derived.Test.YtiobhadchakoiaaGreatDoorDF
namespace Go.Proofs.YtiobhadchakoiaaGreatDoor
open Go.RowKit Go.Maps

set_option maxRecDepth 100000 in
set_option maxHeartbeats 2000000 in
theorem writtenP_any (x : Pr) (w : World) (hM : x.In w) (hT : Tabs w) (h1 : x.ins.length ≤ 1048576) (h2 : x.outs.length ≤ 1048576) (h3 : x.rules.length ≤ 1048576) : Calls Tryz.prog 14 #[x.v, .func (.func 15) #[] #[]] w fun e w' => e = .returned (tellT x.ok x.txt) ∧ Stay w w' := by
  have hN : Stay w (w.alloc (.cells #[.slice x.ia x.ins.length x.ic, .slice x.oa x.outs.length x.oc, .slice x.ra x.rules.length x.rc] 26)) := Stay.new w _
  have hF := fresh_bld0 (w.alloc (.cells #[.slice x.ia x.ins.length x.ic, .slice x.oa x.outs.length x.oc, .slice x.ra x.rules.length x.rc] 26))
  have hN2 : Stay (w.alloc (.cells #[.slice x.ia x.ins.length x.ic, .slice x.oa x.outs.length x.oc, .slice x.ra x.rules.length x.rc] 26)) _ := Stay.new (w.alloc (.cells #[.slice x.ia x.ins.length x.ic, .slice x.oa x.outs.length x.oc, .slice x.ra x.rules.length x.rc] 26)) (.cells #[.pointer none, .slice none 0 0] 72)
  rw [show (w.alloc (.cells #[.slice x.ia x.ins.length x.ic, .slice x.oa x.outs.length x.oc, .slice x.ra x.rules.length x.rc] 26)).heap.size = w.heap.size + 1 from by simp] at hF
  have HS : Hid (Stay w ((w.alloc (.cells #[.slice x.ia x.ins.length x.ic, .slice x.oa x.outs.length x.oc, .slice x.ra x.rules.length x.rc] 26)).alloc (.cells #[.pointer none, .slice none 0 0] 72))) := hN.trans hN2
  have hw := writeProgram_any hF x (sure_of_stay (fun _ h => Pr.stay hM h) HS.out (Nat.le_succ _)) (sure_of_stay (fun _ h => hT.stay h) HS.out (Nat.le_succ _)) (by simp; omega) (by simp)
  obtain ⟨ia, ib, io, ic, ins, oa, ob, oo, oc, outs, ra, rb, ro, rc, rules⟩ := x
  unfold Pr.v at *
  unfold tellT
  dsimp only at *
  generalize Pr.ok _ = ok at *
  generalize Pr.txt _ = txt at *
  generalize ins.length = n1 at *
  generalize outs.length = n2 at *
  generalize rules.length = n3 at *
  clear hF hN hN2 hT hM
  cases ok
  · simp only [Bool.false_eq_true, if_false]
    go_enter Tryz.func14, Tryz.ntmps14
    go_wp2_with (first
      | (go_at_call 15; refine hw.mono ?_; rintro e W1 ⟨rfl, cs, hB1, hcs, hcl, hb1⟩))
    go_ret2
    exact ⟨rfl, Below.trans HS.out (hb1.1.mono (Nat.le_succ _))⟩
  · simp only [if_true]
    go_enter Tryz.func14, Tryz.ntmps14
    go_wp2_with (first
      | (go_at_call 15; refine hw.mono ?_; rintro e W1 ⟨rfl, cs, hB1, hcs, hcl, hb1⟩; obtain rfl := hcs rfl; have w2 := Bld.strOk hB1 (Nat.le_trans (by simp) hb1.size); have HB1 : Hid (Wk _ _ _ W1) := hb1; clear hb1 hB1)
      | (go_at_call 24; refine w2.mono ?_; rintro e W2 ⟨rfl, hb2⟩))
    go_ret2
    exact ⟨by simp, Below.trans HS.out ((HB1.out.1.trans hb2).mono (Nat.le_succ _))⟩
theorem pProgram_any (x : Pr) (w : World) (hM : x.In w) (hT : Tabs w) (h1 : x.ins.length ≤ 1048576) (h2 : x.outs.length ≤ 1048576) (h3 : x.rules.length ≤ 1048576) : Calls Tryz.prog 6 #[x.v] w fun e w' => e = .returned (tellT x.ok x.txt) ∧ Stay w w' := by
  have hN : Stay w (w.alloc (.cells #[.slice x.ia x.ins.length x.ic, .slice x.oa x.outs.length x.oc, .slice x.ra x.rules.length x.rc] 26)) := Stay.new w _
  have hw := writtenP_any x _ (Pr.stay hM hN) (hT.stay hN) h1 h2 h3
  have HS : Hid (Stay w (w.alloc (.cells #[.slice x.ia x.ins.length x.ic, .slice x.oa x.outs.length x.oc, .slice x.ra x.rules.length x.rc] 26))) := hN
  obtain ⟨ia, ib, io, ic, ins, oa, ob, oo, oc, outs, ra, rb, ro, rc, rules⟩ := x
  unfold Pr.v at *
  unfold tellT at *
  dsimp only at *
  generalize (if Pr.ok _ = true then Pr.txt _ else []).toArray = x at *
  generalize (if Pr.ok _ = true then (0 : Int) else 2) = y at *
  generalize ins.length = n1 at *
  generalize outs.length = n2 at *
  generalize rules.length = n3 at *
  clear hT hM hN
  go_enter Tryz.func6, Tryz.ntmps6
  go_wp2_with (first
    | (go_at_call 14; refine hw.mono ?_; rintro e W1 ⟨rfl, hs1⟩))
  go_ret2
  exact ⟨rfl, HS.out.trans hs1⟩
end Go.Proofs.YtiobhadchakoiaaGreatDoor
