/- A drawn region in a round of a loop over a function, walked as if there were no round: of operations that do not defer. No function of the program here. (EK's and RUh's laws, without what they import.) -/
import Derived.Test.YtnhmjheipfopoaaQR
import Derived.Deep.RegionHeld3
import Derived.OrdersIn
namespace Go.Proofs.Ytnhmjheipfopoaa
open Go.RowKit Go.Maps

section
variable {n : Nat} {P : Program} {ops : Array Oper}
theorem upon_in (l : Nat) {o : Oper} {a : Act} {K : Act → World → Prop} {Q : Exit → Act → World → Prop} (r : Result Next) (h : o.upon P a K Q r) : o.uponIn (Fence.wide.inRound l) n P a K Q r := by
  cases r with
  | ok x w' =>
    cases x with
    | enter f args => exact ⟨fun h => (by cases h), CallsIn.inRound l (callsIn_wide.2 h)⟩
    | row row args => exact ⟨fun h => (by cases h), fun c cs _ => let ⟨v, w'', r, s⟩ := (show Rows P row args w' _ from h) c cs; ⟨v, w'', r, stepsIn_wide.2 s⟩⟩
    | round l f t a b => exact (show False from h).elim
    | _ => exact h
  | halt x w' => cases x <;> exact h
theorem oper_in (l : Nat) {o : Oper} (hd : plainOp o = true) {a : Act} {w : World} {K : Act → World → Prop} {Q : Exit → Act → World → Prop} (h : o.wp P a w K Q) : o.wpIn (Fence.wide.inRound l) n P a w K Q := by
  refine ⟨fun _ _ => trivial, ?_⟩
  rw [Fence.inRound_round, Oper.semAt_some l _ _ (plainOp_ne hd)]
  exact upon_in l _ h
theorem any_in (l : Nat) (hd : ∀ (i : Nat) o, ops[i]? = some o → plainOp o = true) {md : Region.Mode} {Q : Exit → Act → World → Prop} (hq : ¬ LetsOut Q) : ∀ (fuel : Nat) (listed : Array Bool) (a : Act) (w : World),
    wpAny P md ops Q fuel listed a w → wpAnyIn (Fence.wide.inRound l) n P md ops Q fuel listed a w
  | 0, _, _, _, h => h
  | fuel + 1, listed, a, w, h => ⟨h.1, fun i hi => by
      have h2 := h.2 i hi
      unfold wpOp at h2
      unfold wpOpIn
      cases ho : ops[i]? with
      | none => simp only [ho] at h2 ⊢; exact any_in l hd hq fuel _ _ _ h2
      | some o =>
        simp only [ho] at h2 ⊢
        split
        · rename_i hw
          simp only [hw, if_true] at h2
          rcases h2 with h2 | h2
          · exact Oper.wpIn_mono (fun a' w' h' => any_in l hd hq fuel _ a' w' h') (oper_in l (hd i o ho) h2)
          · exact absurd h2.2 hq
        · rename_i hw
          simp only [hw] at h2
          exact ⟨fun _ _ => trivial, any_in l hd hq fuel _ _ _ h2⟩⟩
theorem region_roundH {id l : Nat} {Q : Exit → Act → World → Prop} {S : World → Prop} {a : Act} {w : World} {os : List Oper} (hm : P.follows .mixedOrders = true) (hd : os.all plainOp = true) (hq : ¬ LetsOut Q)
    (h : wpAnyH P .any os.toArray Q S os.toArray.size (Array.replicate os.toArray.size false) a w.drew) : (Code.region id os.toArray true).wpIn (Fence.wide.inRound l) n P Q a w :=
  wpIn_region_any hm (any_in l (fun i o ho => by
    rw [List.getElem?_toArray] at ho
    exact List.all_eq_true.1 hd o (List.mem_of_getElem? ho)) hq _ _ _ _ (wpAny_of_held _ _ _ _ h))
end
/-- A Go call whose contract is known, as one step of a region that draws. -/
theorem step_goG {P : Program} {ops : Array Oper} {o : Oper} {a : Act} {w : World} {K : Act → World → Prop} {Q : Exit → Act → World → Prop} {X : Prop} (hw : Region.wanted o (yielded ops a.tmps) = true) (f : FuncId) (os : Array Operand) (ts : Array TypeId)
    (ho : o.op = .call { callee := .value (.func f), args := os, argTypes := ts }) {args : Array Value} (ha : os.map a.eval = args) (eg : ∀ args w, (callFunc f args).run P w = .ok (.enter f args) w)
    (hc : Calls P f args w fun e w' => ∃ v, e = .returned v ∧ K (a.put o.dst v) w') : if Region.wanted o (yielded ops a.tmps) = true then Oper.wp P o a w K Q else X := by
  rw [if_pos hw]
  unfold Oper.wp
  have he : (execOp a.eval o).run P w = .ok (.enter f args) w := by
    simp [execOp, ho, resolve, invoke, ha, eg, Act.eval, go_sem]
  rw [he, Oper.upon_enter]
  refine hc.mono ?_
  rintro e w' ⟨v, rfl, hk⟩
  exact hk
end Go.Proofs.Ytnhmjheipfopoaa
