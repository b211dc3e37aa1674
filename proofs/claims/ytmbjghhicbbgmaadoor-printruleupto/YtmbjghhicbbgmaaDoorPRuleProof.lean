/- PrintRule is true where what it reads is of bulk at most 1048576: a rule's text, and the texts of all that it is made of, are the document's, or ErrArg where the document says so; the rule stays as it was. The one list that the statement names stands as the program's text lays it (tied), no other condition. -/
import Derived.Test.YtmbjghhicbbgmaaDoorPY
import Derived.Test.YtmbjghhicbbgmaaDoorCQ
import Derived.Test.YtmbjghhicbbgmaaDoorTie
import Derived.Test.YtmbjghhicbbgmaaDoorCards
namespace Go.Proofs.YtmbjghhicbbgmaaDoor
open Go.ChangeShapes Go.WideShapes Go.ChangeAt Go.RowKit

set_option maxRecDepth 100000 in
theorem printRule_lifted (os : Os) (started : os.Started) (H : Type) (enc : TypeId × Value → H) (F : Stop.Interp) :
    ReturnsInHanded {} Tryd.checked os 3 .any ((Rows.OpenSpec.upto Rows.printRuleSpec).preRow enc Tryd.prog Tryd.f3 [] false laid2)
      (((Rows.OpenSpec.upto Rows.printRuleSpec).at F).post enc Tryd.prog Tryd.f3 false true false false) := by
  refine returnsInHanded_of_row (C := Tryd.checked) (s := Rows.OpenSpec.upto Rows.printRuleSpec) (laid := laid2) ownKnL started (by kernel_rfl) Tryd.func3
    (witness_row_shaped (enc := enc) (C := Tryd.checked) (os := os) (s := Rows.OpenSpec.upto Rows.printRuleSpec) (laid := laid2) false (World.doorLaid Tryd.prog 400 os) #[.agg #[.string ⟨#[]⟩, .slice none 0 0, .slice none 0 0]] rfl (World.shaped_of_RefB (by kernel_rfl) (by kernel_rfl)) (by kernel_rfl)
      (OpenSpec.preRow_of_cond 8 (x := ([.agg [.agg [.lit (.string []), .nil], .nil]], [], [])) (by kernel_rfl) rfl (fun k hk => by cases hk; kernel_rfl) (by kernel_rfl) (door_met os _))) ?_
  intro W base args ds gs before hval0 hW _ hk0 _ hX _ _
  have hk := hk0 Rows.uptoSmall rfl
  have hval : ∀ (j : Nat) t v, Tryd.f3.params[j]? = some t → args[j]? = some v → Value.okWide Tryd.prog W .any base t v := hval0
  have hW' := hW
  obtain ⟨p, q, hA0, hV, rfl, _, _⟩ := hW
  have hA : DataW.TrodAll enc Tryd.prog W 0 (fun _ => true) true Tryd.f3.params.toList args.toList ds p := hA0
  rw [Tryd.params3] at hA hval
  obtain ⟨v0, vs0, d0, ds0, p0, q0, hargs, rfl, rfl, h0, r0⟩ := trodAll_cons hA
  obtain ⟨rfl, rfl, rfl⟩ := trodAll_nil r0
  obtain rfl : args = #[v0] := by cases args; simp_all
  obtain ⟨rfl, rfl⟩ := trodVars_none hV
  have hv0 := hval 0 27 v0 rfl rfl
  clear hA0 hval0
  simp only [List.append_nil] at hW'
  have hlt : ∀ x ∈ p0, x.block < W.heap.size := fun x hx => by simpa using hW'.lt x (by simpa using hx)
  have h0' := h0
  obtain ⟨x, rfl, hin, hf1, hf2, hf3, hbk⟩ := open_ru hv0 h0
  have hk' : Rows.uptoBulkAll [d0] ≤ 1048576 := by
    have := of_decide_eq_true hk
    simpa using this
  simp only [Rows.uptoBulkAll] at hk'
  have hsum : sumT (atomsOf x.head x.body x.body.length) ≤ 1048576 := by omega
  have hmem : ∀ z ∈ x.body, z.atom.ts.length ≤ 1048576 := fun z hz => Nat.le_trans (atom_le_sum x.head x.body z hz) hsum
  have hhd : x.head.ts.length ≤ 1048576 := Nat.le_trans (head_le_sum x.head x.body) hsum
  refine (printRule_walk x W hin ⟨hf1, by omega, hf2, by omega, fun z hz => ⟨hf3 z hz, by have := hmem z hz; omega⟩⟩ (tabs_of_laid hX) (by omega) hsum).mono fun e W' ⟨he, bel0⟩ => ?_
  have bel : Below W.heap.size W W' := bel0
  subst he
  exact ⟨_, rfl, _, _, _, [], p0, [], hW', trodAll_mk1 (shut_bool Tryd.underlying4 _),
    trodAll_mk1 (Below.trod laidOutR (by kernel_rfl) (of_decide_eq_true (by kernel_rfl)) h0' bel (fun x hx => hlt x hx)), rfl, bel.frame _, fun h => by cases h⟩

theorem printRule_holds : Rows.PrintRuleUptoSaid :=
  OpenClaim.holds_of_cond 3 Tryd.f3 rfl rfl rfl rfl rfl rfl rfl ⟨rfl, rfl, rfl, rfl, rfl⟩ rfl rfl rfl rfl rfl (by kernel_rfl) Tryd.func3 (by kernel_rfl)
    (of_decide_eq_true (by kernel_rfl)) (by unfold Func.isWrapper; first | (rw [if_pos (by decide +kernel)]; kernel_rfl) | (rw [if_neg (by decide +kernel)]; exact ⟨rfl, rfl⟩))
    (fun os started H enc _ F => by rw [OpenClaim.pre_eq_preRow]; exact printRule_lifted os started H enc F)

theorem printRule_card : Rows.PrintRuleUptoCardSaid :=
  Claim7.holds_tied_plain_at .later [] [.data] true Rows.printRuleUptoCard.stood.harness false
    printRule_holds (fun _ h => by cases h) (by kernel_rfl) (fun _ h => by cases h) printRuleUpto_row_tie rfl ⟨rfl, rfl⟩ (by kernel_rfl) rfl
    (fun f fn hf hfn => by
      obtain rfl : f = 3 := Option.some.inj ((show Tryd.prog.funcNamed "inkling/inklinglaw09.PrintRule" = some 3 by kernel_rfl).symm.trans hf) |>.symm
      obtain rfl : fn = Tryd.f3 := (Option.some.inj (Tryd.func3.symm.trans hfn)).symm
      exact ⟨by kernel_rfl, fun j t ht => by
        rw [Tryd.params3] at ht
        have hm : t ∈ [27] := by simpa using Array.mem_of_getElem? ht
        have hall : ([27].all fun u => !Tryd.prog.wantsStandIn u) = true := by kernel_rfl
        exact (show Tryd.prog.wantsStandIn t = false by simpa using List.all_eq_true.1 hall t hm)⟩)
    (by kernel_rfl)
#print axioms printRule_card
end Go.Proofs.YtmbjghhicbbgmaaDoor
