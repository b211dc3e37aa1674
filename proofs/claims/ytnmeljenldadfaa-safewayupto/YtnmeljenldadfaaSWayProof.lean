/- SafeWay is true where what it reads is of bulk at most 1048576: what Rule, Faults, Vars and Bound tell of a rule agrees; a way tells each literal of the three kinds once, each ready behind those ahead of it; the rule stays as it was. -/
import Derived.Test.YtnmeljenldadfaaWSc
import Derived.Test.YtnmeljenldadfaaEC
import Derived.Test.YtnmeljenldadfaaEA
import Derived.JoinedCond
namespace Go.Proofs.Ytnmeljenldadfaa
open Go.ChangeShapes Go.WideShapes Go.ChangeAt Go.RowKit

set_option maxRecDepth 100000 in
theorem safeWay_lifted (os : Os) (started : os.Started) (H : Type) (enc : TypeId × Value → H) (F : Stop.Interp) :
    ReturnsInHanded {} Try.checked os 6 .any ((Rows.OpenSpec.upto Rows.safeWaySpec).pre6 enc Try.prog Try.f6 Rows.safeWayUptoRow.domain false) (((Rows.OpenSpec.upto Rows.safeWaySpec).at F).post enc Try.prog Try.f6 false true false false) := by
  refine returnsInHanded_of_cond (C := Try.checked) (s := Rows.OpenSpec.upto Rows.safeWaySpec) (k := Rows.uptoSmall) rfl ownKnL started (by kernel_rfl) Try.func6
    (OpenSpec.witness (enc := enc) (C := Try.checked) (s := Rows.OpenSpec.upto Rows.safeWaySpec) (k := Rows.uptoSmall) rfl false ⟨#[], #[.agg #[.string ⟨#[]⟩, .slice none 0 0, .slice none 0 0]], []⟩ 8 (by kernel_rfl) (by kernel_rfl) (by kernel_rfl)
      (x := ([.agg [.agg [.lit (.string []), .nil], .nil]], [], [])) (by kernel_rfl) rfl (by kernel_rfl)) ?_
  intro W base args ds gs before hval0 hW _ hk _
  have hval : ∀ (j : Nat) t v, Try.f6.params[j]? = some t → args[j]? = some v → Value.okWide Try.prog W .any base t v := hval0
  have hW' := hW
  obtain ⟨p, q, hA0, hV, rfl, _, _⟩ := hW
  have hA : DataW.TrodAll enc Try.prog W 0 (fun _ => true) true Try.f6.params.toList args.toList ds p := hA0
  rw [Try.params6] at hA hval
  obtain ⟨v1, vs1, d1, ds1, p1, q1, hargs1, rfl, rfl, h1, r1⟩ := trodAll_cons hA
  obtain ⟨rfl, rfl, rfl⟩ := trodAll_nil r1
  obtain rfl : args = #[v1] := by cases args; simp_all
  obtain ⟨rfl, rfl⟩ := trodVars_none hV
  have hv1 := hval 0 27 v1 rfl rfl
  clear hA0 hval0
  simp only [List.append_nil] at hW'
  have hlt : ∀ x ∈ p1, x.block < W.heap.size := fun x hx => by simpa using hW'.lt x (by simpa using hx)
  obtain ⟨x, rfl, hx⟩ := open_ruV hv1 h1
  have hk' : Rows.uptoBulkAll [d1] ≤ 1048576 := by
    have := of_decide_eq_true hk
    simpa using this
  simp only [Rows.uptoBulkAll] at hk'
  have hx1 := hx.mono (m := 1048576) (by omega)
  have hx2 := hx1.mass
  have hfm := faults_mass 0 [x]
  have hpm := placesB_mass 0 x.body
  have hvl := varsT_len x.head.ts
  have hms : (x.body.map Li.mass).sum = (x.body.map (fun l => l.atom.ts.length + 3)).sum := rfl
  unfold Ru.mass at hx2
  have hpr : (placesR x).length ≤ 1048576 := by
    simp only [placesR, List.length_append, List.length_map]
    omega
  have hbl : (bindP x.body).length ≤ 1048576 := by
    have : (bindP x.body).length ≤ (placesB 0 x.body).length := by rw [bindP_eq]; exact List.length_filter_le _ _
    omega
  have hol : ∀ ps : List (Int × ByteArray), (onceN ps).length ≤ ps.length := fun ps => by
    unfold onceN
    rw [show (namesP (sel newC ps)).length = (sel newC ps).length from by simp [namesP]]
    exact sel_len _ _
  have ho1 := hol (placesR x)
  have ho2 := hol (bindP x.body)
  refine (safeWay_walk x W hx1.fit (by simp only [List.map_cons, List.map_nil, List.sum_cons, List.sum_nil] at hfm; omega) (by omega) (by omega)).mono fun e W' ⟨he, bel0⟩ => ?_
  have bel : Below W.heap.size W W' := bel0
  subst he
  exact ⟨_, rfl, _, _, _, [], p1, [], hW', trodAll_mk1 (shut_bool Try.underlying4 _),
    trodAll_mk1 (Below.trod laidOutR (by kernel_rfl) (of_decide_eq_true (by kernel_rfl)) h1 bel hlt),
    rfl, bel.frame _, fun h => by cases h⟩

theorem safeWay_holds : Rows.SafeWayUptoSaid :=
  OpenClaim.holds_of_cond 6 Try.f6 rfl rfl rfl rfl rfl rfl rfl ⟨rfl, rfl, rfl, rfl, rfl⟩ rfl rfl rfl rfl rfl (by kernel_rfl) Try.func6 (by kernel_rfl)
    (of_decide_eq_true (by kernel_rfl)) (by unfold Func.isWrapper; first | (rw [if_pos (by decide +kernel)]; kernel_rfl) | (rw [if_neg (by decide +kernel)]; exact ⟨rfl, rfl⟩))
    (fun os started H enc _ F => safeWay_lifted os started H enc F)
#print axioms safeWay_holds
end Go.Proofs.Ytnmeljenldadfaa
