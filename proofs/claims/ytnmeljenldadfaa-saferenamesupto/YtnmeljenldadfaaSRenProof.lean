/- SafeRenames is true where what it reads is of bulk at most 1048576: a text behind each variable's name renames what Vars, Bound and Rule tell, and leaves the way; the rule stays as it was. -/
import Derived.Test.YtnmeljenldadfaaRNe
import Derived.Test.YtnmeljenldadfaaWSb
import Derived.Test.YtnmeljenldadfaaEC
import Derived.Test.YtnmeljenldadfaaEA
import Derived.JoinedCond
namespace Go.Proofs.Ytnmeljenldadfaa
open Go.ChangeShapes Go.WideShapes Go.ChangeAt Go.RowKit

set_option maxRecDepth 100000 in
theorem safeRenames_lifted (os : Os) (started : os.Started) (H : Type) (enc : TypeId × Value → H) (F : Stop.Interp) :
    ReturnsInHanded {} Try.checked os 5 .any ((Rows.OpenSpec.upto Rows.safeRenamesSpec).pre6 enc Try.prog Try.f5 Rows.safeRenamesUptoRow.domain false) (((Rows.OpenSpec.upto Rows.safeRenamesSpec).at F).post enc Try.prog Try.f5 false true false false) := by
  refine returnsInHanded_of_cond (C := Try.checked) (s := Rows.OpenSpec.upto Rows.safeRenamesSpec) (k := Rows.uptoSmall) rfl ownKnL started (by kernel_rfl) Try.func5
    (OpenSpec.witness (enc := enc) (C := Try.checked) (s := Rows.OpenSpec.upto Rows.safeRenamesSpec) (k := Rows.uptoSmall) rfl false ⟨#[], #[.agg #[.string ⟨#[]⟩, .slice none 0 0, .slice none 0 0], .string ⟨#[]⟩], []⟩ 8 (by kernel_rfl) (by kernel_rfl) (by kernel_rfl)
      (x := ([.agg [.agg [.lit (.string []), .nil], .nil], .lit (.string [])], [], [])) (by kernel_rfl) rfl (by kernel_rfl)) ?_
  intro W base args ds gs before hval0 hW _ hk _
  have hval : ∀ (j : Nat) t v, Try.f5.params[j]? = some t → args[j]? = some v → Value.okWide Try.prog W .any base t v := hval0
  have hW' := hW
  obtain ⟨p, q, hA0, hV, rfl, _, _⟩ := hW
  have hA : DataW.TrodAll enc Try.prog W 0 (fun _ => true) true Try.f5.params.toList args.toList ds p := hA0
  rw [Try.params5] at hA hval
  obtain ⟨v1, vs1, d1, ds1, p1, q1, hargs1, rfl, rfl, h1, r1⟩ := trodAll_cons hA
  obtain ⟨v2, vs2, d2, ds2, p2, q2, hargs2, rfl, rfl, h2, r2⟩ := trodAll_cons r1
  obtain ⟨rfl, rfl, rfl⟩ := trodAll_nil r2
  obtain rfl : args = #[v1, v2] := by cases args; simp_all
  obtain ⟨rfl, rfl⟩ := trodVars_none hV
  have hv1 := hval 0 27 v1 rfl rfl
  obtain ⟨m, rfl, rfl, rfl, hsm⟩ := ChangeMaps.open_string Try.underlying9 (hval 1 9 v2 rfl rfl) h2
  clear hA0 hval0
  simp only [List.append_nil] at hW'
  have hlt : ∀ x ∈ p1, x.block < W.heap.size := fun x hx => by simpa using hW'.lt x (by simpa using hx)
  obtain ⟨x, rfl, hx⟩ := open_ruV hv1 h1
  have hk' : Rows.uptoBulkAll [d1, (.lit (.string m.data.toList) : DataW H)] ≤ 1048576 := by
    have := of_decide_eq_true hk
    simpa using this
  simp only [Rows.uptoBulkAll, Rows.uptoBulk] at hk'
  rw [show m.data.toList.length = m.size by simp] at hk'
  have hx0 := hx.mono (m := 1048576 - m.size) (by omega)
  have hx1 := hx.mono (m := 1048576) (by omega)
  have hsb : x.shortBy m.size := by
    refine ⟨fun t ht => ?_, fun l hl => ?_⟩
    · have := hx0.texts t ht; omega
    · have hl0 := hx0.lits l hl
      exact ⟨fun t ht => by have := hl0.texts t ht; omega, by have := hl0.left; omega, by have := hl0.right; omega⟩
  have hx2 := hx1.mass
  have hpm := placesB_mass 0 x.body
  have hvl := varsT_len x.head.ts
  have hms : (x.body.map Li.mass).sum = (x.body.map (fun l => l.atom.ts.length + 3)).sum := rfl
  have hxm := mass_len x.body
  unfold Ru.mass at hx2
  have hpr : (placesR x).length ≤ 1048576 := by
    simp only [placesR, List.length_append, List.length_map]
    omega
  have hbl : (bindP x.body).length ≤ 1048576 := by
    have : (bindP x.body).length ≤ (placesB 0 x.body).length := by rw [bindP_eq]; exact List.length_filter_le _ _
    omega
  have ho1 := onceN_len (placesR x)
  have ho2 := onceN_len (bindP x.body)
  have hwl : (wayL x.body).length ≤ x.body.length := by
    unfold wayL
    split
    · rename_i h
      rw [way_len (show wayOkB x.body = true from h)]
      exact List.length_filter_le _ _
    · exact Nat.zero_le _
  refine (safeRenames_walk x m W hx1.fit hsb (by omega) (by omega) (by omega) (by omega)).mono fun e W' ⟨he, bel0⟩ => ?_
  have bel : Below W.heap.size W W' := bel0
  subst he
  exact ⟨_, rfl, _, _, _, [], p1, [], hW', trodAll_mk1 (shut_bool Try.underlying4 _),
    (by have q := trodAll_cons_mk (Below.trod laidOutR (by kernel_rfl) (of_decide_eq_true (by kernel_rfl)) h1 bel hlt) (trodAll_mk1 (ChangeMaps.shut_string Try.underlying9 hsm)); rw [List.append_nil] at q; exact q),
    rfl, bel.frame _, fun h => by cases h⟩

theorem safeRenames_holds : Rows.SafeRenamesUptoSaid :=
  OpenClaim.holds_of_cond 5 Try.f5 rfl rfl rfl rfl rfl rfl rfl ⟨rfl, rfl, rfl, rfl, rfl⟩ rfl rfl rfl rfl rfl (by kernel_rfl) Try.func5 (by kernel_rfl)
    (of_decide_eq_true (by kernel_rfl)) (by unfold Func.isWrapper; first | (rw [if_pos (by decide +kernel)]; kernel_rfl) | (rw [if_neg (by decide +kernel)]; exact ⟨rfl, rfl⟩))
    (fun os started H enc _ F => safeRenames_lifted os started H enc F)
#print axioms safeRenames_holds
end Go.Proofs.Ytnmeljenldadfaa
