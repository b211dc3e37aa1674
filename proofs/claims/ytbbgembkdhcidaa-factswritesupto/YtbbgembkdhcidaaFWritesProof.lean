/- FactsWrites is true for any tuples, arity and predicate, together of bulk at most 1048576: Write and Relation answer as the document says; the tuples that were handed in stay; two answers of Relation are the caller's, each its own. -/
import Derived.Test.YtbbgembkdhcidaaFOs
import Derived.Test.YtbbgembkdhcidaaFWr
import Derived.JoinedCond
namespace Go.Proofs.Ytbbgembkdhcidaa
open Go.ChangeShapes Go.WideShapes Go.ChangeAt Go.RowKit

theorem sumG_len : ∀ (l : List (List ByteArray)), l.length ≤ sumG l ∧ ∀ t ∈ l, t.length ≤ sumG l
  | [] => ⟨by simp, fun t h => by simp at h⟩
  | t :: l => by
    obtain ⟨h1, h2⟩ := sumG_len l
    have h3 : ∀ x : List ByteArray, x.length ≤ sumL (dat x) := fun x => by
      induction x with
      | nil => simp
      | cons y x ih => show _ ≤ y.data.toList.length + 1 + sumL (dat x); simp; omega
    have h4 := h3 t
    refine ⟨by rw [sumG, List.length_cons]; omega, fun x hx => ?_⟩
    rw [sumG]
    rcases List.mem_cons.1 hx with rfl | hx
    · omega
    · have := h2 x hx; omega

set_option maxRecDepth 100000 in
theorem fwrites_lifted (os : Os) (started : os.Started) (H : Type) (enc : TypeId × Value → H) (F : Stop.Interp) :
    ReturnsInHanded {} Try.checked os 3 .any ((Rows.OpenSpec.upto Rows.factsWritesSpec).pre6 enc Try.prog Try.f3 Rows.factsWritesUptoRow.domain false) (((Rows.OpenSpec.upto Rows.factsWritesSpec).at F).post enc Try.prog Try.f3 false true false false) := by
  refine returnsInHanded_of_cond (C := Try.checked) (s := Rows.OpenSpec.upto Rows.factsWritesSpec) (k := Rows.uptoSmall) rfl ownKn started (by kernel_rfl) Try.func3
    (OpenSpec.witness (enc := enc) (C := Try.checked) (s := Rows.OpenSpec.upto Rows.factsWritesSpec) (k := Rows.uptoSmall) rfl false ⟨#[], #[.slice none 0 0, .int .i64 0, .string ⟨#[]⟩], []⟩ 8 (by kernel_rfl) (by kernel_rfl) (by kernel_rfl)
      (x := ([.nil, .lit (.int .i64 0), .lit (.string [])], [], [])) (by kernel_rfl) rfl (by kernel_rfl)) ?_
  intro W base args ds gs before hval0 hW _ hk _
  have hval : ∀ (j : Nat) t v, Try.f3.params[j]? = some t → args[j]? = some v → Value.okWide Try.prog W .any base t v := hval0
  have hW' := hW
  obtain ⟨p, q, hA0, hV, rfl, _, _⟩ := hW
  have hA : DataW.TrodAll enc Try.prog W 0 (fun _ => true) true Try.f3.params.toList args.toList ds p := hA0
  rw [Try.params3] at hA hval
  obtain ⟨v0, vs0, d0, ds0, p0, q0, hargs, rfl, rfl, h0, r0⟩ := trodAll_cons hA
  obtain ⟨v1, vs1, d1, ds1, p1, q1, hargs1, rfl, rfl, h1, r1⟩ := trodAll_cons r0
  obtain ⟨v2, vs2, d2, ds2, p2, q2, hargs2, rfl, rfl, h2, r2⟩ := trodAll_cons r1
  obtain ⟨rfl, rfl, rfl⟩ := trodAll_nil r2
  obtain rfl : args = #[v0, v1, v2] := by cases args; simp_all
  obtain ⟨rfl, rfl⟩ := trodVars_none hV
  obtain ⟨a0, len0, cap0, rfl⟩ := okWide_slice Try.underlying22 (hval 0 22 v0 rfl rfl)
  obtain ⟨z, rfl, rfl, rfl, hwn⟩ := open_int Try.underlying3 (hval 1 3 v1 rfl rfl) h1
  obtain ⟨s, rfl, rfl, rfl, hsm⟩ := ChangeMaps.open_string Try.underlying9 (hval 2 9 v2 rfl rfl) h2
  clear hA0 hval0
  simp only [List.append_nil] at hW'
  have hlt : ∀ x ∈ p0, x.block < W.heap.size := fun x hx => by simpa using hW'.lt x (by simpa using hx)
  obtain ⟨b0, off0, ts, hS0, rfl, ha0, hnn, hd0⟩ := open_txss h0
  have hk' : Rows.uptoBulkAll [d0, (.lit (.int .i64 z) : DataW H), (.lit (.string s.data.toList) : DataW H)] ≤ 1048576 := by
    have := of_decide_eq_true hk
    simpa using this
  simp only [Rows.uptoBulkAll, Rows.uptoBulk] at hk'
  obtain ⟨g1, g2⟩ := sumG_len (ts.map Tx.xs)
  rw [List.length_map] at g1
  rw [show s.data.toList.length = s.size by simp] at hk'
  refine (writes_walk W a0 b0 off0 cap0 ts z s hS0 hnn (fun t ht => by have := g2 t.xs (List.mem_map.2 ⟨t, ht, rfl⟩); omega) (by omega) (by omega) (by omega)).mono fun e W' ⟨he, bel0⟩ => ?_
  have bel : Below W.heap.size W W' := bel0
  subst he
  exact ⟨_, rfl, _, _, _, [], p0 ++ [], [], hW', trodAll_mk1 (shut_bool Try.underlying4 _),
    trodAll_cons_mk (Below.trod laidOut (by kernel_rfl) (of_decide_eq_true (by kernel_rfl)) h0 bel (fun x hx => hlt x hx)) (trodAll_cons_mk (shut_int Try.underlying3 hwn) (trodAll_mk1 (ChangeMaps.shut_string Try.underlying9 hsm))),
    rfl, bel.frame _, fun h => by cases h⟩

theorem factsWrites_holds : Rows.FactsWritesUptoSaid :=
  OpenClaim.holds_of_cond 3 Try.f3 rfl rfl rfl rfl rfl rfl rfl ⟨rfl, rfl, rfl, rfl, rfl⟩ rfl rfl rfl rfl rfl (by kernel_rfl) Try.func3 (by kernel_rfl)
    (of_decide_eq_true (by kernel_rfl)) (by unfold Func.isWrapper; first | (rw [if_pos (by decide +kernel)]; kernel_rfl) | (rw [if_neg (by decide +kernel)]; exact ⟨rfl, rfl⟩))
    (fun os started H enc _ F => fwrites_lifted os started H enc F)
#print axioms factsWrites_holds
end Go.Proofs.Ytbbgembkdhcidaa
