/- IndexNil is true: New without one of its functions answers ErrNil and no table; a table that is not there (a nil pointer, a zero table) answers every call as the document says, and the small table that is asked besides answers as it should; for every key and value, no condition. -/
import Derived.Test.YtaikoinakieacaaRows
import Derived.Test.YtaikoinakieacaaIV
import Derived.WalkKit
import Derived.ProofKit
import Derived.OpenShut
namespace Go.Proofs.Ytaikoinakieacaa
open Go.ChangeShapes Go.WideShapes Go.ChangeAt Go.RowKit Go.Proofs.Ytaikoinakieacaa.I

theorem ownK : ownKnob Try.prog.godebug = none := by kernel_rfl

theorem zero_tab (w : World) : (w.alloc (.cells #[.nilFunc, .nilFunc, .slice none 0 0, .slice none 0 0, .int .i64 0, .int .i64 0] 86)).cell? ⟨w.heap.size, 0, none⟩ = some .nilFunc := by
  have h := new_cells w [.nilFunc, .nilFunc, .slice none 0 0, .slice none 0 0, .int .i64 0, .int .i64 0] 86 0 _ rfl
  rw [add_at] at h
  exact h

set_option maxRecDepth 100000 in
set_option maxHeartbeats 400000 in
theorem nil_walk (k v : Int) (w : World) : Calls Try.prog 8 #[.int .i64 k, .int .i64 v] w fun e w' => e = .returned (.bool true) ∧ Stay w w' := by
  go_enter Try.func8, Try.ntmps8
  go_wp2_with fail
  refine (sames_any _ _).mono ?_
  rintro e9 w1 ⟨rfl, rfl⟩
  go_wp2_with fail
  refine (new_nil1 _).mono ?_
  rintro e9 w9 ⟨rfl, hw⟩
  have hw' := hw.symm; subst hw'
  go_wp2_with fail
  refine (hashes_any _ _).mono ?_
  rintro e9 w2 ⟨rfl, rfl⟩
  go_wp2_with fail
  refine (new_nil2 _).mono ?_
  rintro e9 w9 ⟨rfl, hw⟩
  have hw' := hw.symm; subst hw'
  have HB : Hid (Stay w ((w.alloc (.cells #[.int .i64 0] 3)).alloc (.cells #[.int .i64 0] 3))) := (Stay.new w _).alloc _
  generalize (w.alloc (.cells #[.int .i64 0] 3)).alloc (.cells #[.int .i64 0] 3) = w2 at HB ⊢
  have h1 := callsIn_wide.1 (nothing_any w2 none k v (fun W _ => made_nil W))
  go_wp2_with fail
  refine h1.mono ?_
  rintro e w3 ⟨rfl, hb3⟩
  have h2 := callsIn_wide.1 (nothing_any (w3.alloc (.cells #[.nilFunc, .nilFunc, .slice none 0 0, .slice none 0 0, .int .i64 0, .int .i64 0] 86)) (some ⟨w3.heap.size, 0, none⟩) k v (fun W hW => made_zero (hW.cell (zero_tab w3))))
  have HB3 : Hid (Stay w (w3.alloc (.cells #[.nilFunc, .nilFunc, .slice none 0 0, .slice none 0 0, .int .i64 0, .int .i64 0] 86))) := (HB.out.trans hb3).alloc _
  clear h1 hb3
  go_wp2_with fail
  refine h2.mono ?_
  rintro e w4 ⟨rfl, hb4⟩
  have HB4 : Hid (Stay w w4) := HB3.out.trans hb4
  clear h2 hb4
  go_wp2_with fail
  refine (known_any w4).mono ?_
  rintro e w5 ⟨rfl, hb5⟩
  have HB5 : Hid (Stay w w5) := HB4.out.trans hb5
  clear hb5
  go_wp2
  go_ret
  exact ⟨rfl, HB5.out⟩

set_option maxRecDepth 100000 in
theorem nil_lifted (os : Os) (started : os.Started) (H : Type) (enc : TypeId × Value → H) :
    ReturnsInHanded {} Try.checked os 8 .any (Rows.indexNilSpec.pre6 enc Try.prog Try.f8 Rows.indexNilRow.domain false) (Rows.indexNilSpec.post enc Try.prog Try.f8 false true false false) := by
  refine returnsInHanded_of_change (C := Try.checked) ownK started (by kernel_rfl) Try.func8
    (ChangeSpec.witness6 (enc := enc) (C := Try.checked) false ⟨#[], #[.int .i64 0, .int .i64 0], []⟩ 8 (by kernel_rfl) (by kernel_rfl) (by kernel_rfl) (by kernel_rfl)) ?_
  intro W base args ds gs before hval0 hW hcnd _
  have hval : ∀ (j : Nat) t v, Try.f8.params[j]? = some t → args[j]? = some v → Value.okWide Try.prog W .any base t v := hval0
  have hW' := hW
  obtain ⟨p, q, hA0, hV, rfl, hfz, hnd⟩ := hW
  have hA : DataW.TrodAll enc Try.prog W 0 (fun _ => true) true Try.f8.params.toList args.toList ds p := hA0
  rw [Try.params8] at hA hval
  obtain ⟨v0, vs0, d0, ds0, p0, q0, hargs, rfl, rfl, h0, r0⟩ := trodAll_cons hA
  obtain ⟨v1, vs1, d1, ds1, p1, q1, rfl, rfl, rfl, h1, r1⟩ := trodAll_cons r0
  obtain ⟨rfl, rfl, rfl⟩ := trodAll_nil r1
  obtain rfl : args = #[v0, v1] := by cases args; simp_all
  obtain ⟨rfl, rfl⟩ := trodVars_none hV
  obtain ⟨a0, rfl, rfl, rfl, w0⟩ := open_int Try.underlying3 (hval 0 3 v0 rfl rfl) h0
  obtain ⟨a1, rfl, rfl, rfl, w1⟩ := open_int Try.underlying3 (hval 1 3 v1 rfl rfl) h1
  clear hA0 hval0
  simp only [List.append_nil] at hW'
  refine (nil_walk a0 a1 W).mono fun e W' ⟨he, bel⟩ => ?_
  subst he
  exact ⟨_, rfl, _, _, _, [], [], [], hW', trodAll_cons_mk (shut_bool Try.underlying4 _) trodAll_mk0, trodAll_cons_mk (shut_int Try.underlying3 w0) (trodAll_cons_mk (shut_int Try.underlying3 w1) trodAll_mk0), rfl, Below.frame bel _, fun h => by cases h⟩

theorem indexNil_holds : Rows.IndexNilSaid :=
  OpenClaim.holds_of_wide 8 Try.f8 rfl rfl rfl rfl rfl rfl rfl ⟨rfl, rfl, rfl, rfl, rfl⟩ rfl rfl rfl rfl rfl (by kernel_rfl) Try.func8 (by kernel_rfl)
    (of_decide_eq_true (by kernel_rfl)) (by unfold Func.isWrapper; first | (rw [if_pos (by decide +kernel)]; kernel_rfl) | (rw [if_neg (by decide +kernel)]; exact ⟨rfl, rfl⟩))
    (fun os started H enc _ => nil_lifted os started H enc)
#print axioms indexNil_holds
end Go.Proofs.Ytaikoinakieacaa
