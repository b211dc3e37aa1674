/- RelationCuts is true for any arity, tuples, columns and cut that together are of bulk at most 1048576: a stretch cut in two is counted in two parts, the counts over the unlike keys make together how many tuples there are, there are as many unlike keys as Distinct says, and a key with one more column is no rarer. -/
import Derived.Test.YtnhmjheipfopoaaRows
import Derived.Test.YtnhmjheipfopoaaL6f
import Derived.WalkKit
import Derived.ProofKit
import Derived.OpenShut
import Derived.JoinedCond
namespace Go.Proofs.Ytnhmjheipfopoaa
open Go.ChangeShapes Go.WideShapes Go.ChangeAt Go.RowKit

section
variable {H : Type} {enc : TypeId × Value → H} {W : World}
theorem bulk_one (d : DataW H) : 1 ≤ Rows.uptoBulk d := by
  cases d with
  | lit l => cases l <;> simp [Rows.uptoBulk]
  | _ => simp [Rows.uptoBulk]
theorem bulk_len : ∀ (l : List (DataW H)), l.length ≤ Rows.uptoBulkAll l
  | [] => by simp
  | x :: r => by have := bulk_len r; have := bulk_one x; simp only [Rows.uptoBulkAll, List.length_cons]; omega
theorem bulk_ints {d : DataW H} {zs rest : List Int} (hx : d = .nil ∧ zs = [] ∨ d = .slice (lits .i64 zs) (lits .i64 rest)) : zs.length ≤ Rows.uptoBulk d := by
  rcases hx with ⟨_, rfl⟩ | rfl
  · simp
  · simp only [Rows.uptoBulk]
    have h1 := bulk_len (H := H) (lits .i64 zs)
    simp [lits] at h1 ⊢; omega
theorem bulk_mem : ∀ {l : List (DataW H)} {y : DataW H}, y ∈ l → Rows.uptoBulk y ≤ Rows.uptoBulkAll l
  | [], _, h => by cases h
  | x :: r, y, h => by
    simp only [Rows.uptoBulkAll]
    rcases List.mem_cons.1 h with rfl | h
    · omega
    · have := bulk_mem h; omega
theorem bulk_tups {d : DataW H} {us : List Tup} (hx : d = .nil ∧ us = [] ∨ ∃ elems spare, d = .slice elems spare ∧ elems.length = us.length ∧ ∀ j (h : j < us.length), ∃ y, elems[j]? = some y ∧ us[j].is y) : us.length ≤ Rows.uptoBulk d ∧ ∀ u ∈ us, u.xs.length ≤ Rows.uptoBulk d := by
  rcases hx with ⟨_, rfl⟩ | ⟨elems, spare, rfl, he, hy⟩
  · simp
  · simp only [Rows.uptoBulk]
    have h1 := bulk_len (H := H) elems
    refine ⟨by omega, fun u hu => ?_⟩
    obtain ⟨j, hj, rfl⟩ := List.mem_iff_getElem.1 hu
    obtain ⟨y, h2, h3⟩ := hy j hj
    have h4 := bulk_mem (List.mem_of_getElem? h2)
    have h5 : us[j].xs.length ≤ Rows.uptoBulk y := by
      rcases h3 with ⟨h6, h7⟩ | ⟨rest, h6⟩
      · rw [h7]; simp
      · exact bulk_ints (rest := rest) (.inr h6)
    omega

theorem open_cap {a0 : Option Addr} {len cap : Nat} {d : DataW H} {p : List MemPlace} (h : DataW.Trod enc Try.prog W 0 (fun _ => true) true 23 (.slice a0 len cap) d p) : len ≤ cap := by
  obtain ⟨fuel, hf⟩ := h
  rcases open_ints Try.underlying23 Try.underlying3 cellsI hf with ⟨hcs, _⟩ | ⟨a, len', cap', zs, hcs, _, hl, _⟩
  · simp [Value.cells] at hcs
    omega
  · simp [Value.cells] at hcs
    obtain ⟨rfl, rfl, rfl⟩ := hcs
    exact hl
end

set_option maxRecDepth 100000 in
theorem rcuts_lifted (os : Os) (started : os.Started) (H : Type) (enc : TypeId × Value → H) (F : Stop.Interp) :
    ReturnsInHanded {} Try.checked os 4 .any ((Rows.OpenSpec.upto Rows.relationCutsSpec).pre6 enc Try.prog Try.f4 Rows.relationCutsUptoRow.domain false) (((Rows.OpenSpec.upto Rows.relationCutsSpec).at F).post enc Try.prog Try.f4 false true false false) := by
  refine returnsInHanded_of_cond (C := Try.checked) (s := Rows.OpenSpec.upto Rows.relationCutsSpec) (k := Rows.uptoSmall) rfl ownKn started (by kernel_rfl) Try.func4
    (OpenSpec.witness (enc := enc) (C := Try.checked) (s := Rows.OpenSpec.upto Rows.relationCutsSpec) (k := Rows.uptoSmall) rfl false ⟨#[], #[.int .i64 0, .slice none 0 0, .slice none 0 0, .int .i64 0], []⟩ 8 (by kernel_rfl) (by kernel_rfl) (by kernel_rfl)
      (x := ([.lit (.int .i64 0), .nil, .nil, .lit (.int .i64 0)], [], [])) (by kernel_rfl) rfl (by kernel_rfl)) ?_
  intro W base args ds gs before hval0 hW _ hk _
  have hval : ∀ (j : Nat) t v, Try.f4.params[j]? = some t → args[j]? = some v → Value.okWide Try.prog W .any base t v := hval0
  have hW' := hW
  obtain ⟨p, q, hA0, hV, rfl, _, _⟩ := hW
  have hA : DataW.TrodAll enc Try.prog W 0 (fun _ => true) true Try.f4.params.toList args.toList ds p := hA0
  rw [Try.params4] at hA hval
  obtain ⟨v0, vs0, d0, ds0, p0, q0, hargs, rfl, rfl, h0, r0⟩ := trodAll_cons hA
  obtain ⟨v1, vs1, d1, ds1, p1, q1, hargs1, rfl, rfl, h1, r1⟩ := trodAll_cons r0
  obtain ⟨v2, vs2, d2, ds2, p2, q2, hargs2, rfl, rfl, h2, r2⟩ := trodAll_cons r1
  obtain ⟨v3, vs3, d3, ds3, p3, q3, hargs3, rfl, rfl, h3, r3⟩ := trodAll_cons r2
  obtain ⟨rfl, rfl, rfl⟩ := trodAll_nil r3
  obtain rfl : args = #[v0, v1, v2, v3] := by cases args; simp_all
  obtain ⟨rfl, rfl⟩ := trodVars_none hV
  obtain ⟨z, rfl, rfl, rfl, hwz⟩ := open_int Try.underlying3 (hval 0 3 v0 rfl rfl) h0
  obtain ⟨cut, rfl, rfl, rfl, hwc⟩ := open_int Try.underlying3 (hval 3 3 v3 rfl rfl) h3
  obtain ⟨a1, len1, cap1, rfl⟩ := okWide_slice Try.underlying22 (hval 1 22 v1 rfl rfl)
  obtain ⟨a2, len2, cap2, rfl⟩ := okWide_slice Try.underlying23 (hval 2 23 v2 rfl rfl)
  clear hA0 hval0
  have hlt : ∀ x ∈ p1 ++ p2, x.block < W.heap.size := fun x hx => by simpa using hW'.lt x (by simpa using hx)
  obtain ⟨b1, off1, us, hS1, hS2, rfl, _, _, hd1⟩ := open_tups h1
  have hcp := open_cap h2
  obtain ⟨b2, off2, C, rest2, hC, rfl, ha2, hd2, _⟩ := open_intsS h2
  have hk' : Rows.uptoBulkAll [(.lit (.int .i64 z) : DataW H), d1, d2, .lit (.int .i64 cut)] ≤ 1048576 := by
    have := of_decide_eq_true hk
    simpa using this
  simp only [Rows.uptoBulkAll] at hk'
  obtain ⟨s0, s1⟩ := bulk_tups hd1
  have s2 := bulk_ints hd2
  have hU : L.TupsA W a1 b1 off1 us := ⟨hS1, fun j hj => ⟨(hS2 j hj).1, (hS2 j hj).2.1⟩, by omega, fun u hu => by have := s1 u hu; omega⟩
  have hwalk : Calls Try.prog 4 #[.int .i64 z, .slice a1 us.length cap1, .slice a2 C.length cap2, .int .i64 cut] W fun e w' => e = .returned (.bool true) ∧ Stay W w' := by
    by_cases hz : z < 0 ∨ 16 < z
    · exact L.cuts_bad W z hz _ _ cut
    · obtain ⟨ar, rfl⟩ : ∃ ar : Nat, z = ar := ⟨z.toNat, by omega⟩
      exact L.cuts_good W (by omega) a1 b1 off1 cap1 us hU a2 b2 off2 cap2 C hC (by omega) hcp cut
  refine hwalk.mono fun e W' ⟨he, bel0⟩ => ?_
  have bel : Below W.heap.size W W' := bel0
  subst he
  exact ⟨_, rfl, _, _, _, [], [] ++ (p1 ++ (p2 ++ [])), [], hW', trodAll_mk1 (shut_bool Try.underlying4 _),
    trodAll_cons_mk (shut_int Try.underlying3 hwz)
      (trodAll_cons_mk (Below.trod laidOut (by kernel_rfl) (of_decide_eq_true (by kernel_rfl)) h1 bel (fun x hx => hlt x (by simp [hx])))
        (trodAll_cons_mk (Below.trod laidOut (by kernel_rfl) (of_decide_eq_true (by kernel_rfl)) h2 bel (fun x hx => hlt x (by simp [hx])))
          (trodAll_mk1 (shut_int Try.underlying3 hwc)))),
    rfl, bel.frame _, fun h => by cases h⟩

theorem relationCuts_holds : Rows.RelationCutsUptoSaid :=
  OpenClaim.holds_of_cond 4 Try.f4 rfl rfl rfl rfl rfl rfl rfl ⟨rfl, rfl, rfl, rfl, rfl⟩ rfl rfl rfl rfl rfl (by kernel_rfl) Try.func4 (by kernel_rfl)
    (of_decide_eq_true (by kernel_rfl)) (by unfold Func.isWrapper; first | (rw [if_pos (by decide +kernel)]; kernel_rfl) | (rw [if_neg (by decide +kernel)]; exact ⟨rfl, rfl⟩))
    (fun os started H enc _ F => rcuts_lifted os started H enc F)
#print axioms relationCuts_holds
end Go.Proofs.Ytnhmjheipfopoaa
