/- RelationMeanwhile is true for any arity, tuples, more tuples, columns and key that together are of bulk at most 1048576: while All, and then Match of the columns, is gone through, more tuples are added: what is told in that turn is what Match told of the relation as it was at the turn's beginning, and behind the turn Match tells all that lies there then, twice over. -/
import Derived.Test.YtnhmjheipfopoaaRows
import Derived.Test.YtnhmjheipfopoaaL8u
import Derived.Test.YtnhmjheipfopoaaL6o
import Derived.WalkKit
import Derived.ProofKit
import Derived.OpenShut
import Derived.JoinedCond
namespace Go.Proofs.Ytnhmjheipfopoaa
open Go.ChangeShapes Go.WideShapes Go.ChangeAt Go.RowKit

section
variable {H : Type} {enc : TypeId × Value → H} {W : World}
theorem bulk_one (d : DataW H) : 1 ≤ Rows.uptoBulk d := by
  cases d with
  | lit l => cases l <;> simp [Rows.uptoBulk]
  | _ => simp [Rows.uptoBulk]
theorem bulk_len : ∀ (l : List (DataW H)), l.length ≤ Rows.uptoBulkAll l
  | [] => by simp
  | x :: r => by have := bulk_len r; have := bulk_one x; simp only [Rows.uptoBulkAll, List.length_cons]; omega
theorem bulk_ints {d : DataW H} {zs rest : List Int} (hx : d = .nil ∧ zs = [] ∨ d = .slice (lits .i64 zs) (lits .i64 rest)) : zs.length ≤ Rows.uptoBulk d := by
  rcases hx with ⟨_, rfl⟩ | rfl
  · simp
  · simp only [Rows.uptoBulk]
    have h1 := bulk_len (H := H) (lits .i64 zs)
    simp [lits] at h1 ⊢; omega
theorem bulk_mem : ∀ {l : List (DataW H)} {y : DataW H}, y ∈ l → Rows.uptoBulk y ≤ Rows.uptoBulkAll l
  | [], _, h => by cases h
  | x :: r, y, h => by
    simp only [Rows.uptoBulkAll]
    rcases List.mem_cons.1 h with rfl | h
    · omega
    · have := bulk_mem h; omega
theorem bulk_tups {d : DataW H} {us : List Tup} (hx : d = .nil ∧ us = [] ∨ ∃ elems spare, d = .slice elems spare ∧ elems.length = us.length ∧ ∀ j (h : j < us.length), ∃ y, elems[j]? = some y ∧ us[j].is y) : us.length ≤ Rows.uptoBulk d ∧ ∀ u ∈ us, u.xs.length ≤ Rows.uptoBulk d := by
  rcases hx with ⟨_, rfl⟩ | ⟨elems, spare, rfl, he, hy⟩
  · simp
  · simp only [Rows.uptoBulk]
    have h1 := bulk_len (H := H) elems
    refine ⟨by omega, fun u hu => ?_⟩
    obtain ⟨j, hj, rfl⟩ := List.mem_iff_getElem.1 hu
    obtain ⟨y, h2, h3⟩ := hy j hj
    have h4 := bulk_mem (List.mem_of_getElem? h2)
    have h5 : us[j].xs.length ≤ Rows.uptoBulk y := by
      rcases h3 with ⟨h6, h7⟩ | ⟨rest, h6⟩
      · rw [h7]; simp
      · exact bulk_ints (rest := rest) (.inr h6)
    omega
end

set_option maxRecDepth 100000 in
theorem rmean_lifted (os : Os) (started : os.Started) (H : Type) (enc : TypeId × Value → H) (F : Stop.Interp) :
    ReturnsInHanded {} Try.checked os 3 .any ((Rows.OpenSpec.upto Rows.relationMeanwhileSpec).pre6 enc Try.prog Try.f3 Rows.relationMeanwhileUptoRow.domain false) (((Rows.OpenSpec.upto Rows.relationMeanwhileSpec).at F).post enc Try.prog Try.f3 false true false false) := by
  refine returnsInHanded_of_cond (C := Try.checked) (s := Rows.OpenSpec.upto Rows.relationMeanwhileSpec) (k := Rows.uptoSmall) rfl ownKn started (by kernel_rfl) Try.func3
    (OpenSpec.witness (enc := enc) (C := Try.checked) (s := Rows.OpenSpec.upto Rows.relationMeanwhileSpec) (k := Rows.uptoSmall) rfl false ⟨#[], #[.int .i64 0, .slice none 0 0, .slice none 0 0, .slice none 0 0, .slice none 0 0], []⟩ 8 (by kernel_rfl) (by kernel_rfl) (by kernel_rfl)
      (x := ([.lit (.int .i64 0), .nil, .nil, .nil, .nil], [], [])) (by kernel_rfl) rfl (by kernel_rfl)) ?_
  intro W base args ds gs before hval0 hW _ hk _
  have hval : ∀ (j : Nat) t v, Try.f3.params[j]? = some t → args[j]? = some v → Value.okWide Try.prog W .any base t v := hval0
  have hW' := hW
  obtain ⟨p, q, hA0, hV, rfl, _, _⟩ := hW
  have hA : DataW.TrodAll enc Try.prog W 0 (fun _ => true) true Try.f3.params.toList args.toList ds p := hA0
  rw [Try.params3] at hA hval
  obtain ⟨v0, vs0, d0, ds0, p0, q0, hargs, rfl, rfl, h0, r0⟩ := trodAll_cons hA
  obtain ⟨v1, vs1, d1, ds1, p1, q1, hargs1, rfl, rfl, h1, r1⟩ := trodAll_cons r0
  obtain ⟨v2, vs2, d2, ds2, p2, q2, hargs2, rfl, rfl, h2, r2⟩ := trodAll_cons r1
  obtain ⟨v3, vs3, d3, ds3, p3, q3, hargs3, rfl, rfl, h3, r3⟩ := trodAll_cons r2
  obtain ⟨v4, vs4, d4, ds4, p4, q4, hargs4, rfl, rfl, h4, r4⟩ := trodAll_cons r3
  obtain ⟨rfl, rfl, rfl⟩ := trodAll_nil r4
  obtain rfl : args = #[v0, v1, v2, v3, v4] := by cases args; simp_all
  obtain ⟨rfl, rfl⟩ := trodVars_none hV
  obtain ⟨z, rfl, rfl, rfl, hwz⟩ := open_int Try.underlying3 (hval 0 3 v0 rfl rfl) h0
  obtain ⟨a1, len1, cap1, rfl⟩ := okWide_slice Try.underlying22 (hval 1 22 v1 rfl rfl)
  obtain ⟨a2, len2, cap2, rfl⟩ := okWide_slice Try.underlying22 (hval 2 22 v2 rfl rfl)
  obtain ⟨a3, len3, cap3, rfl⟩ := okWide_slice Try.underlying23 (hval 3 23 v3 rfl rfl)
  obtain ⟨a4, len4, cap4, rfl⟩ := okWide_slice Try.underlying23 (hval 4 23 v4 rfl rfl)
  clear hA0 hval0
  have hlt : ∀ x ∈ p1 ++ (p2 ++ (p3 ++ p4)), x.block < W.heap.size := fun x hx => by simpa using hW'.lt x (by simpa using hx)
  obtain ⟨b1, off1, us, hS1, hS2, rfl, _, _, hd1⟩ := open_tups h1
  obtain ⟨b2, off2, ms, hM1, hM2, rfl, _, _, hd2⟩ := open_tups h2
  obtain ⟨b3, off3, C, rest3, hC, rfl, ha3, hd3, _⟩ := open_intsS h3
  obtain ⟨b4, off4, K, rest4, hK, rfl, ha4, hd4, _⟩ := open_intsS h4
  have hk' : Rows.uptoBulkAll [(.lit (.int .i64 z) : DataW H), d1, d2, d3, d4] ≤ 1048576 := by
    have := of_decide_eq_true hk
    simpa using this
  simp only [Rows.uptoBulkAll] at hk'
  obtain ⟨s0, s1⟩ := bulk_tups hd1
  obtain ⟨m0, m1⟩ := bulk_tups hd2
  have s3 := bulk_ints hd3
  have s4 := bulk_ints hd4
  have hU : L.TupsA W a1 b1 off1 us := ⟨hS1, fun j hj => ⟨(hS2 j hj).1, (hS2 j hj).2.1⟩, by omega, fun u hu => by have := s1 u hu; omega⟩
  have hM : L.TupsA W a2 b2 off2 ms := ⟨hM1, fun j hj => ⟨(hM2 j hj).1, (hM2 j hj).2.1⟩, by omega, fun u hu => by have := m1 u hu; omega⟩
  have hwalk : Calls Try.prog 3 #[.int .i64 z, .slice a1 us.length cap1, .slice a2 ms.length cap2, .slice a3 C.length cap3, .slice a4 K.length cap4] W fun e w' => e = .returned (.bool true) ∧ Stay W w' := by
    by_cases hz : z < 0 ∨ 16 < z
    · exact L.mean_bad W z hz a1 us.length cap1 (by omega) _ _ _ _ _
    · obtain ⟨ar, rfl⟩ : ∃ ar : Nat, z = ar := ⟨z.toNat, by omega⟩
      exact L.mean_any W (by omega) a1 b1 off1 cap1 us hU a2 b2 off2 cap2 ms hM a3 b3 off3 cap3 C hC (by omega) a4 b4 off4 cap4 K hK (by omega)
  refine hwalk.mono fun e W' ⟨he, bel0⟩ => ?_
  have bel : Below W.heap.size W W' := bel0
  subst he
  exact ⟨_, rfl, _, _, _, [], [] ++ (p1 ++ (p2 ++ (p3 ++ p4))), [], hW', trodAll_mk1 (shut_bool Try.underlying4 _),
    trodAll_cons_mk (shut_int Try.underlying3 hwz)
      (trodAll_cons_mk (Below.trod laidOut (by kernel_rfl) (of_decide_eq_true (by kernel_rfl)) h1 bel (fun x hx => hlt x (by simp [hx])))
        (trodAll_cons_mk (Below.trod laidOut (by kernel_rfl) (of_decide_eq_true (by kernel_rfl)) h2 bel (fun x hx => hlt x (by simp [hx])))
          (trodAll_cons_mk (Below.trod laidOut (by kernel_rfl) (of_decide_eq_true (by kernel_rfl)) h3 bel (fun x hx => hlt x (by simp [hx])))
            (trodAll_mk1 (Below.trod laidOut (by kernel_rfl) (of_decide_eq_true (by kernel_rfl)) h4 bel (fun x hx => hlt x (by simp [hx]))))))),
    rfl, bel.frame _, fun h => by cases h⟩

theorem relationMeanwhile_holds : Rows.RelationMeanwhileUptoSaid :=
  OpenClaim.holds_of_cond 3 Try.f3 rfl rfl rfl rfl rfl rfl rfl ⟨rfl, rfl, rfl, rfl, rfl⟩ rfl rfl rfl rfl rfl (by kernel_rfl) Try.func3 (by kernel_rfl)
    (of_decide_eq_true (by kernel_rfl)) (by unfold Func.isWrapper; first | (rw [if_pos (by decide +kernel)]; kernel_rfl) | (rw [if_neg (by decide +kernel)]; exact ⟨rfl, rfl⟩))
    (fun os started H enc _ F => rmean_lifted os started H enc F)
#print axioms relationMeanwhile_holds
end Go.Proofs.Ytnhmjheipfopoaa
