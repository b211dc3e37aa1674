/- Faults of a program and of its like; the first of them is what Check tells; lists of faults held against one another. -/
import Derived.Test.YtpnjmldbohecdaaEH
import Derived.Test.YtpnjmldbohecdaaCH
namespace Go.Proofs.Ytpnjmldbohecdaa
open Go.RowKit Go.Maps Go.Shelf

/-- What Check tells of faults. -/
def firstF : List (Int × Int × ByteArray) → Int × ByteArray × Int
  | [] => (0, ⟨#[]⟩, 0)
  | p :: _ => (p.1, p.2.2, 14)
theorem check_faults : ∀ (k : Nat) (rs : List Ru), checkF k rs = firstF (faultsF k rs)
  | _, [] => rfl
  | k, r :: rs => by
    unfold checkF faultsF ruleB ruleN
    cases looseP r with
    | nil =>
      rw [noneB, if_pos rfl, List.map_nil, List.nil_append]
      exact check_faults (k + 1) rs
    | cons q qs => rfl
theorem likes_cons {a b : Li} {us vs : List Li} (h : likes (a :: us) (b :: vs)) : a.like b ∧ likes us vs :=
  ⟨h.2 0 (by simp) (by simp), by have := h.1; simpa using this, fun j h1 h2 => by have := h.2 (j + 1) (by simpa using h1) (by simpa using h2); simpa using this⟩
theorem terms_like {y x : Li} (h : y.like x) : y.terms = x.terms := by
  unfold Li.terms
  rw [h.1, h.2.1.2, h.2.2.1, h.2.2.2]
theorem placesB_like : ∀ (k : Nat) (us vs : List Li), likes us vs → placesB k us = placesB k vs
  | _, [], [], _ => rfl
  | _, [], b :: vs, h => by have := h.1; simp at this
  | _, a :: us, [], h => by have := h.1; simp at this
  | k, a :: us, b :: vs, h => by
    obtain ⟨h1, h2⟩ := likes_cons h
    rw [placesB, placesB, terms_like h1, placesB_like (k + 1) us vs h2]
theorem kinds_like {us vs : List Li} (h : likes us vs) (i : Nat) : (us[i]?.map (·.kind)) = (vs[i]?.map (·.kind)) := by
  by_cases h1 : i < us.length
  · have h2 : i < vs.length := by rw [← h.1]; exact h1
    rw [List.getElem?_eq_getElem h1, List.getElem?_eq_getElem h2]
    exact congrArg some (h.2 i h1 h2).1
  · rw [List.getElem?_eq_none (by omega), List.getElem?_eq_none (by have := h.1; omega)]
theorem bindC_like {us vs : List Li} (h : likes us vs) (p : Int × ByteArray) : bindC us [] p = bindC vs [] p := by
  have hk := kinds_like h p.1.toNat
  unfold bindC
  cases h1 : us[p.1.toNat]? <;> cases h2 : vs[p.1.toNat]? <;> simp_all
theorem bindP_like {us vs : List Li} (h : likes us vs) : bindP us = bindP vs := by
  rw [bindP_eq, bindP_eq, placesB_like 0 us vs h]
  congr 1
  funext p
  exact bindC_like h p
theorem placesR_like {y x : Ru} (h : y.like x) : placesR y = placesR x := by
  unfold placesR
  rw [h.1.2, placesB_like 0 _ _ h.2]
theorem looseP_like {y x : Ru} (h : y.like x) : looseP y = looseP x := by
  rw [looseP_lf, looseP_lf, placesR_like h, bindP_like h.2]
theorem faultsF_like : ∀ (k : Nat) (us vs : List Ru), us.length = vs.length → (∀ j (h1 : j < us.length) (h2 : j < vs.length), us[j].like vs[j]) → faultsF k us = faultsF k vs
  | _, [], [], _, _ => rfl
  | _, [], b :: vs, h, _ => by simp at h
  | _, a :: us, [], h, _ => by simp at h
  | k, a :: us, b :: vs, h, hl => by
    have h0 : a.like b := hl 0 (by simp) (by simp)
    rw [faultsF, faultsF, looseP_like h0, faultsF_like (k + 1) us vs (by simpa using h) fun j h1 h2 => by have := hl (j + 1) (by simpa using h1) (by simpa using h2); simpa using this]
/-- How many faults there can be. -/
theorem placesB_mass : ∀ (k : Nat) (ls : List Li), (placesB k ls).length ≤ (ls.map (fun l => l.atom.ts.length + 3)).sum
  | _, [] => by simp [placesB]
  | k, l :: ls => by
    have h1 := placesB_mass (k + 1) ls
    have h2 := varsT_len l.terms
    have h3 := Li.terms_len l
    simp only [placesB, List.length_append, List.length_map, List.map_cons, List.sum_cons]
    omega
theorem faults_mass : ∀ (k : Nat) (rs : List Ru), (faultsF k rs).length ≤ (rs.map (fun x => x.head.ts.length + (x.body.map (fun l => l.atom.ts.length + 3)).sum + 1)).sum
  | _, [] => by simp [faultsF]
  | k, r :: rs => by
    have h1 := faults_mass (k + 1) rs
    have h2 : (looseP r).length ≤ (placesR r).length := by rw [looseP_lf]; exact lf_sub _ _
    have h3 := placesB_mass 0 r.body
    have h4 := varsT_len r.head.ts
    simp only [placesR, List.length_append, List.length_map] at h2
    simp only [faultsF, List.length_append, List.length_map, List.map_cons, List.sum_cons]
    omega

theorem fieldsLo : Try.prog.underlying 45 = some (.struct (Try.prog.fieldsOf 45)) := by kernel_rfl
theorem heldLo : Try.prog.stoodInHeld 45 = false := by kernel_rfl
theorem guardLo : Try.prog.eqGuardType Try.prog.depth 45 = false := by kernel_rfl
theorem neqLo (x1 x2 : Int) (x3 : ByteArray) (w : World) : (binOp .neq 45 (.agg #[.int .i64 x1, .int .i64 x2, .string x3]) (.agg #[.int .i64 x1, .int .i64 x2, .string x3])).run Try.prog w = .ok (.bool false) w := by
  have u3 := Try.underlying3
  have a3 := Try.isAgg3
  have z3 := Try.sizeOf3
  have u9 := Try.underlying9
  have a9 := Try.isAgg9
  have z9 := Try.sizeOf9
  rw [run_neq_struct, show (10000 : Nat) = 9999 + 1 from rfl, run_equalIn_agg w 9999 45 _ _ fieldsLo heldLo]
  simp only [Program.fieldsOf, Try.underlying45]
  go_simp
end Go.Proofs.Ytpnjmldbohecdaa
