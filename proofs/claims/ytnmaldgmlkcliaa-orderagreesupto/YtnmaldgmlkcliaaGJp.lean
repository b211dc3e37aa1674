/- A list that rises and has the things in their order is the sorted one. No walk here. -/
import Derived.Test.YtnmaldgmlkcliaaGA
import Derived.Test.YtnmaldgmlkcliaaTC
namespace Go.Proofs.Ytnmaldgmlkcliaa
open Go.RowKit Go.Maps

theorem rises_risk {l : List (Int × Int)} : Rises l ↔ RisK (fun x => x.1) l := Iff.rfl
theorem insR_eqv (out : List (Int × Int)) (x : Int × Int) (h : Rises out) : Eqv (fun x => x.1) (out ++ [x]) (insR out x) := by
  obtain ⟨k, hk, h1, h2⟩ := insR_place h x
  rw [insR_at hk h1 h2]
  have e : out ++ [x] = out.take k ++ (out.drop k ++ [x]) := by rw [← List.append_assoc, List.take_append_drop]
  rw [e]
  refine (Eqv.refl _).append ?_
  have := Eqv.swap (κ := fun x : Int × Int => x.1) (a := out.drop k) (b := [x]) (fun a ha b hb => by
    simp only [List.mem_singleton] at hb
    subst hb
    obtain ⟨j, hj, rfl⟩ := List.mem_iff_getElem.1 ha
    rw [List.length_drop] at hj
    rw [List.getElem_drop]
    exact h2 (k + j) (by omega) (by omega))
  exact this
theorem foldl_eqv : ∀ (l out : List (Int × Int)), Rises out → Eqv (fun x => x.1) (out ++ l) (l.foldl insR out) ∧ Rises (l.foldl insR out)
  | [], out, h => ⟨by rw [List.append_nil]; exact Eqv.refl _, h⟩
  | x :: l, out, h => by
    have hr : Rises (insR out x) := insR_rises h x
    have ih := foldl_eqv l (insR out x) hr
    refine ⟨?_, ih.2⟩
    have e : out ++ x :: l = out ++ [x] ++ l := by simp
    rw [e]
    exact ((insR_eqv out x h).append (Eqv.refl l)).trans ih.1
theorem sortR_eqv (l : List (Int × Int)) : Eqv (fun x => x.1) l (sortR l) := by
  have := (foldl_eqv l [] List.Pairwise.nil).1
  simpa [sortR] using this
/-- A list that rises and has the things in their order is the sorted one. -/
theorem sorted_is {l Z : List (Int × Int)} (h : RisK (fun x => x.1) Z) (k : Eqv (fun x => x.1) l Z) : Z = sortR l := eqv_unique h (sortR_rises l) (k.symm.trans (sortR_eqv l))
theorem none_is {l Z : List (Int × Int)} (k : Eqv (fun _ => (0 : Int)) l Z) : Z = l := by
  have h1 : ∀ m : List (Int × Int), m.filter (fun x => (fun _ => (0 : Int)) x == 0) = m := fun m => List.filter_eq_self.2 (fun _ _ => rfl)
  have := k 0
  rw [h1, h1] at this
  exact this.symm

end Go.Proofs.Ytnmaldgmlkcliaa
