/- Several lists that rise, merged one thing after the other, plainly. No walk here. -/
import Derived.Test.YtnmaldgmlkcliaaGA
namespace Go.Proofs.Ytnmaldgmlkcliaa

/-- What is out, and what is left of each list. -/
structure Mg (κ : Int × Int → Int) (all out : List (Int × Int)) (rs : List (List (Int × Int))) : Prop where
  rises : RisK κ out
  rest : ∀ r ∈ rs, RisK κ r
  below : ∀ x ∈ out, ∀ r ∈ rs, ∀ y ∈ r, κ x ≤ κ y
  eqv : Eqv κ all (out ++ rs.flatten)
  len : out.length + rs.flatten.length = all.length

section
variable {κ : Int × Int → Int} {all out : List (Int × Int)} {rs : List (List (Int × Int))}
theorem Mg.start (h : ∀ r ∈ rs, RisK κ r) : Mg κ rs.flatten [] rs :=
  ⟨List.Pairwise.nil, h, (fun x hx => by cases hx), (by rw [List.nil_append]; exact Eqv.refl _), (by simp)⟩
theorem Mg.done (h : Mg κ all out rs) (he : ∀ r ∈ rs, r = []) : RisK κ out ∧ Eqv κ all out ∧ out.length = all.length := by
  have hf : rs.flatten = [] := List.flatten_eq_nil_iff.2 he
  have e := h.eqv
  have l := h.len
  rw [hf, List.append_nil] at e
  rw [hf] at l
  exact ⟨h.rises, e, by simpa using l⟩
/-- The first of the heads goes out: none is below it, and those of the lists ahead are above it. -/
theorem Mg.step (h : Mg κ all out rs) (i : Nat) (x : Int × Int) (r : List (Int × Int)) (hi : rs[i]? = some (x :: r))
    (hle : ∀ (j : Nat) (y : Int × Int) (r' : List (Int × Int)), rs[j]? = some (y :: r') → κ x ≤ κ y) (hlt : ∀ (j : Nat) (y : Int × Int) (r' : List (Int × Int)), j < i → rs[j]? = some (y :: r') → κ x < κ y) : Mg κ all (out ++ [x]) (rs.set i r) := by
  obtain ⟨hl, hx⟩ := List.getElem?_eq_some_iff.1 hi
  have hall : ∀ r' ∈ rs, ∀ y ∈ r', κ x ≤ κ y := fun r' hr' y hy => by
    obtain ⟨j, hj, rfl⟩ := List.mem_iff_getElem.1 hr'
    have hris := h.rest _ hr'
    have hp := List.length_pos_of_mem hy
    have h1 := hle j (rs[j][0]) (rs[j].tail) (by rw [List.getElem?_eq_getElem hj]; congr 1; exact (List.cons_head_tail (List.ne_nil_of_length_pos hp)).symm.trans (by rw [List.head_eq_getElem]))
    have h2 := hris.first_le hp y hy
    omega
  have hahead : ∀ y ∈ (rs.take i).flatten, κ x < κ y := fun y hy => by
    obtain ⟨r', hr', hy'⟩ := List.mem_flatten.1 hy
    obtain ⟨j, hj, rfl⟩ := List.mem_iff_getElem.1 hr'
    rw [List.length_take] at hj
    rw [List.getElem_take] at hy'
    have hj' : j < rs.length := by omega
    have hris := h.rest _ (List.getElem_mem hj')
    have hp := List.length_pos_of_mem hy'
    have h1 := hlt j (rs[j][0]) (rs[j].tail) (by omega) (by rw [List.getElem?_eq_getElem hj']; congr 1; exact (List.cons_head_tail (List.ne_nil_of_length_pos hp)).symm.trans (by rw [List.head_eq_getElem]))
    have h2 := hris.first_le hp y hy'
    omega
  have hsplit : rs.flatten = (rs.take i).flatten ++ (x :: r) ++ (rs.drop (i + 1)).flatten := by
    conv => lhs; rw [← List.take_append_drop i rs, List.drop_eq_getElem_cons hl, hx]
    simp
  have hset : (rs.set i r).flatten = (rs.take i).flatten ++ r ++ (rs.drop (i + 1)).flatten := by
    rw [List.set_eq_take_append_cons_drop, if_pos hl]
    simp
  have hxr : RisK κ (x :: r) := h.rest _ (hx ▸ List.getElem_mem hl)
  have hmem : ∀ r' ∈ rs.set i r, ∀ y ∈ r', ∃ s ∈ rs, y ∈ s := fun r' hr' y hy => by
    rcases List.mem_or_eq_of_mem_set hr' with h1 | h1
    · exact ⟨r', h1, hy⟩
    · subst h1
      exact ⟨_, List.getElem_mem hl, by rw [hx]; exact List.mem_cons_of_mem _ hy⟩
  refine ⟨h.rises.append (RisK.one x) (fun a ha b hb => ?_), fun r' hr' => ?_, fun a ha r' hr' y hy => ?_, ?_, ?_⟩
  · simp only [List.mem_singleton] at hb
    subst hb
    exact h.below a ha _ (List.getElem_mem hl) b (by rw [hx]; exact List.mem_cons_self)
  · rcases List.mem_or_eq_of_mem_set hr' with h1 | h1
    · exact h.rest _ h1
    · subst h1; exact (List.pairwise_cons.1 hxr).2
  · obtain ⟨s, hs, hy'⟩ := hmem r' hr' y hy
    rcases List.mem_append.1 ha with h1 | h1
    · exact h.below a h1 s hs y hy'
    · simp only [List.mem_singleton] at h1
      subst h1
      exact hall s hs y hy'
  · refine h.eqv.trans ?_
    rw [hsplit, hset]
    have e := Eqv.swap (κ := κ) (a := (rs.take i).flatten) (b := [x]) (fun a ha b hb => by simp only [List.mem_singleton] at hb; subst hb; exact hahead a ha)
    have := (Eqv.refl out).append (e.append (Eqv.refl (κ := κ) (r ++ (rs.drop (i + 1)).flatten)))
    simpa only [List.append_assoc, List.cons_append, List.nil_append, List.singleton_append] using this
  · have := h.len
    rw [hsplit] at this
    rw [hset]
    simp only [List.length_append, List.length_cons, List.length_nil] at *
    omega
end
end Go.Proofs.Ytnmaldgmlkcliaa
