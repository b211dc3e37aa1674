/- Heaps, plainly: what a swap on the way up or down leaves; no walk here. -/
import Derived.Test.YtnmaldgmlkcliaaA
namespace Go.Proofs.Ytnmaldgmlkcliaa

/-- An order by a Bool: a comes ahead of b. -/
structure Ahd {α : Type} (lt : α → α → Bool) : Prop where
  asym : ∀ a b, lt a b = true → lt b a = false
  trans : ∀ a b c, lt a b = true → lt b c = true → lt a c = true
  ntrans : ∀ a b c, lt a b = false → lt b c = false → lt a c = false

/-- Places i and j of l changed. -/
def swapL {α : Type} (l : List α) (i j : Nat) (x y : α) : List α := (l.set i y).set j x

section
variable {α : Type} {lt : α → α → Bool}

/-- No element comes ahead of the one over it. -/
def IsHeap (lt : α → α → Bool) (l : List α) : Prop := ∀ k x y, 0 < k → l[k]? = some x → l[(k - 1) / 2]? = some y → lt x y = false
/-- As a heap, but at i, toward 0. -/
def Up (lt : α → α → Bool) (l : List α) (i : Nat) : Prop :=
  (∀ k x y, 0 < k → k ≠ i → l[k]? = some x → l[(k - 1) / 2]? = some y → lt x y = false) ∧
  (∀ k x y, 0 < k → 0 < i → (k - 1) / 2 = i → l[k]? = some x → l[(i - 1) / 2]? = some y → lt x y = false)
/-- As a heap, but below i. -/
def Down (lt : α → α → Bool) (l : List α) (i : Nat) : Prop :=
  (∀ k x y, 0 < k → (k - 1) / 2 ≠ i → l[k]? = some x → l[(k - 1) / 2]? = some y → lt x y = false) ∧
  (∀ k x y, 0 < k → 0 < i → (k - 1) / 2 = i → l[k]? = some x → l[(i - 1) / 2]? = some y → lt x y = false)

theorem swap_get {l : List α} {i j : Nat} {x y : α} (hi : l[i]? = some x) (hj : l[j]? = some y) (k : Nat) :
    (swapL l i j x y)[k]? = if k = j then some x else if k = i then some y else l[k]? := by
  have h1 := (List.getElem?_eq_some_iff.1 hi).1
  have h2 := (List.getElem?_eq_some_iff.1 hj).1
  unfold swapL
  rw [List.getElem?_set, List.getElem?_set]
  by_cases e : k = j
  · subst e; simp [h2]
  · by_cases e' : k = i
    · subst e'; simp [h1, e, Ne.symm e]
    · simp [e, e', Ne.symm e, Ne.symm e']
theorem swap_len (l : List α) (i j : Nat) (x y : α) : (swapL l i j x y).length = l.length := by simp [swapL]
theorem swap_perm {l : List α} {i j : Nat} {x y : α} (hi : l[i]? = some x) (hj : l[j]? = some y) : (swapL l i j x y).Perm l := by
  have h1 := (List.getElem?_eq_some_iff.1 hi).1
  have h2 := (List.getElem?_eq_some_iff.1 hj).1
  have e1 : l[i] = x := (List.getElem?_eq_some_iff.1 hi).2
  have e2 : l[j] = y := (List.getElem?_eq_some_iff.1 hj).2
  unfold swapL
  rw [← e1, ← e2]
  exact List.set_set_perm h1 h2

theorem up_start {l : List α} {x : α} (h : IsHeap lt l) : Up lt (l ++ [x]) l.length := by
  refine ⟨fun k a b hk hne ha hb => ?_, fun k a b hk h0 e ha hb => ?_⟩
  · have hl := (List.getElem?_eq_some_iff.1 ha).1
    simp at hl
    rw [List.getElem?_append_left (by omega)] at ha hb
    exact h k a b hk ha hb
  · have hl := (List.getElem?_eq_some_iff.1 ha).1
    simp at hl
    omega
theorem up_zero {l : List α} (h : Up lt l 0) : IsHeap lt l := fun k x y hk hx hy => h.1 k x y hk (by omega) hx hy
theorem up_done {l : List α} {i : Nat} {x y : α} (h : Up lt l i) (hi : l[i]? = some x) (ho : l[(i - 1) / 2]? = some y) (hn : lt x y = false) : IsHeap lt l := fun k a b hk ha hb => by
  by_cases e : k = i
  · subst e
    rw [hi] at ha; rw [ho] at hb
    cases ha; cases hb; exact hn
  · exact h.1 k a b hk e ha hb
theorem up_step (hO : Ahd lt) {l : List α} {i : Nat} {x y : α} (h : Up lt l i) (h0 : 0 < i) (hi : l[i]? = some x) (ho : l[(i - 1) / 2]? = some y) (ha : lt x y = true) : Up lt (swapL l i ((i - 1) / 2) x y) ((i - 1) / 2) := by
  have hne : (i - 1) / 2 ≠ i := by omega
  refine ⟨fun k a b hk hko hka hkb => ?_, fun k a b hk ho0 hpk hka hkb => ?_⟩
  · rw [swap_get hi ho] at hka hkb
    rw [if_neg hko] at hka
    by_cases e : k = i
    · rw [if_pos e] at hka
      rw [e, if_pos rfl] at hkb
      cases hka; cases hkb
      exact hO.asym _ _ ha
    · rw [if_neg e] at hka
      by_cases e2 : (k - 1) / 2 = (i - 1) / 2
      · rw [if_pos e2] at hkb
        cases hkb
        have h1 : lt a y = false := h.1 k a y hk e hka (by rw [e2]; exact ho)
        cases h2 : lt a x with
        | false => rfl
        | true => rw [hO.trans _ _ _ h2 ha] at h1; cases h1
      · rw [if_neg e2] at hkb
        by_cases e3 : (k - 1) / 2 = i
        · rw [if_pos e3] at hkb
          cases hkb
          exact h.2 k a y hk h0 e3 hka ho
        · rw [if_neg e3] at hkb
          exact h.1 k a b hk e hka hkb
  · rw [swap_get hi ho] at hka hkb
    rw [if_neg (show ¬ ((i - 1) / 2 - 1) / 2 = (i - 1) / 2 by omega), if_neg (show ¬ ((i - 1) / 2 - 1) / 2 = i by omega)] at hkb
    rw [if_neg (show ¬ k = (i - 1) / 2 by omega)] at hka
    have hyb : lt y b = false := h.1 ((i - 1) / 2) y b ho0 hne ho hkb
    by_cases e : k = i
    · rw [if_pos e] at hka
      cases hka
      exact hyb
    · rw [if_neg e] at hka
      exact hO.ntrans _ _ _ (h.1 k a y hk e hka (by rw [hpk]; exact ho)) hyb

/-- f is the least of i and of those under it that were seen (below u). -/
def Least3 (lt : α → α → Bool) (l : List α) (i u f : Nat) : Prop :=
  (f = i ∨ (f - 1) / 2 = i ∧ 0 < f ∧ f < u) ∧ ∀ k x y, (k = i ∨ (k - 1) / 2 = i ∧ 0 < k ∧ k < u) → l[k]? = some x → l[f]? = some y → lt x y = false
theorem least_start (hO : Ahd lt) (l : List α) (i : Nat) : Least3 lt l i (2 * i + 1) i := by
  refine ⟨.inl rfl, fun k x y hk hx hy => ?_⟩
  rcases hk with rfl | ⟨h1, h2, h3⟩
  · rw [hx] at hy; cases hy
    cases h : lt x x with
    | false => rfl
    | true => rw [hO.asym _ _ h] at h; exact h.symm
  · omega
theorem least_same {l : List α} {i u f : Nat} {x y : α} (h : Least3 lt l i u f) (hu : (u - 1) / 2 = i) (h0 : 0 < u) (hx : l[u]? = some x) (hy : l[f]? = some y) (hn : lt x y = false) : Least3 lt l i (u + 1) f := by
  refine ⟨?_, fun k a b hk ha hb => ?_⟩
  · rcases h.1 with h1 | ⟨h1, h2, h3⟩
    · exact .inl h1
    · exact .inr ⟨h1, h2, by omega⟩
  · by_cases e : k = u
    · subst e
      rw [hx] at ha; rw [hy] at hb; cases ha; cases hb; exact hn
    · exact h.2 k a b (by rcases hk with hk | ⟨h1, h2, h3⟩; · exact .inl hk
                          · exact .inr ⟨h1, h2, by omega⟩) ha hb
theorem least_less (hO : Ahd lt) {l : List α} {i u f : Nat} {x y : α} (h : Least3 lt l i u f) (hu : (u - 1) / 2 = i) (h0 : 0 < u) (hx : l[u]? = some x) (hy : l[f]? = some y) (hn : lt x y = true) : Least3 lt l i (u + 1) u := by
  refine ⟨.inr ⟨hu, h0, by omega⟩, fun k a b hk ha hb => ?_⟩
  rw [hx] at hb; cases hb
  by_cases e : k = u
  · subst e
    rw [hx] at ha; cases ha
    cases h : lt x x with
    | false => rfl
    | true => rw [hO.asym _ _ h] at h; exact h.symm
  · have h1 := h.2 k a y (by rcases hk with hk | ⟨h1, h2, h3⟩; · exact .inl hk
                             · exact .inr ⟨h1, h2, by omega⟩) ha hy
    cases h2 : lt a x with
    | false => rfl
    | true => rw [hO.trans _ _ _ h2 hn] at h1; cases h1
theorem down_done {l : List α} {i u : Nat} (h : Down lt l i) (hL : Least3 lt l i u i) (hu : ∀ k, (k - 1) / 2 = i → 0 < k → k < l.length → k < u) : IsHeap lt l := fun k x y hk hx hy => by
  by_cases e : (k - 1) / 2 = i
  · exact hL.2 k x y (.inr ⟨e, hk, hu k e hk (List.getElem?_eq_some_iff.1 hx).1⟩) hx (by rw [← e]; exact hy)
  · exact h.1 k x y hk e hx hy
theorem down_step {l : List α} {i u f : Nat} {x y : α} (h : Down lt l i) (hL : Least3 lt l i u f) (hne : f ≠ i) (hu : ∀ k, (k - 1) / 2 = i → 0 < k → k < l.length → k < u) (hi : l[i]? = some x) (hf : l[f]? = some y) : Down lt (swapL l i f x y) f := by
  obtain ⟨hfi, hf0⟩ : (f - 1) / 2 = i ∧ 0 < f := by
    rcases hL.1 with h1 | ⟨h1, h2, _⟩
    · exact absurd h1 hne
    · exact ⟨h1, h2⟩
  refine ⟨fun k a b hk hkf hka hkb => ?_, fun k a b hk h0 hkf hka hkb => ?_⟩
  · rw [swap_get hi hf] at hka hkb
    rw [if_neg hkf] at hkb
    by_cases e : k = f
    · rw [if_pos e] at hka
      rw [e, if_pos hfi] at hkb
      cases hka; cases hkb
      exact hL.2 i x y (.inl rfl) hi hf
    · rw [if_neg e] at hka
      by_cases e2 : k = i
      · rw [if_pos e2] at hka
        cases hka
        rw [e2] at hkb hk
        rw [if_neg (show ¬ (i - 1) / 2 = i by omega)] at hkb
        exact h.2 f y b hf0 hk hfi hf hkb
      · rw [if_neg e2] at hka
        by_cases e3 : (k - 1) / 2 = i
        · rw [if_pos e3] at hkb
          cases hkb
          exact hL.2 k a y (.inr ⟨e3, hk, hu k e3 hk (List.getElem?_eq_some_iff.1 hka).1⟩) hka hf
        · rw [if_neg e3] at hkb
          exact h.1 k a b hk e3 hka hkb
  · rw [swap_get hi hf] at hka hkb
    rw [if_neg (show ¬ k = f by omega), if_neg (show ¬ k = i by omega)] at hka
    rw [hfi, if_neg (Ne.symm hne), if_pos rfl] at hkb
    cases hkb
    exact h.1 k a y hk (by omega) hka (by rw [hkf]; exact hf)
theorem heap_least (hO : Ahd lt) {l : List α} (h : IsHeap lt l) {y : α} (hy : l[0]? = some y) : ∀ (k : Nat) (x : α), l[k]? = some x → lt x y = false := by
  intro k
  induction k using Nat.strongRecOn with
  | ind k ih =>
    intro x hx
    by_cases e : k = 0
    · subst e
      rw [hx] at hy; cases hy
      cases h : lt y y with
      | false => rfl
      | true => rw [hO.asym _ _ h] at h; exact h.symm
    · have hl := (List.getElem?_eq_some_iff.1 hx).1
      have hp : l[(k - 1) / 2]? = some (l[(k - 1) / 2]'(by omega)) := List.getElem?_eq_getElem (by omega)
      exact hO.ntrans _ _ _ (h k x _ (by omega) hx hp) (ih ((k - 1) / 2) (by omega) _ hp)
/-- The last in the place of the first. -/
theorem down_start {l : List α} {r : List α} (h : IsHeap lt l) (hr : ∀ k, 0 < k → k < r.length → r[k]? = l[k]?) : Down lt r 0 := by
  refine ⟨fun k a b hk hp ha hb => ?_, fun k a b hk h0 => by omega⟩
  have hk2 := (List.getElem?_eq_some_iff.1 ha).1
  rw [hr k hk hk2] at ha
  rw [hr _ (by omega) (by omega)] at hb
  exact h k a b hk ha hb
end
end Go.Proofs.Ytnmaldgmlkcliaa
