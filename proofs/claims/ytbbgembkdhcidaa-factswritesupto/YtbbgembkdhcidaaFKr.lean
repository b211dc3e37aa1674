/- full's first two loops, plainly: marks written into the lists. No walk here. -/
import Derived.Test.YtbbgembkdhcidaaFKq
namespace Go.Proofs.Ytbbgembkdhcidaa
open Go.RowKit Go.Maps

theorem row_spot {w : World} {base : Nat} {e : TypeId} {v : Value} {xs : List Value} (h : w.ownsRow base e 1 v xs.length xs) : ∃ a c, v = .slice a xs.length c ∧ (0 < xs.length → ∃ g, a = some ⟨g, 0, none⟩ ∧ v.ownBlock = some g) := by
  rcases h.2 with ⟨hv, hl⟩ | ⟨g, cap, cur, hv, _⟩
  · exact ⟨none, 0, by rw [hv, hl], fun h0 => by omega⟩
  · exact ⟨_, cap, hv, fun _ => ⟨g, rfl, by rw [hv]; rfl⟩⟩
/-- The lists ahead of k, and j texts of list k, are written. -/
structure Mk1 (W : World) (base : Nat) (v : Value) (us : List Value) (mark : ByteArray) (L : List Nat) (k j : Nat) (wr : World) : Prop where
  is : ∃ ts, OwnG base wr v us ts ∧ ts.map List.length = L ∧ (∀ i t, i < k → ts[i]? = some t → ∀ y ∈ t, y = mark) ∧ (∀ t, ts[k]? = some t → ∀ y ∈ t.take j, y = mark)
  turn : Turn (blkG v us) W wr
section
variable {W wr : World} {base : Nat} {v : Value} {us : List Value} {mark : ByteArray} {L : List Nat} {k j : Nat}
theorem Mk1.start {ts : List (List ByteArray)} (h : OwnG base W v us ts) : Mk1 W base v us mark (ts.map List.length) 0 0 W :=
  ⟨⟨ts, h, rfl, fun i t hi => absurd hi (Nat.not_lt_zero _), fun t _ y hy => by simp at hy⟩, Turn.refl _ _⟩
/-- A list is done. -/
theorem Mk1.next (h : Mk1 W base v us mark L k j wr) (hj : L[k]? = some j) : Mk1 W base v us mark L (k + 1) 0 wr := by
  obtain ⟨ts, h1, h2, h3, h4⟩ := h.is
  refine ⟨⟨ts, h1, h2, fun i t hi ht => ?_, fun t _ y hy => by simp at hy⟩, h.turn⟩
  by_cases hik : i < k
  · exact h3 i t hik ht
  · obtain rfl : i = k := by omega
    have hl : t.length = j := by
      rw [← h2, List.getElem?_map, ht] at hj
      simpa using hj
    have := h4 t ht
    rwa [List.take_of_length_le (by omega)] at this
/-- What list k is in memory. -/
theorem Mk1.at (h : Mk1 W base v us mark L k j wr) {m : Nat} (hm : L[k]? = some m) : ∃ ua uc, us[k]? = some (.slice ua m uc) ∧ (0 < m → ∃ G, ua = some ⟨G, 0, none⟩ ∧ ∀ i, i < m → ∃ x, wr.cell? ⟨G, i, none⟩ = some (.string x) ∧ wr.frozen? ⟨G, i, none⟩ = false) := by
  obtain ⟨ts, h1, h2, h3, h4⟩ := h.is
  rw [← h2, List.getElem?_map] at hm
  cases ht : ts[k]? with
  | none => rw [ht] at hm; cases hm
  | some t =>
    rw [ht] at hm
    have hl : t.length = m := by simpa using hm
    have hkl : k < us.length := by rw [h1.len]; exact (List.getElem?_eq_some_iff.1 ht).1
    have ho := h1.each k us[k] t (List.getElem?_eq_getElem hkl) ht
    obtain ⟨ua, uc, e, hsp⟩ := ho.spot
    refine ⟨ua, uc, by rw [List.getElem?_eq_getElem hkl, e, hl], fun h0 => ?_⟩
    obtain ⟨G, rfl, _⟩ := hsp (by omega)
    rw [e] at ho
    exact ⟨G, rfl, fun i hi => ⟨t[i]'(by omega), ho.at (List.getElem?_eq_getElem (by omega))⟩⟩
/-- One text is written. -/
theorem Mk1.set (h : Mk1 W base v us mark L k j wr) {G m c : Nat} (hu : us[k]? = some (.slice (some ⟨G, 0, none⟩) m c)) (hm : L[k]? = some m) (hj : j < m) : Mk1 W base v us mark L k (j + 1) (wr.setCell ⟨G, j, none⟩ (.string mark)) := by
  obtain ⟨ts, h1, h2, h3, h4⟩ := h.is
  have hm0 := hm
  rw [← h2, List.getElem?_map] at hm
  cases ht : ts[k]? with
  | none => rw [ht] at hm; cases hm
  | some t =>
    rw [ht] at hm
    have hl : t.length = m := by simpa using hm
    have hkl : k < ts.length := (List.getElem?_eq_some_iff.1 ht).1
    obtain ⟨g1, g2⟩ := h1.setAt hu ht j mark
    refine ⟨⟨_, g1, ?_, fun i t' hi ht' => ?_, fun t' ht' y hy => ?_⟩, h.turn.trans g2⟩
    · rw [List.map_set, List.length_set, h2, hl]
      exact List.ext_getElem? fun i => by
        by_cases hik : i = k
        · subst hik; rw [List.getElem?_set_self (by rw [← h2, List.length_map]; exact hkl), hm0]
        · rw [List.getElem?_set_ne (fun e => hik e.symm)]
    · rw [List.getElem?_set_ne (by omega)] at ht'
      exact h3 i t' hi ht'
    · rw [List.getElem?_set_self hkl] at ht'
      cases ht'
      rw [List.take_succ_eq_append_getElem (by rw [List.length_set]; omega), List.mem_append] at hy
      rcases hy with hy | hy
      · rw [List.take_set_of_le (Nat.le_refl _)] at hy
        exact h4 t ht y hy
      · rw [List.getElem_set_self] at hy
        simpa using hy
/-- All are written. -/
theorem Mk1.done (h : Mk1 W base v us mark L k j wr) (hk : L.length ≤ k) : ∃ ts, OwnG base wr v us ts ∧ ts.map List.length = L ∧ (∀ t ∈ ts, ∀ y ∈ t, y = mark) ∧ Turn (blkG v us) W wr := by
  obtain ⟨ts, h1, h2, h3, h4⟩ := h.is
  refine ⟨ts, h1, h2, fun t ht => ?_, h.turn⟩
  obtain ⟨i, hi, rfl⟩ := List.mem_iff_getElem.1 ht
  refine h3 i _ ?_ (List.getElem?_eq_getElem hi)
  have : ts.length = L.length := by rw [← h2, List.length_map]
  omega
end
end Go.Proofs.Ytbbgembkdhcidaa
