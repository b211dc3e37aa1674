/- Lists of texts of one's own, read, written and grown. No walk here. -/
import Derived.Test.YtbbgembkdhcidaaFZ
namespace Go.Proofs.Ytbbgembkdhcidaa
open Go.RowKit Go.Maps

section
variable {base : Nat} {w w' : World} {v : Value} {l : List ByteArray}
theorem OwnS.spot (h : OwnS base w v l) : ∃ a c, v = .slice a l.length c ∧ (0 < l.length → ∃ G, a = some ⟨G, 0, none⟩ ∧ base ≤ G) := by
  rcases h.2 with ⟨hv, hl⟩ | ⟨g, cap, cur, hv, hb, hh, h1, h2, h3, h4⟩
  · exact ⟨none, 0, by rw [hv, hl], fun h0 => by omega⟩
  · exact ⟨_, cap, hv, fun _ => ⟨g, rfl, hb⟩⟩
theorem OwnS.at {G n c : Nat} (h : OwnS base w (.slice (some ⟨G, 0, none⟩) n c) l) {j : Nat} {x : ByteArray} (hj : l[j]? = some x) : w.cell? ⟨G, j, none⟩ = some (.string x) ∧ w.frozen? ⟨G, j, none⟩ = false := by
  obtain rfl : n = l.length := by
    rcases h.2 with ⟨hv, hl⟩ | ⟨g, cap, cur, hv, hb, hh, h1, h2, h3, h4⟩
    · cases hv
    · simp only [Value.slice.injEq] at hv; exact hv.2.1
  refine ⟨row_cell h j _ (by rw [List.getElem?_map, hj]; rfl), ?_⟩
  rcases h.2 with ⟨hv, hl⟩ | ⟨g, cap, cur, hv, hb, hh, h1, h2, h3, h4⟩
  · cases hv
  · simp only [Value.slice.injEq, Option.some.injEq, Addr.mk.injEq, and_true] at hv
    obtain ⟨rfl, _⟩ := hv
    simp [World.frozen?, hh]
theorem OwnS.set {G n c : Nat} (h : OwnS base w (.slice (some ⟨G, 0, none⟩) n c) l) (j : Nat) (x : ByteArray) : OwnS base (w.setCell ⟨G, j, none⟩ (.string x)) (.slice (some ⟨G, 0, none⟩) n c) (l.set j x) := by
  refine ⟨by simp, ?_⟩
  rcases h.2 with ⟨hv, hl⟩ | ⟨g, cap, cur, hv, hb, hh, h1, h2, h3, h4⟩
  · cases hv
  · simp only [Value.slice.injEq, Option.some.injEq, Addr.mk.injEq, and_true] at hv
    obtain ⟨rfl, rfl, rfl⟩ := hv
    refine .inr ⟨G, c, _, by simp, hb, heap_setCell_same w G j cur _ _ hh, by simpa using h1, h2, by simpa using h3, ?_⟩
    rw [List.length_set, Array.toList_setIfInBounds, List.take_set, h4, List.map_set]
/-- Two lists of one's own that say the same. -/
theorem same_own {b1 b2 : Nat} {v1 v2 : Value} (h1 : OwnS b1 w v1 l) (h2 : OwnS b2 w v2 l) (hl : l.length ≤ maxLen) : Calls Try.prog 24 #[v1, v2] w fun e w' => e = .returned (.bool true) ∧ Stay w w' := by
  obtain ⟨⟨a, b, o, c, xs⟩, rfl, e, hS, _⟩ := h1.tx
  obtain ⟨⟨a', b', o', c', ys⟩, rfl, e', hS', _⟩ := h2.tx
  dsimp only at e e'
  subst e e'
  refine (sameTexts_any w a a' b o b' o' c c' ys ys hS hS' hl hl).mono fun e w' h => ⟨by rw [h.1]; simp, ?_⟩
  obtain ⟨q, hq⟩ := h.2
  rw [hq]; exact Stay.drewN _ _
end
/-- A list that has grown out of one of one's own, v0: nothing else has turned since W0. -/
structure Grw (base : Nat) (W0 : World) (v0 : Value) (w : World) (v : Value) (l : List ByteArray) : Prop where
  own : OwnS base w v l
  turn : Turn (fun k => v0.ownBlock = some k) W0 w
  from0 : ∀ k, v.ownBlock = some k → v0.ownBlock = some k ∨ W0.heap.size ≤ k
section
variable {base : Nat} {W0 w : World} {v0 v : Value} {l : List ByteArray}
theorem Grw.refl (h : OwnS base w v l) : Grw base w v w v l := ⟨h, Turn.refl _ _, fun _ h => .inl h⟩
theorem Grw.set {G n c : Nat} (h : Grw base W0 v0 w (.slice (some ⟨G, 0, none⟩) n c) l) (j : Nat) (x : ByteArray) : Grw base W0 v0 (w.setCell ⟨G, j, none⟩ (.string x)) (.slice (some ⟨G, 0, none⟩) n c) (l.set j x) := by
  refine ⟨h.own.set j x, ?_, h.from0⟩
  have ht := h.turn
  exact ⟨ht.os, ht.tape, ht.output, by simpa [World.setCell] using ht.size, fun i hi hn => (Below.heap_setCell _ _ _ _ (by
    show i ≠ G
    intro e
    rcases h.from0 G rfl with e1 | e1
    · exact hn (e ▸ e1)
    · omega)).trans (ht.block i hi hn)⟩
theorem Grw.add (h : Grw base W0 v0 w v l) (x : ByteArray) (hb : (l.length + 1) * 16 ≤ 140737488355328) (hbase : base ≤ w.heap.size) :
    ∃ v' w', (Builtin.append_ #[39, 39] 39 #[v, .slice (some ⟨w.heap.size, 0, none⟩) 1 1]).run Try.prog (w.alloc (.cells #[.string x] 9)) = .ok v' w' ∧ Grw base W0 v0 w' v' (l ++ [x]) := by
  obtain ⟨v', w', hap, ho', hg, hv1, hv2⟩ := (h.own.stay (Stay.new w (.cells #[.string x] 9))).add 39 (strs_new w [x] 9) (c := 1) (fun e => by simp at e) (by simpa using hb) (by simp; omega)
  have hT : Turn (fun k => v.ownBlock = some k) w w' := (Turn.of_stay (Stay.new w _)).trans (Turn.of_grown hg)
  refine ⟨v', w', hap, ho', h.turn.then hT (fun i hi e => ?_), fun k hk => ?_⟩
  · rcases h.from0 i e with e1 | e1
    · exact e1
    · omega
  · rcases hv2 with e2 | e2
    · exact h.from0 k (e2.symm.trans hk)
    · rw [World.size_alloc] at e2
      have := Option.some.inj (e2.symm.trans hk)
      have := h.turn.size
      exact .inr (by omega)
theorem Grw.keeps (h : Grw base W0 v0 w v l) {b' : Nat} {u : Value} {m : List ByteArray} (hu : OwnS b' W0 u m) (hne : ∀ k, u.ownBlock = some k → ¬ v0.ownBlock = some k) : OwnS b' w u m := hu.turn h.turn hne
end
end Go.Proofs.Ytbbgembkdhcidaa
