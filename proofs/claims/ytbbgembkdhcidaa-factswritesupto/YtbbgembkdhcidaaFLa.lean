/- FactsLine: the walk. -/
import Derived.Test.YtbbgembkdhcidaaFZ
namespace Go.Proofs.Ytbbgembkdhcidaa
open Go.RowKit Go.Maps

theorem st_size (W : World) : (sizeOf (Try.prog.elem 39)).run Try.prog W = .ok 1 W ∧ Try.prog.underlying 39 = some (.slice (Try.prog.elem 39)) := by
  obtain ⟨i0, hi, hz0, hz1, hz2⟩ := info_parts infoSt
  have he : Try.prog.elem 39 = 9 := by simp [Program.elem, Try.underlying39]
  rw [he]
  exact ⟨by simp [sizeOf, typeInfo, hi, hz1], Try.underlying39⟩
/-- t[:k]. -/
theorem cutS_to (G n cap k : Nat) (h : k ≤ cap) : ∀ W, (Instr.slice 39 (.slice (some ⟨G, 0, none⟩) n cap) none (some (.int .i64 (k : Int))) none).run Try.prog W = .ok (.slice (some ⟨G, 0, none⟩) k cap) W := fun W => by
  have hs := st_size W
  rw [run_slice_h W 39 _ _ _ hs.2 .i64 (k : Int) (by omega) (by omega), hs.1]
  simp [sliced, Result.andThen, add_at]

/-- A list of one's own with one behind it. -/
theorem OwnS.last {base : Nat} {w : World} {v : Value} {l : List ByteArray} {x : ByteArray} (h : OwnS base w v (l ++ [x])) : ∃ G cap, v = .slice (some ⟨G, 0, none⟩) (l.length + 1) cap ∧ l.length + 1 ≤ cap ∧ base ≤ G ∧ StrsS w (some ⟨G, 0, none⟩) G 0 l ∧ w.cell? ⟨G, l.length, none⟩ = some (.string x) := by
  have h0 := h
  rcases h.2 with ⟨hv, hl⟩ | ⟨g, cap, cur, hv, hb, hh, h1, h2, h3, h4⟩
  · simp at hl
  · subst hv
    refine ⟨g, cap, by simp, by simpa using h1, hb, ?_, ?_⟩
    · have := h0.tx
      obtain ⟨t, e1, e2, e3, _, e5, _⟩ := this
      have eb := e5 g rfl
      have ea : t.a = some ⟨g, 0, none⟩ := by
        have := e1; unfold Tx.v at this; simp at this; exact this.1.symm
      have e3' : StrsS w t.a t.b t.o t.xs := e3
      rw [e2, ea, eb] at e3'
      have ho : t.o = 0 := by have := e3'.1 (by simp); simpa using this.symm
      rw [ho] at e3'
      refine ⟨fun _ => rfl, fun j hj => ?_⟩
      have := e3'.2 j (by simp; omega)
      rw [this, List.getElem_append_left hj]
    · exact row_cell h0 l.length _ (by simp)

end Go.Proofs.Ytbbgembkdhcidaa
