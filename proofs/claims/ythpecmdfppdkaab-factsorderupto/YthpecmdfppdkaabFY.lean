/- The document's Escape, Line. -/
import Derived.Test.YthpecmdfppdkaabFX
namespace Go.Proofs.Ythpecmdfppdkaab
open Go.RowKit Go.Maps

/-- A list of bytes in memory of its own. -/
def OwnB (base : Nat) (w : World) (v : Value) (l : List UInt8) : Prop := w.ownsRow base 5 1 v l.length (Lib.byteCells l)
section
variable {base : Nat} {w w' : World} {v : Value} {l : List UInt8}
theorem OwnB.nil : OwnB base w (.slice none 0 0) [] := World.ownsRow_nil _ _ _ _
theorem OwnB.stay (h : OwnB base w v l) (hs : Stay w w') : OwnB base w' v l := (Turn.of_stay (S := fun _ => False) hs).row h (fun _ _ h => h)
theorem OwnB.lt (h : OwnB base w v l) : ∀ k, v.ownBlock = some k → base ≤ k ∧ k < w.heap.size := World.ownsRow.lt h
/-- Bytes more. -/
theorem OwnB.add (ty : TypeId) (h : OwnB base w v l) (bs : List UInt8) (hb : l.length + bs.length ≤ 140737488355328) (hbase : base ≤ w.heap.size) :
    ∃ v' w', (Builtin.append_ #[47, 47] ty #[v, .slice (some ⟨w.heap.size, 0, none⟩) bs.length bs.length]).run Try.prog (w.alloc (.cells (Lib.byteCells bs).toArray 5)) = .ok v' w' ∧ OwnB base w' v' (l ++ bs) ∧ Turn (fun k => v.ownBlock = some k) w w' ∧ (v'.ownBlock = v.ownBlock ∨ v'.ownBlock = some (w.heap.size + 1)) := by
  obtain ⟨i0, hi, hz0, hz1, hz2⟩ := info_parts infoU8
  obtain ⟨v', w', hr, h2, h3, h4, h5⟩ := run_append_own_at (P := Try.prog) (w.alloc (.cells (Lib.byteCells bs).toArray 5)) base 47 ty 5 i0 (.int .u8 0) 1 1 Try.underlying47 hi hz0 hz1 hz2 rfl (by decide) v l.length (Lib.byteCells l) (World.ownsRow.alloc h _) ⟨w.heap.size, 0, none⟩ bs.length bs.length (Lib.byteCells bs) (by rw [Lib.byteCells_length]; omega) (new_cells w (Lib.byteCells bs) _) (fun u hu => by simp only [Lib.byteCells, List.mem_map] at hu; obtain ⟨x, _, rfl⟩ := hu; rfl) (by unfold maxLen; omega) (by omega) (by simp; omega)
  rw [World.size_alloc] at h5
  refine ⟨v', w', hr, ?_, (Turn.of_stay (Stay.new w _)).trans (Turn.of_grown h3), h5⟩
  unfold OwnB
  rw [List.length_append, byteCells_app]
  exact h2
/-- As a text. -/
theorem OwnB.str (h : OwnB base w v l) : (convert 47 9 v).run Try.prog w = .ok (.string (toB l)) w := by
  rcases h.2 with ⟨rfl, h0⟩ | ⟨g, cap, cur, rfl, _⟩
  · have e : l = [] := List.eq_nil_of_length_eq_zero h0
    subst e
    rw [run_convert_bytes_string w 47 9 5 none 0 0 Try.underlying47 Try.underlying5 Try.underlying9]
    rfl
  · refine run_convert_bytes_back (P := Try.prog) w 47 9 5 ⟨g, 0, none⟩ cap l Try.underlying47 Try.underlying5 Try.underlying9 (fun j hj => ?_)
    exact World.ownsRow.cells h (g := g) rfl j _ (by simp [Lib.byteCells, hj])
theorem OwnB.slice (h : OwnB base w v l) : ∃ a c, v = .slice a l.length c := by
  rcases h.2 with ⟨e, h0⟩ | ⟨g, cap, cur, e, _⟩
  · exact ⟨none, 0, by rw [e, h0]⟩
  · exact ⟨_, _, e⟩
end

theorem toB_app (a b : List UInt8) : toB a ++ toB b = toB (a ++ b) := by
  apply ByteArray.ext
  simp [toB]
theorem lineT_no16 {ss : List ByteArray} (h : ¬ ss.length ≤ 16) : lineT ss = ([], 2) := by
  have : refZ [ss] ss.length = 2 := by unfold refZ; rw [if_neg]; simp; omega
  unfold lineT
  rw [this]; rfl
theorem refZ_one {ss : List ByteArray} (h : ss.length ≤ 16) : refZ [ss] ss.length = if longB ss then 3 else 0 := by
  unfold refZ
  rw [if_pos (by simp [misB]; omega)]
  simp
end Go.Proofs.Ythpecmdfppdkaab
