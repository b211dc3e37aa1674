/- full's last loop and its answer, plainly. No walk here. -/
import Derived.Test.YtbbgembkdhcidaaFKt
namespace Go.Proofs.Ytbbgembkdhcidaa
open Go.RowKit Go.Maps

section
variable {W0 wr : World} {base : Nat} {v um vm : Value} {us ms ls : List Value} {ts : List (List ByteArray)} {mark : ByteArray}
theorem Mk5.stay {w1 : World} (h : Mk5 W0 base v um us ms mark wr vm ls) (hs : Stay wr w1) : Mk5 W0 base v um us ms mark w1 vm ls := by
  have hT : Turn (fun _ => False) wr w1 := Turn.of_stay hs
  exact ⟨hT.row h.mrow (fun _ _ h => h), h.mnew, hT.row h.row (fun _ _ h => h), h.vmu, h.vmb, fun g i x hg hx => hs.cell (h.old g i x hg hx), h.pre, fun y hy => (h.rdl y hy).turn hT (fun _ _ _ h => h), h.turn.trans (Turn.of_stay hs)⟩
theorem Mk5.step (h0 : Mk5 W0 base v um us ms mark wr vm ls) (hG : OwnG base W0 v us ts) (hbase : base ≤ W0.heap.size) (hb : (ls.length + 1) * 24 ≤ 140737488355328) :
    ∃ vm' w2, (Builtin.append_ #[22, 22] 22 #[vm, .slice (some ⟨wr.heap.size + 1, 0, none⟩) 1 1]).run Try.prog ((wr.alloc (.cells #[.string mark] 9)).alloc (.cells #[.slice (some ⟨wr.heap.size, 0, none⟩) 1 1] 39)) = .ok vm' w2 ∧ Mk5 W0 base v um us ms mark w2 vm' (ls ++ [.slice (some ⟨wr.heap.size, 0, none⟩) 1 1]) := by
  have h := h0.stay (Stay.new wr (.cells #[.string mark] 9))
  have hz0 := h0.turn.size
  have hcell : (wr.alloc (.cells #[.string mark] 9)).cell? ⟨wr.heap.size, 0, none⟩ = some (.string mark) := by
    have := new_cells wr [.string mark] 9 0 (.string mark) rfl
    exact this
  have hsz : (wr.alloc (.cells #[.string mark] 9)).heap.size = wr.heap.size + 1 := World.size_alloc ..
  have vlt : ∀ b, v.ownBlock = some b → b < W0.heap.size := fun b hb => (hG.lt b (.inl hb)).2
  have mlt := fun b hb => (World.ownsRow.lt h0.mrow b hb).2
  have vmlt := fun b hb => (World.ownsRow.lt h0.row b hb).2
  generalize wr.alloc (.cells #[.string mark] 9) = w1 at *
  obtain ⟨vm', w2, hr, k2, k3, k4⟩ := append_keep (z := .slice none 0 0) (bytes := 24) Try.underlying22 infoSs rfl h.row (.slice (some ⟨wr.heap.size, 0, none⟩) 1 1) slice_one (by unfold maxLen; omega) hb (by omega)
  rw [hsz] at hr k4
  have vmb : ∀ b, vm'.ownBlock = some b → vm.ownBlock = some b ∨ b = wr.heap.size + 1 + 1 := fun b hb => by
    rcases k4 with ⟨g, e1, e2⟩ | ⟨e1, _⟩
    · exact .inl (by rw [e1, ← e2]; exact hb)
    · exact .inr (Option.some.inj (e1.symm.trans hb)).symm
  refine ⟨vm', w2, hr, ⟨k3.row h.mrow (fun b hb e => h.vmu b e hb), h.mnew, by rw [List.length_append]; exact k2, fun b hb e => ?_, fun b hb => ?_, fun g i x hg hx => ?_, ?_, fun y hy => ?_, ?_⟩⟩
  · rcases vmb b hb with e1 | e1
    · exact h.vmu b e1 e
    · have := mlt b e; omega
  · rcases vmb b hb with e1 | e1
    · exact h.vmb b e1
    · exact .inr (by omega)
  · have hc := h.old g i x hg hx
    rcases k4 with ⟨g', e1, e2⟩ | ⟨_, hs⟩
    · by_cases hgg : g = g'
      · subst hgg
        obtain ⟨r, hr'⟩ := h.pre
        have hil : (ls ++ [Value.slice (some ⟨wr.heap.size, 0, none⟩) 1 1])[i]? = some x := by
          have hi := (List.getElem?_eq_some_iff.1 hx).1
          rw [hr', List.append_assoc, List.getElem?_append_left hi]; exact hx
        have k2' : w2.ownsRow base 39 1 vm' (ls ++ [Value.slice (some ⟨wr.heap.size, 0, none⟩) 1 1]).length (ls ++ [Value.slice (some ⟨wr.heap.size, 0, none⟩) 1 1]) := by rw [List.length_append]; exact k2
        obtain ⟨a, c, e, hsp⟩ := row_spot k2'
        obtain ⟨g'', rfl, hg''⟩ := hsp (by simp)
        have : g'' = g := Option.some.inj (hg''.symm.trans e2)
        subst this
        rw [e] at k2'
        exact row_cell k2' i x hil
      · exact k3.cell hc (fun e => hgg (Option.some.inj (e.symm.trans e1)))
    · exact hs.cell hc
  · obtain ⟨r, hr'⟩ := h.pre
    exact ⟨r ++ [.slice (some ⟨wr.heap.size, 0, none⟩) 1 1], by rw [hr']; simp⟩
  · have olds : y ∈ ls ++ ms → Rd (fun b => (blkG v us b ∨ W0.heap.size ≤ b) ∧ um.ownBlock ≠ some b ∧ vm'.ownBlock ≠ some b ∧ v.ownBlock ≠ some b) mark w2 y := fun hy =>
      ((h.rdl y hy).mono (P' := fun b => ((blkG v us b ∨ W0.heap.size ≤ b) ∧ um.ownBlock ≠ some b ∧ vm'.ownBlock ≠ some b ∧ v.ownBlock ≠ some b) ∧ vm.ownBlock ≠ some b) (fun b hb hp => ⟨⟨hp.1, hp.2.1, fun e => by
        rcases vmb b e with e1 | e1
        · exact hp.2.2.1 e1
        · omega, hp.2.2.2⟩, hp.2.2.1⟩)).turn k3 (fun b _ hp e => hp.2 e) |>.mono (fun b _ hp => hp.1)
    rcases List.mem_append.1 hy with hy | hy
    · rcases List.mem_append.1 hy with hy | hy
      · exact olds (List.mem_append_left _ hy)
      · obtain rfl : y = .slice (some ⟨wr.heap.size, 0, none⟩) 1 1 := by simpa using hy
        refine ⟨_, 1, 1, rfl, by decide, fun _ => ⟨wr.heap.size, rfl, ⟨.inr hz0, fun e => ?_, fun e => ?_, fun e => ?_⟩, fun i hi => ?_⟩⟩
        · have := mlt _ e; omega
        · rcases vmb _ e with e1 | e1
          · have := vmlt _ e1; omega
          · omega
        · have := vlt _ e; omega
        · obtain rfl : i = 0 := by omega
          exact k3.cell hcell (fun e => by have := vmlt _ e; simp at this)
    · exact olds (List.mem_append_right _ hy)
  · refine h.turn.then k3 (fun b hb e => ?_)
    rcases h.vmb b e with e1 | e1
    · exact .inl e1
    · omega
/-- What is handed out. -/
theorem Mk5.done {W : World} (h : Mk5 W0 base v um us ms mark wr vm ls) (hG : OwnG base W0 v us ts) (hbase : base ≤ W0.heap.size) (hW : Turn (blkG v us) W W0) (hl0 : 0 < ls.length) (hb : (ms.length + ls.length) * 24 ≤ 17592186044416) :
    ∃ x w2, (Builtin.append_ #[22, 22] 22 #[um, vm]).run Try.prog wr = .ok x w2 ∧ FullQ W v us mark (.returned x) w2 := by
  have hz0 := h.turn.size
  have hzW := hW.size
  have vlt : ∀ b, v.ownBlock = some b → b < W0.heap.size := fun b hb => (hG.lt b (.inl hb)).2
  obtain ⟨a, c, e, hs⟩ := row_spot h.row
  obtain ⟨g, rfl, hg⟩ := hs hl0
  have hrow := h.row
  rw [e] at hrow
  obtain ⟨i0, hi, q0, q1, q2⟩ := info_parts infoSs
  obtain ⟨x, w2, hr, k2, k3, k4, k5⟩ := run_append_own_at (P := Try.prog) wr base 22 22 39 i0 (.slice none 0 0) 1 24 Try.underlying22 hi q0 q1 q2 rfl (by decide) um ms.length ms h.mrow ⟨g, 0, none⟩ ls.length c ls (by omega) (hrow.cells (g := g) rfl) (fun y hy => (h.rdl y (List.mem_append_left _ hy)).one) (by unfold maxLen; omega) (by omega) (by omega)
  have hT := Turn.of_grown k3
  have hrd : ∀ y ∈ ls ++ ms, Rd (fun k => blkG v us k ∨ W.heap.size ≤ k) mark w2 y := fun y hy =>
    ((h.rdl y hy).turn hT (fun b _ hp e => hp.2.1 e)).mono (fun b _ hp => by
      rcases hp.1 with e1 | e1
      · exact .inl e1
      · exact .inr (by omega))
  rw [← e] at hr
  refine ⟨x, w2, hr, x, rfl, ?_, ?_, (hW.trans h.turn).then hT (fun b hb e1 => by have := h.mnew b e1; omega)⟩
  · have k2' : w2.ownsRow base 39 1 x (ms ++ ls).length (ms ++ ls) := by rw [List.length_append]; exact k2
    obtain ⟨a', c', e', hs'⟩ := row_spot k2'
    obtain ⟨g', rfl, hg'⟩ := hs' (by rw [List.length_append]; omega)
    have k6 := k2'
    rw [e'] at k6
    rw [e']
    refine AllM.of_cells (g := g') (fun _ => rfl) (fun j z hz => row_cell k6 j z hz) (by rw [List.length_append]; omega) (fun _ => ?_) (fun z hz => hrd z (by
      rcases List.mem_append.1 hz with h1 | h1
      · exact List.mem_append_right _ h1
      · exact List.mem_append_left _ h1))
    rcases k5 with e5 | e5
    · have := h.mnew g' (by rw [← e5]; exact hg')
      exact .inr (by omega)
    · have := Option.some.inj (e5.symm.trans hg')
      exact .inr (by omega)
  · obtain ⟨av, cv, ev, hsv⟩ := row_spot hG.row
    obtain ⟨r, hr'⟩ := h.pre
    have hul : us.length ≤ ls.length := by rw [hr', List.length_append]; omega
    by_cases hu0 : 0 < us.length
    · obtain ⟨gv, rfl, hgv⟩ := hsv hu0
      have := AllM.of_cells (P := fun k => blkG v us k ∨ W.heap.size ≤ k) (mark := mark) (w := w2) (ms := us) (a := some ⟨gv, 0, none⟩) (g := gv) (c := cv) (fun _ => rfl) (fun j z hz => hT.cell (h.old gv j z hgv hz) (fun e1 => by have := h.mnew gv e1; have := vlt gv hgv; omega)) (by omega) (fun _ => .inl (.inl hgv)) (fun z hz => hrd z (List.mem_append_left _ (by rw [hr']; exact List.mem_append_left _ hz)))
      rw [← ev] at this
      exact this
    · have hue : us = [] := List.eq_nil_of_length_eq_zero (by omega)
      have := AllM.of_cells (P := fun k => blkG v us k ∨ W.heap.size ≤ k) (mark := mark) (w := w2) (ms := us) (a := av) (g := 0) (c := cv) (fun h0 => absurd h0 hu0) (fun j z hz => by rw [hue] at hz; simp at hz) (by omega) (fun h0 => absurd h0 hu0) (fun z hz => by rw [hue] at hz; simp at hz)
      rw [← ev] at this
      exact this
end
end Go.Proofs.Ytbbgembkdhcidaa
