/- What a loop over an iterator asks of a table that is filled in it. -/
import Derived.Test.YtdnophgcdnghkaaJF
namespace Go.Proofs.Ytdnophgcdnghkaa.I
open Go.RowKit Go.Maps Go.Shelf Go.Proofs.Ytdnophgcdnghkaa

section
variable {bt pb0 : Nat} {fp : Nat × Nat × Int}

theorem UI.own {W0 : World} {L : List E} : OwnFrom W0.heap.size (fun pre W => UI W0 W bt pb0 fp L pre) := by
  intro pre W W' row h hg hr
  obtain ⟨cv, pb, N, len, reach, came, places, hT, h1, h2, h3, h4, hTu, hf⟩ := h
  have ht : Turn (fun k => some k = row) W W' := ⟨hg.os, hg.tape, hg.output, hg.size, fun k hk hn => hg.block k hk hn⟩
  have hno : ∀ k, (foot bt pb cv k ∨ fnfoot fp k) → ¬ some k = row := fun k hk e => by
    obtain ⟨cs, t, f, hc⟩ := hT.isCells k hk
    obtain ⟨_, o, ho, hic⟩ := hr k e.symm
    rw [hc] at ho; simp only [Option.some.injEq] at ho; subst ho; simp [Obj.isCells] at hic
  refine ⟨cv, pb, N, len, reach, came, places, hT.turn ht (fun k hk => hno k (.inl hk)) (fun k hk => hno k (.inr hk)), h1, h2, h3, h4, hTu.then ht (fun k hk e => ?_), hf⟩
  have := (hr k e.symm).1
  omega

theorem keep_bump {B : Nat} (hb : bt < B) (W : World) (l : Nat) (o o' : Obj) (hl : B ≤ l) (h : W.heap[l]? = some o) (hc : o.isCells = false) (_ : o.isWalk = false) : Keep B (Mu bt) W (W.putObj l o') := by
  have hg := grownBy_putObj' W l o'
  have e : ∀ j, (W.putObj l o').cell? ⟨bt, j, none⟩ = W.cell? ⟨bt, j, none⟩ := fun j => World.cell?_of_block (a := ⟨bt, j, none⟩) (hg.block bt (by have := (Array.getElem?_eq_some_iff.1 h).1; omega) (fun e => by cases e; omega))
  refine ⟨hg.size, fun k cs t f _ hk _ => (hg.block k (Array.getElem?_eq_some_iff.1 hk).1 (fun e => ?_)).trans hk, fun k hm => .inl ?_⟩
  · cases e; rw [hk] at h; simp only [Option.some.injEq] at h; subst h; simp [Obj.isCells] at hc
  · unfold Mu at *
    rw [e 2, e 3] at hm
    exact hm

theorem mu_stay {W0 : World} {cv : Value} {pb N len reach : Nat} {came : List E} {places : List Nat} (h : Tab W0 bt fp cv pb N len reach came places) (W : World) (hS : Stay W0 W) (k : Nat) (hm : Mu bt W k) : k < W0.heap.size := by
  have h' := h.turn (S := fun _ => False) (Turn.of_stay hS) (fun _ _ e => e) (fun _ _ e => e)
  rcases (mu_iff h' k).1 hm with h1 | h1
  · exact h.lt k (.inl (.inr (.inr h1)))
  · exact h.lt k (.inl (.inr (.inl h1)))

end
end Go.Proofs.Ytdnophgcdnghkaa.I
