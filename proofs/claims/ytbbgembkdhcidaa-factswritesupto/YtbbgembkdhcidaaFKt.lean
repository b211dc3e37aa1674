/- full's third loop, plainly: each list grown, and listed. No walk here. -/
import Derived.Test.YtbbgembkdhcidaaFKs
namespace Go.Proofs.Ytbbgembkdhcidaa
open Go.RowKit Go.Maps

structure Mk3 (W0 : World) (base : Nat) (v : Value) (us : List Value) (ts : List (List ByteArray)) (mark : ByteArray) (k : Nat) (wr : World) (um : Value) (ms : List Value) : Prop where
  row : wr.ownsRow base 39 1 v us.length us
  own : ∀ i u t, k ≤ i → us[i]? = some u → ts[i]? = some t → OwnS base wr u t
  rdu : ∀ (i : Nat) u, us[i]? = some u → Rd (fun b => u.ownBlock = some b) mark wr u
  mrow : wr.ownsRow base 39 1 um ms.length ms
  mnew : ∀ b, um.ownBlock = some b → W0.heap.size ≤ b
  rdm : ∀ y ∈ ms, Rd (fun b => (blkG v us b ∨ W0.heap.size ≤ b) ∧ um.ownBlock ≠ some b ∧ v.ownBlock ≠ some b ∧ ∀ (i : Nat) u, k ≤ i → us[i]? = some u → u.ownBlock ≠ some b) mark wr y
  len : ms.length = k
  turn : Turn (blkG v us) W0 wr
section
variable {W0 wr w1 : World} {base : Nat} {v um : Value} {us ms : List Value} {ts : List (List ByteArray)} {mark : ByteArray} {k : Nat}
theorem Mk3.start (h : OwnG base W0 v us ts) (hm : ∀ t ∈ ts, t.length ≤ 1099511627776 ∧ ∀ y ∈ t, y = mark) : Mk3 W0 base v us ts mark 0 W0 (.slice none 0 0) [] := by
  refine ⟨h.row, fun i u t _ hu ht => h.each i u t hu ht, fun i u hu => ?_, World.ownsRow_nil _ _ _ _, fun b hb => by simp [Value.ownBlock] at hb, fun y hy => by simp at hy, rfl, Turn.refl _ _⟩
  have hi : i < ts.length := by rw [← h.len]; exact (List.getElem?_eq_some_iff.1 hu).1
  have hmt := hm ts[i] (List.getElem_mem hi)
  exact Rd.of_own (h.each i u ts[i] hu (List.getElem?_eq_getElem hi)) hmt.1 hmt.2
theorem Mk3.step (h : Mk3 W0 base v us ts mark k wr um ms) (hG : OwnG base W0 v us ts) (hbase : base ≤ W0.heap.size) {u vt : Value} {m j : Nat} (hu : us[k]? = some u) (hI : In4 wr base u m mark j w1 vt) (hmj : m + j ≤ 1099511627776) (hum : ∃ ua uc, u = .slice ua m uc ∧ (0 < m → ∃ g, ua = some ⟨g, 0, none⟩)) (hb : (k + 1) * 24 ≤ 140737488355328) :
    ∃ um' w2, (Builtin.append_ #[22, 22] 22 #[um, .slice (some ⟨w1.heap.size, 0, none⟩) 1 1]).run Try.prog (w1.alloc (.cells #[vt] 39)) = .ok um' w2 ∧ Mk3 W0 base v us ts mark (k + 1) w2 um' (ms ++ [vt]) := by
  have hz0 := h.turn.size
  have hz1 := hI.turn.size
  have ult : ∀ (i : Nat) x, us[i]? = some x → ∀ b, x.ownBlock = some b → b < W0.heap.size := fun i x hx b hb => (hG.lt b (.inr ⟨x, List.mem_of_getElem? hx, hb⟩)).2
  have vlt : ∀ b, v.ownBlock = some b → b < W0.heap.size := fun b hb => (hG.lt b (.inl hb)).2
  obtain ⟨l, o1, o2, o3⟩ := hI.own
  have hvt : Rd (fun b => vt.ownBlock = some b) mark w1 vt := Rd.of_own o1 (by omega) o3
  have mrow1 : w1.ownsRow base 39 1 um ms.length ms := hI.turn.row h.mrow (fun b hb e => by have := h.mnew b hb; have := ult k u hu b e; omega)
  have mlt := fun b hb => (World.ownsRow.lt h.mrow b hb).2
  obtain ⟨um', w2, hr, k2, k3, k4⟩ := append_keep (z := .slice none 0 0) (bytes := 24) Try.underlying22 infoSs rfl mrow1 vt hvt.one (by rw [h.len]; unfold maxLen; omega) (by rw [h.len]; exact hb) (by omega)
  have umb : ∀ b, um'.ownBlock = some b → um.ownBlock = some b ∨ b = w1.heap.size + 1 := fun b hb => by
    rcases k4 with ⟨g, e1, e2⟩ | ⟨e1, _⟩
    · exact .inl (by rw [e1, ← e2]; exact hb)
    · exact .inr (Option.some.inj (e1.symm.trans hb)).symm
  have old : ∀ b, b < w1.heap.size → um.ownBlock ≠ some b → um'.ownBlock ≠ some b := fun b hb hne e => by
    rcases umb b e with e1 | e1
    · exact hne e1
    · omega
  have uum : ∀ (i : Nat) x, us[i]? = some x → ∀ b, x.ownBlock = some b → um.ownBlock ≠ some b := fun i x hx b hb e => by
    have := h.mnew b e
    have := ult i x hx b hb
    omega
  refine ⟨um', w2, hr, ⟨?_, fun i x t hi hx ht => ?_, fun i x hx => ?_, by rw [List.length_append]; exact k2, fun b hb => ?_, fun y hy => ?_, by rw [List.length_append, h.len]; rfl, ?_⟩⟩
  · refine k3.row (hI.turn.row h.row (fun b hb e => hG.off k u hu b e hb)) (fun b hb e => ?_)
    have := h.mnew b e
    have := vlt b hb
    omega
  · refine ((h.own i x t (by omega) hx ht).turn hI.turn (fun b hb e => hG.apart i k x u hx hu (by omega) b hb e)).turn k3 (fun b hb e => uum i x hx b hb e)
  · have h1 : Rd (fun b => x.ownBlock = some b) mark w1 x := by
      by_cases hik : i = k
      · subst hik
        rw [hu] at hx
        cases hx
        obtain ⟨ua, uc, e, hs⟩ := hum
        refine ⟨ua, m, uc, e, by omega, fun h0 => ?_⟩
        obtain ⟨g, rfl⟩ := hs h0
        have hg : u.ownBlock = some g := by rw [e]; rfl
        exact ⟨g, rfl, hg, fun i hi => hI.rd g i hg hi⟩
      · exact (h.rdu i x hx).turn hI.turn (fun b _ hb e => hG.apart i k x u hx hu hik b hb e)
    exact h1.turn k3 (fun b _ hb e => uum i x hx b hb e)
  · rcases umb b hb with e | e
    · exact h.mnew b e
    · omega
  · rcases List.mem_append.1 hy with hy | hy
    · have h1 := (h.rdm y hy).turn hI.turn (fun b _ hp e => hp.2.2.2 k u (Nat.le_refl _) hu e)
      exact (h1.mono (P' := fun b => ((blkG v us b ∨ W0.heap.size ≤ b) ∧ um'.ownBlock ≠ some b ∧ v.ownBlock ≠ some b ∧ ∀ (i : Nat) u, k + 1 ≤ i → us[i]? = some u → u.ownBlock ≠ some b) ∧ um.ownBlock ≠ some b) (fun b hb hp => ⟨⟨hp.1, old b hb hp.2.1, hp.2.2.1, fun i x hi hx => hp.2.2.2 i x (by omega) hx⟩, hp.2.1⟩)).turn k3 (fun b _ hp e => hp.2 e) |>.mono (fun b _ hp => hp.1)
    · obtain rfl : y = vt := by simpa using hy
      refine (hvt.mono (P' := fun b => ((blkG v us b ∨ W0.heap.size ≤ b) ∧ um'.ownBlock ≠ some b ∧ v.ownBlock ≠ some b ∧ ∀ (i : Nat) u, k + 1 ≤ i → us[i]? = some u → u.ownBlock ≠ some b) ∧ um.ownBlock ≠ some b) (fun b hb hp => ?_)).turn k3 (fun b _ hp e => hp.2 e) |>.mono (fun b _ hp => hp.1)
      rcases hI.blk b hp with e | e
      · refine ⟨⟨.inl (.inr ⟨u, List.mem_of_getElem? hu, e⟩), old b hb (uum k u hu b e), hG.off k u hu b e, fun i x hi hx => fun e' => hG.apart i k x u hx hu (by omega) b e' e⟩, uum k u hu b e⟩
      · have hne : um.ownBlock ≠ some b := fun e' => by have := mlt b e'; omega
        exact ⟨⟨.inr (by omega), old b hb hne, fun e' => by have := vlt b e'; omega, fun i x hi hx e' => by have := ult i x hx b e'; omega⟩, hne⟩
  · refine (h.turn.then hI.turn (fun b _ e => .inr ⟨u, List.mem_of_getElem? hu, e⟩)).then k3 (fun b hb e => ?_)
    have := h.mnew b e
    omega
/-- The last loop: the list itself is grown by lists of one mark; as it was it still reads. -/
structure Mk5 (W0 : World) (base : Nat) (v um : Value) (us ms : List Value) (mark : ByteArray) (wr : World) (vm : Value) (ls : List Value) : Prop where
  mrow : wr.ownsRow base 39 1 um ms.length ms
  mnew : ∀ b, um.ownBlock = some b → W0.heap.size ≤ b
  row : wr.ownsRow base 39 1 vm ls.length ls
  vmu : ∀ b, vm.ownBlock = some b → um.ownBlock ≠ some b
  vmb : ∀ b, vm.ownBlock = some b → v.ownBlock = some b ∨ W0.heap.size ≤ b
  old : ∀ g (i : Nat) x, v.ownBlock = some g → us[i]? = some x → wr.cell? ⟨g, i, none⟩ = some x
  pre : ∃ r, ls = us ++ r
  rdl : ∀ y ∈ ls ++ ms, Rd (fun b => (blkG v us b ∨ W0.heap.size ≤ b) ∧ um.ownBlock ≠ some b ∧ vm.ownBlock ≠ some b ∧ v.ownBlock ≠ some b) mark wr y
  turn : Turn (blkG v us) W0 wr
theorem Mk5.start (h : Mk3 W0 base v us ts mark k wr um ms) (hG : OwnG base W0 v us ts) : Mk5 W0 base v um us ms mark wr v us := by
  have vlt : ∀ b, v.ownBlock = some b → b < W0.heap.size := fun b hb => (hG.lt b (.inl hb)).2
  refine ⟨h.mrow, h.mnew, h.row, fun b hb e => ?_, fun b hb => .inl hb, fun g i x hg hx => ?_, ⟨[], by simp⟩, fun y hy => ?_, h.turn⟩
  · have := h.mnew b e; have := vlt b hb; omega
  · obtain ⟨a, c, e, hs⟩ := row_spot h.row
    obtain ⟨g', rfl, hg'⟩ := hs (by have := (List.getElem?_eq_some_iff.1 hx).1; omega)
    have : g' = g := Option.some.inj (hg'.symm.trans hg)
    subst this
    have hrow := h.row
    rw [e] at hrow
    exact row_cell hrow i x hx
  · rcases List.mem_append.1 hy with hy | hy
    · obtain ⟨i, hi, rfl⟩ := List.mem_iff_getElem.1 hy
      have hx := List.getElem?_eq_getElem hi
      refine (h.rdu i _ hx).mono (fun b _ hb => ⟨.inl (.inr ⟨_, hy, hb⟩), fun e => ?_, hG.off i _ hx b hb, hG.off i _ hx b hb⟩)
      have := h.mnew b e
      have := (hG.lt b (.inr ⟨_, hy, hb⟩)).2
      omega
    · exact (h.rdm y hy).mono (fun b _ hp => ⟨hp.1, hp.2.1, hp.2.2.1, hp.2.2.1⟩)
end
end Go.Proofs.Ytbbgembkdhcidaa
