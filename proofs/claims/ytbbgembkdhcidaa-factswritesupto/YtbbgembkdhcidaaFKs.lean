/- full's later loops, plainly: lists that read as marks, and grow. No walk here. -/
import Derived.Test.YtbbgembkdhcidaaFKr
namespace Go.Proofs.Ytbbgembkdhcidaa
open Go.RowKit Go.Maps

/-- A list of texts that reads as marks alone, in a block of P. -/
structure Rd (P : Nat → Prop) (mark : ByteArray) (w : World) (y : Value) : Prop where
  is : ∃ a m c, y = .slice a m c ∧ m ≤ 1099511627776 ∧ (0 < m → ∃ g, a = some ⟨g, 0, none⟩ ∧ P g ∧ ∀ i, i < m → w.cell? ⟨g, i, none⟩ = some (.string mark))
section
variable {P P' S : Nat → Prop} {mark : ByteArray} {w w' : World} {y : Value}
theorem Rd.mono (h : Rd P mark w y) (hp : ∀ g, g < w.heap.size → P g → P' g) : Rd P' mark w y := by
  obtain ⟨a, m, c, h1, h2, h3⟩ := h.is
  refine ⟨a, m, c, h1, h2, fun h0 => ?_⟩
  obtain ⟨g, e1, e2, e3⟩ := h3 h0
  exact ⟨g, e1, hp g (World.block_lt_of_cell? w _ (e3 0 h0)) e2, e3⟩
theorem Rd.turn (h : Rd P mark w y) (ht : Turn S w w') (hn : ∀ g, g < w.heap.size → P g → ¬ S g) : Rd P mark w' y := by
  obtain ⟨a, m, c, h1, h2, h3⟩ := h.is
  refine ⟨a, m, c, h1, h2, fun h0 => ?_⟩
  obtain ⟨g, e1, e2, e3⟩ := h3 h0
  exact ⟨g, e1, e2, fun i hi => ht.cell (e3 i hi) (hn g (World.block_lt_of_cell? w _ (e3 0 h0)) e2)⟩
theorem Rd.of_own {base : Nat} {l : List ByteArray} (h : OwnS base w y l) (hl : l.length ≤ 1099511627776) (hm : ∀ x ∈ l, x = mark) : Rd (fun b => y.ownBlock = some b) mark w y := by
  obtain ⟨a, c, e, hsp⟩ := h.spot
  refine ⟨a, _, c, e, hl, fun h0 => ?_⟩
  obtain ⟨G, rfl, _⟩ := hsp h0
  refine ⟨G, rfl, by rw [e]; rfl, fun i hi => ?_⟩
  rw [e] at h
  have := (h.at (List.getElem?_eq_getElem hi)).1
  rwa [hm _ (List.getElem_mem hi)] at this
theorem Rd.one (h : Rd P mark w y) : y.oneCell' = true := by
  obtain ⟨a, m, c, h1, _⟩ := h.is
  rw [h1]; exact slice_one
/-- As lists in a row. -/
theorem AllM.of_cells {ms : List Value} {a : Option Addr} {g c : Nat} (ha : 0 < ms.length → a = some ⟨g, 0, none⟩) (hc : ∀ j z, ms[j]? = some z → w.cell? ⟨g, j, none⟩ = some z) (hl : ms.length ≤ 1099511627776) (hg : 0 < ms.length → P g) (hr : ∀ z ∈ ms, Rd P mark w z) : AllM P mark w (.slice a ms.length c) := by
  obtain ⟨xs, hx1, hx2⟩ := list_of (p := fun i (t : Tx) => ms[i]? = some t.v ∧ t.S w ∧ t.xs.length ≤ 1099511627776 ∧ (∀ y ∈ t.xs, y = mark) ∧ (0 < t.xs.length → P t.b)) ms.length (fun i hi => by
    obtain ⟨a', m, c', h1, h2, h3⟩ := (hr ms[i] (List.getElem_mem hi)).is
    by_cases h0 : 0 < m
    · obtain ⟨g', e1, e2, e3⟩ := h3 h0
      refine ⟨⟨a', g', 0, c', List.replicate m mark⟩, by rw [List.getElem?_eq_getElem hi, h1]; simp [Tx.v], ⟨fun _ => e1, fun j hj => ?_⟩, by simpa using h2, fun y hy => (List.mem_replicate.1 hy).2, fun _ => e2⟩
      simp only [List.length_replicate] at hj
      rw [Nat.zero_add, e3 j hj]; simp
    · have hm : m = 0 := by omega
      subst hm
      exact ⟨⟨a', 0, 0, c', []⟩, by rw [List.getElem?_eq_getElem hi, h1]; rfl, StrsS.nil _ _ _ _, by simp, fun y hy => by simp at hy, fun h => by simp at h⟩)
  refine ⟨a, g, c, xs, by rw [hx1], ⟨fun h0 => ha (by omega), fun j hj => ?_⟩, by omega, fun h0 => hg (by omega), fun t ht => ?_⟩
  · obtain ⟨e1, e2, _⟩ := hx2 j hj
    rw [Nat.zero_add]
    exact ⟨hc j _ e1, e2⟩
  · obtain ⟨j, hj, rfl⟩ := List.mem_iff_getElem.1 ht
    exact (hx2 j hj).2.2
end
/-- A list u that is grown by marks: it reads as it did. -/
structure In4 (Wk : World) (base : Nat) (u : Value) (m : Nat) (mark : ByteArray) (j : Nat) (wr : World) (vt : Value) : Prop where
  own : ∃ l, OwnS base wr vt l ∧ l.length = m + j ∧ ∀ y ∈ l, y = mark
  blk : ∀ b, vt.ownBlock = some b → u.ownBlock = some b ∨ Wk.heap.size ≤ b
  rd : ∀ g i, u.ownBlock = some g → i < m → wr.cell? ⟨g, i, none⟩ = some (.string mark)
  turn : Turn (fun b => u.ownBlock = some b) Wk wr
section
variable {Wk wr : World} {base : Nat} {u vt : Value} {m j : Nat} {mark : ByteArray}
theorem In4.start {l : List ByteArray} (h : OwnS base Wk u l) (hl : l.length = m) (hm : ∀ y ∈ l, y = mark) : In4 Wk base u m mark 0 Wk u := by
  refine ⟨⟨l, h, hl, hm⟩, fun b hb => .inl hb, fun g i hg hi => ?_, Turn.refl _ _⟩
  obtain ⟨a, c, e, hsp⟩ := h.spot
  obtain ⟨G, rfl, _⟩ := hsp (by omega)
  have hG : G = g := by rw [e] at hg; simpa [Value.ownBlock] using hg
  subst hG
  rw [e] at h
  have := (h.at (List.getElem?_eq_getElem (l := l) (i := i) (by omega))).1
  rwa [hm _ (List.getElem_mem _)] at this
theorem In4.step (h : In4 Wk base u m mark j wr vt) (hb : (m + j + 1) * 16 ≤ 140737488355328) (hbase : base ≤ wr.heap.size) :
    ∃ v' w', (Builtin.append_ #[39, 39] 39 #[vt, .slice (some ⟨wr.heap.size, 0, none⟩) 1 1]).run Try.prog (wr.alloc (.cells #[.string mark] 9)) = .ok v' w' ∧ In4 Wk base u m mark (j + 1) w' v' := by
  obtain ⟨l, h1, h2, h3⟩ := h.own
  have h1' : wr.ownsRow base 9 1 vt (l.map Value.string).length (l.map Value.string) := by rw [List.length_map]; exact h1
  have hb63 : (l.map Value.string).length + 1 ≤ maxLen := by rw [List.length_map, h2]; unfold maxLen; omega
  have hb16 : ((l.map Value.string).length + 1) * 16 ≤ 140737488355328 := by rw [List.length_map, h2]; exact hb
  obtain ⟨v', w', hr, k2, k3, k4⟩ := append_keep (z := .string ⟨#[]⟩) (bytes := 16) Try.underlying39 infoSt rfl h1' (.string mark) rfl hb63 hb16 hbase
  have ho : OwnS base w' v' (l ++ [mark]) := by
    unfold OwnS
    rw [List.length_append, List.map_append]
    rw [List.length_map] at k2
    exact k2
  have hm' : ∀ y ∈ l ++ [mark], y = mark := fun y hy => by
    rcases List.mem_append.1 hy with hy | hy
    · exact h3 y hy
    · simpa using hy
  refine ⟨v', w', hr, ⟨⟨_, ho, by rw [List.length_append, h2]; rfl, hm'⟩, fun b hb => ?_, fun g i hg hi => ?_, ?_⟩⟩
  · rcases k4 with ⟨g, e1, e2⟩ | ⟨e1, _⟩
    · exact h.blk b (by rw [e1, ← e2]; exact hb)
    · have := Option.some.inj (e1.symm.trans hb)
      have := h.turn.size
      exact .inr (by omega)
  · have hc := h.rd g i hg hi
    rcases k4 with ⟨g', e1, e2⟩ | ⟨_, hs⟩
    · by_cases hgg : g = g'
      · subst hgg
        obtain ⟨a, c, e, hsp⟩ := ho.spot
        obtain ⟨G, rfl, _⟩ := hsp (by simp)
        have hG : G = g := by rw [e] at e2; simpa [Value.ownBlock] using e2
        subst hG
        rw [e] at ho
        have hil : i < (l ++ [mark]).length := by rw [List.length_append, h2]; simp; omega
        have := (ho.at (List.getElem?_eq_getElem hil)).1
        rwa [hm' _ (List.getElem_mem hil)] at this
      · exact k3.cell hc (fun e => hgg (Option.some.inj (e.symm.trans e1)))
    · exact hs.cell hc
  · refine h.turn.then k3 (fun i hi e => ?_)
    rcases h.blk i e with e1 | e1
    · exact e1
    · omega
end
end Go.Proofs.Ytbbgembkdhcidaa
