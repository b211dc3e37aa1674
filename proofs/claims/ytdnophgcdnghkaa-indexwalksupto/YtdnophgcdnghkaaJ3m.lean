/- What is told place by place, plainly: rising places, each with its key; such a list is told by what is in it. No walk here. -/
import Derived.Test.YtdnophgcdnghkaaJ3l
namespace Go.Proofs.Ytdnophgcdnghkaa.I
open Go.RowKit Go.Maps Go.Proofs.Ytdnophgcdnghkaa

theorem sorted_ext : ∀ {l1 l2 : List (Int × Int)}, l1.Pairwise (fun a b => a.1 < b.1) → l2.Pairwise (fun a b => a.1 < b.1) → (∀ x, x ∈ l1 ↔ x ∈ l2) → l1 = l2
  | [], [], _, _, _ => rfl
  | [], y :: l2, _, _, hm => absurd ((hm y).2 List.mem_cons_self) List.not_mem_nil
  | x :: l1, [], _, _, hm => absurd ((hm x).1 List.mem_cons_self) List.not_mem_nil
  | x :: l1, y :: l2, h1, h2, hm => by
    rw [List.pairwise_cons] at h1 h2
    have hxy : x = y := by
      rcases List.mem_cons.1 ((hm x).1 List.mem_cons_self) with g | g
      · exact g
      · rcases List.mem_cons.1 ((hm y).2 List.mem_cons_self) with k | k
        · exact k.symm
        · have := h2.1 x g
          have := h1.1 y k
          omega
    subst hxy
    congr 1
    refine sorted_ext h1.2 h2.2 fun z => ⟨fun hz => ?_, fun hz => ?_⟩
    · rcases List.mem_cons.1 ((hm z).1 (List.mem_cons_of_mem _ hz)) with g | g
      · subst g
        exact absurd (h1.1 z hz) (by omega)
      · exact g
    · rcases List.mem_cons.1 ((hm z).2 (List.mem_cons_of_mem _ hz)) with g | g
      · subst g
        exact absurd (h2.1 z hz) (by omega)
      · exact g
theorem laidAt_mem {ps : List (Int × Int)} {places : List Nat} {k : Nat} {x : Int × Int} : x ∈ laidAt ps places k ↔ ∃ t, places[k]? = some (t + 1) ∧ x = ((k : Int), (ps[t]?.getD (0, 0)).1) := by
  unfold laidAt
  split
  · rename_i t h
    rw [List.mem_singleton]
    constructor
    · exact fun e => ⟨t, h, e⟩
    · rintro ⟨t', h', e⟩
      rw [h] at h'
      have h2 : t = t' := by have := Option.some.inj h'; omega
      rw [h2, e]
  · rename_i h
    constructor
    · exact fun e => absurd e List.not_mem_nil
    · rintro ⟨t, h', -⟩
      exact absurd h' (h t)
theorem laidL_mem {ps : List (Int × Int)} {places : List Nat} {x : Int × Int} : ∀ {k : Nat}, x ∈ laidL ps places k ↔ ∃ j t, j < k ∧ places[j]? = some (t + 1) ∧ x = ((j : Int), (ps[t]?.getD (0, 0)).1)
  | 0 => by simp [laidL]
  | k + 1 => by
    rw [laidL, List.mem_append, laidL_mem (k := k), laidAt_mem]
    constructor
    · rintro (⟨j, t, h1, h2, h3⟩ | ⟨t, h2, h3⟩)
      · exact ⟨j, t, by omega, h2, h3⟩
      · exact ⟨k, t, by omega, h2, h3⟩
    · rintro ⟨j, t, h1, h2, h3⟩
      rcases Nat.lt_or_eq_of_le (Nat.le_of_lt_succ h1) with g | g
      · exact .inl ⟨j, t, g, h2, h3⟩
      · subst g
        exact .inr ⟨t, h2, h3⟩
theorem laidL_sorted (ps : List (Int × Int)) (places : List Nat) : ∀ k, (laidL ps places k).Pairwise (fun a b => a.1 < b.1)
  | 0 => List.Pairwise.nil
  | k + 1 => by
    rw [laidL, List.pairwise_append]
    refine ⟨laidL_sorted ps places k, ?_, fun a ha b hb => ?_⟩
    · unfold laidAt
      split <;> simp
    · obtain ⟨j, t, h1, -, rfl⟩ := laidL_mem.1 ha
      obtain ⟨t', -, rfl⟩ := laidAt_mem.1 hb
      show (j : Int) < (k : Int)
      omega
/-- What the document tells place by place is what lies in the table. -/
theorem laidL_is {way : Int} {ps : List (Int × Int)} {N : Nat} {came2 : List E} {places2 : List Nat} (h : LayI way ps N ps.length came2 places2) (x : Int × Int) : x ∈ laidL ps places2 N ↔ ∃ e ∈ came2, x = ((e.place : Int), e.key) := by
  obtain ⟨hl, hst⟩ := h.strips
  obtain ⟨r, hL⟩ := h.lies
  rw [laidL_mem]
  constructor
  · rintro ⟨j, t, h1, h2, rfl⟩
    obtain ⟨h3, e, he, -, hp⟩ := hL.back j t h2
    obtain ⟨-, p, hpp, hk, -⟩ := hst t e he
    exact ⟨e, List.mem_of_getElem? he, by rw [hp, hk, hpp]; rfl⟩
  · rintro ⟨e, he, rfl⟩
    obtain ⟨t, ht, rfl⟩ := List.mem_iff_getElem.1 he
    have hg := List.getElem?_eq_getElem ht
    obtain ⟨hth, p, hpp, hk, -⟩ := hst t _ hg
    obtain ⟨h1, h2⟩ := hL.here t _ (by omega) hg hth
    exact ⟨_, t, h1, h2, by rw [hk, hpp]; rfl⟩
end Go.Proofs.Ytdnophgcdnghkaa.I
