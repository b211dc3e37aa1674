/- The plain part, on: one layout for the same keys, in the same order, at one size. -/
import Derived.Test.YtdnophgcdnghkaaIJ
namespace Go.Proofs.Ytdnophgcdnghkaa
section
variable {κ ν : Type} {N reach : Nat}

/-- Each lies in the first place from its home on that no earlier one has. -/
structure Fst (N : Nat) (L : List (Ent κ ν)) : Prop where
  lt : ∀ (i : Nat) e, L[i]? = some e → e.place < N
  inj : ∀ (i j : Nat) e e', L[i]? = some e → L[j]? = some e' → e.place = e'.place → i = j
  first : ∀ (i : Nat) e, L[i]? = some e → ∀ q, q < N → dist N (e.hash % N) q < dist N (e.hash % N) e.place → ∃ j e', j < i ∧ L[j]? = some e' ∧ e'.place = q

theorem Lies.fst {came : List (Ent κ ν)} {places : List Nat} (h : Lies N came.length reach came places) : Fst N (live came) := by
  refine ⟨fun i e he => ?_, fun i j e e' he he' hp => ?_, fun i e he q hq hd => ?_⟩
  · obtain ⟨t, h1, h2, _⟩ := rank_ex he
    exact (h.here t e (List.getElem?_eq_some_iff.1 h1).1 h1 h2).1
  · obtain ⟨t, h1, h2, h3⟩ := rank_ex he
    obtain ⟨t', k1, k2, k3⟩ := rank_ex he'
    have a := (h.here t e (List.getElem?_eq_some_iff.1 h1).1 h1 h2).2
    have b := (h.here t' e' (List.getElem?_eq_some_iff.1 k1).1 k1 k2).2
    rw [hp, b] at a
    have : t = t' := by simp at a; omega
    rw [← h3, ← k3, this]
  · obtain ⟨t, h1, h2, h3⟩ := rank_ex he
    obtain ⟨t', h4, h5⟩ := h.first t e (List.getElem?_eq_some_iff.1 h1).1 h1 h2 q hq hd
    obtain ⟨h6, e', h7, h8, h9⟩ := h.back q t' h5
    exact ⟨rank came t', e', by rw [← h3]; exact rank_lt came h4 h7 h8, live_rank h7 h8, h9⟩

theorem Fst.same {L L' : List (Ent κ ν)} (h : Fst N L) (k : Fst N L') (hN : 0 < N) (hl : L.length = L'.length) (hh : ∀ (i : Nat) e e', L[i]? = some e → L'[i]? = some e' → e.hash = e'.hash) :
    ∀ (i : Nat) e e', L[i]? = some e → L'[i]? = some e' → e.place = e'.place := by
  intro i
  induction i using Nat.strongRecOn with
  | _ i ih =>
    intro e e' he he'
    have hhe := hh i e e' he he'
    have hho : e.hash % N < N := Nat.mod_lt _ hN
    have l1 := h.lt i e he
    have l2 := k.lt i e' he'
    have hil := (List.getElem?_eq_some_iff.1 he).1
    have n1 : ¬ dist N (e.hash % N) e.place < dist N (e.hash % N) e'.place := by
      intro hd
      rw [hhe] at hd
      obtain ⟨j, x', hj, hx', hp⟩ := k.first i e' he' e.place l1 hd
      obtain ⟨x, hx⟩ : ∃ x, L[j]? = some x := ⟨_, List.getElem?_eq_getElem (by omega)⟩
      have := ih j hj x x' hx hx'
      have := h.inj j i x e hx he (by rw [this, hp])
      omega
    have n2 : ¬ dist N (e.hash % N) e'.place < dist N (e.hash % N) e.place := by
      intro hd
      obtain ⟨j, x, hj, hx, hp⟩ := h.first i e he e'.place l2 hd
      obtain ⟨x', hx'⟩ : ∃ x', L'[j]? = some x' := ⟨_, List.getElem?_eq_getElem (by omega)⟩
      have := ih j hj x x' hx hx'
      have := k.inj j i x' e' hx' he' (by rw [← this, hp])
      omega
    exact dist_inj hho l1 l2 (by omega)

theorem pow_gap {a b : Nat} (h : 2 ^ a < 2 ^ b) : 2 * 2 ^ a ≤ 2 ^ b := by
  have hlt : a < b := (Nat.pow_lt_pow_iff_right (by decide)).1 h
  have := Nat.pow_le_pow_right (show 0 < 2 by decide) (show a + 1 ≤ b by omega)
  rw [Nat.pow_succ] at this
  omega
end
end Go.Proofs.Ytdnophgcdnghkaa
