/- Three pairs of tables in two arrays, between two steps. -/
import Derived.Test.YtdmopioiaaecfaaPlaysA
namespace Go.Proofs.Ytdmopioiaaecfaa
open Go.RowKit Go.Maps

/-- The three pairs: their pointers, their blocks, their texts. -/
structure Tri where
  p : Nat → Value
  q : Nat → Value
  P : Nat → Nat → Prop
  ts : Nat → List ByteArray

/-- Three pairs, in the arrays at A and B. -/
structure PlI (w : World) (A B N : Nat) (T : Tri) (W : World) : Prop where
  below : Below w.heap.size w W
  ta : W.heap[A]? = some (.cells #[T.p 0, T.p 1, T.p 2] 25 (0, 0))
  ra : W.heap[B]? = some (.cells #[T.q 0, T.q 1, T.q 2] 30 (0, 0))
  pr : ∀ i, i < 3 → Pr W (T.P i) (T.p i) (T.q i) (T.ts i)
  own : ∀ i, i < 3 → ∀ k, T.P i k → w.heap.size ≤ k ∧ k ≠ A ∧ k ≠ B
  apart : ∀ i j, i < 3 → j < 3 → i ≠ j → ∀ k, T.P i k → ¬ T.P j k
  few : ∀ i, i < 3 → (T.ts i).length ≤ N
  ab : w.heap.size ≤ A ∧ w.heap.size ≤ B ∧ A ≠ B

section
variable {w W W' : World} {A B N N' : Nat} {T : Tri}

theorem PlI.lt (h : PlI w A B N T W) : A < W.heap.size ∧ B < W.heap.size := ⟨(Array.getElem?_eq_some_iff.1 h.ta).1, (Array.getElem?_eq_some_iff.1 h.ra).1⟩
theorem three_at {i : Nat} (hi : i < 3) (f : Nat → Value) : (#[f 0, f 1, f 2] : Array Value)[i]? = some (f i) := by
  have : i = 0 ∨ i = 1 ∨ i = 2 := by omega
  rcases this with rfl | rfl | rfl <;> rfl
theorem PlI.pAt (h : PlI w A B N T W) {i : Nat} (hi : i < 3) : W.cell? ⟨A, i, none⟩ = some (T.p i) := by
  simp only [World.cell?, h.ta]
  simpa using three_at hi T.p
theorem PlI.qAt (h : PlI w A B N T W) {i : Nat} (hi : i < 3) : W.cell? ⟨B, i, none⟩ = some (T.q i) := by
  simp only [World.cell?, h.ra]
  simpa using three_at hi T.q
theorem PlI.pFree (h : PlI w A B N T W) (i : Nat) : W.frozen? ⟨A, i, none⟩ = false := by simp [World.frozen?, h.ta]
theorem PlI.qFree (h : PlI w A B N T W) (i : Nat) : W.frozen? ⟨B, i, none⟩ = false := by simp [World.frozen?, h.ra]

theorem PlI.stay (h : PlI w A B N T W) (hb : Below W.heap.size W W') : PlI w A B N T W' :=
  ⟨h.below.trans (hb.mono h.below.size), (hb.block A h.lt.1).trans h.ta, (hb.block B h.lt.2).trans h.ra, fun i hi => (h.pr i hi).below hb, h.own, h.apart, h.few, h.ab⟩
theorem PlI.more (h : PlI w A B N T W) (hN : N ≤ N') : PlI w A B N' T W := { h with few := fun i hi => Nat.le_trans (h.few i hi) hN }

def upd {α : Type} (f : Nat → α) (i : Nat) (x : α) : Nat → α := fun j => if j = i then x else f j
theorem upd_same {α : Type} (f : Nat → α) (i : Nat) (x : α) : upd f i x i = x := by simp [upd]
theorem upd_ne {α : Type} (f : Nat → α) {i j : Nat} (x : α) (h : j ≠ i) : upd f i x j = f j := by simp [upd, h]

/-- A step on the pair i. -/
theorem PlI.step (h : PlI w A B N T W) {i : Nat} (hi : i < 3) {us : List ByteArray} (hg : Goes W (T.P i) (T.p i) (T.q i) us W') (hl : us.length ≤ N') (hN : N ≤ N') : ∃ T', PlI w A B N' T' W' := by
  obtain ⟨P', h1, h2, h3⟩ := hg
  have hA : ¬ T.P i A := fun e => (h.own i hi A e).2.1 rfl
  have hB : ¬ T.P i B := fun e => (h.own i hi B e).2.2 rfl
  refine ⟨{ T with P := upd T.P i P', ts := upd T.ts i us }, ?_⟩
  have hb : Below w.heap.size w W' := h.below.trans (h3.below h.below.size (fun k hk => (h.own i hi k hk).1))
  refine ⟨hb, (h3.block A h.lt.1 hA).trans h.ta, (h3.block B h.lt.2 hB).trans h.ra, fun j hj => ?_, fun j hj k hk => ?_, fun j l hj hl' hjl k hk hk2 => ?_, fun j hj => ?_, h.ab⟩
  · by_cases e : j = i
    · subst e; dsimp only; rw [upd_same, upd_same]; exact h1
    · dsimp only; rw [upd_ne _ _ e, upd_ne _ _ e]; exact (h.pr j hj).kept h3 (h.apart j i hj hi e)
  · by_cases e : j = i
    · subst e
      dsimp only at hk; rw [upd_same] at hk
      rcases h2 k hk with h4 | h4
      · exact h.own j hj k h4
      · have := h.below.size; have := h.lt; exact ⟨by omega, by omega, by omega⟩
    · dsimp only at hk; rw [upd_ne _ _ e] at hk; exact h.own j hj k hk
  · have far : ∀ j, j < 3 → j ≠ i → ∀ k, T.P j k → ¬ P' k := fun j hj hji k hk hp => by
      rcases h2 k hp with h4 | h4
      · exact h.apart j i hj hi hji k hk h4
      · have := (h.pr j hj).lt k hk; omega
    by_cases e : j = i
    · subst e
      dsimp only at hk hk2; rw [upd_same] at hk; rw [upd_ne _ _ (Ne.symm hjl)] at hk2
      exact far l hl' (Ne.symm hjl) k hk2 hk
    · dsimp only at hk hk2
      rw [upd_ne _ _ e] at hk
      by_cases e2 : l = i
      · subst e2; rw [upd_same] at hk2; exact far j hj e k hk hk2
      · rw [upd_ne _ _ e2] at hk2; exact h.apart j l hj hl' hjl k hk hk2
  · by_cases e : j = i
    · subst e; dsimp only; rw [upd_same]; exact hl
    · dsimp only; rw [upd_ne _ _ e]; exact Nat.le_trans (h.few j hj) hN

theorem set_three {i : Nat} (hi : i < 3) (f : Nat → Value) (v : Value) : (#[f 0, f 1, f 2] : Array Value).setIfInBounds i v = #[upd f i v 0, upd f i v 1, upd f i v 2] := by
  have : i = 0 ∨ i = 1 ∨ i = 2 := by omega
  rcases this with rfl | rfl | rfl <;> rfl
theorem set_block {b i : Nat} {cs : Array Value} {t : TypeId} {fr : Nat × Nat} {v : Value} (h : W.heap[b]? = some (.cells cs t fr)) : (W.setCell ⟨b, i, none⟩ v).heap[b]? = some (.cells (cs.setIfInBounds i v) t fr) := by
  simp only [World.setCell, Array.getElem?_modify, h]
  simp

/-- Both pointers are nil, or none is. -/
def Alike (p q : Value) : Prop := (p = .pointer none ∧ q = .pointer none) ∨ ∃ x y, p = .pointer (some ⟨x, 0, none⟩) ∧ q = .pointer (some ⟨y, 0, none⟩)

/-- A pair takes another's place, behind both copies. -/
theorem PlI.copied {w1 w2 w3 : World} (h : PlI w A B N T W) {i to : Nat} (hi : i < 3) (hto : to < 3) {pc qc : Value} {P' : Nat → Prop} (hb1 : Below W.heap.size W w1) (hb3 : Below w2.heap.size w2 w3) (h2 : w2 = w1.setCell ⟨A, to, none⟩ pc) (hpr : Pr w3 P' pc qc (T.ts i)) (hP : ∀ k, P' k → W.heap.size ≤ k) : Turn (fun k => k = A ∨ k = B) W (w3.setCell ⟨B, to, none⟩ qc) ∧ ∃ T', (∀ j, j < 3 → ∀ k, T'.P j k → T.P j k ∨ W.heap.size ≤ k) ∧ PlI w A B N T' (w3.setCell ⟨B, to, none⟩ qc) := by
  have z1 := hb1.size
  have z3 := hb3.size
  have hlt := h.lt
  have hsz := h.below.size
  have z2 : w2.heap.size = w1.heap.size := by rw [h2]; simp [World.setCell]
  have t1 : Turn (fun k => k = A) w1 w2 := by rw [h2]; exact Turn.setCell (fun k => k = A) w1 ⟨A, to, none⟩ pc rfl
  have t2 : Turn (fun k => k = A) W w2 := ((Turn.of_below hb1).mono (S' := fun k => k = A) (fun k hk e => by omega)).trans t1 (fun _ _ e => e)
  have t3 : Turn (fun k => k = A) W w3 := t2.trans ((Turn.of_below hb3).mono (S' := fun _ => False) (fun k hk e => by omega)) (fun _ _ e => e.elim)
  have t4 : Turn (fun k => k = A ∨ k = B) W (w3.setCell ⟨B, to, none⟩ qc) := (t3.mono (fun _ _ e => .inl e)).trans (Turn.setCell (fun k => k = B) w3 ⟨B, to, none⟩ qc rfl) (fun _ _ e => .inr e)
  have hA2 : w2.heap[A]? = some (.cells #[upd T.p to pc 0, upd T.p to pc 1, upd T.p to pc 2] 25 (0, 0)) := by
    rw [h2, set_block ((hb1.block A hlt.1).trans h.ta), set_three hto]
  have hA3 : (w3.setCell ⟨B, to, none⟩ qc).heap[A]? = some (.cells #[upd T.p to pc 0, upd T.p to pc 1, upd T.p to pc 2] 25 (0, 0)) :=
    (Below.heap_setCell _ _ _ _ h.ab.2.2).trans ((hb3.block A (by omega)).trans hA2)
  have hB3 : w3.heap[B]? = some (.cells #[T.q 0, T.q 1, T.q 2] 30 (0, 0)) := (t3.block B hlt.2 (fun e => h.ab.2.2 e.symm)).trans h.ra
  have hB4 : (w3.setCell ⟨B, to, none⟩ qc).heap[B]? = some (.cells #[upd T.q to qc 0, upd T.q to qc 1, upd T.q to qc 2] 30 (0, 0)) := by
    rw [set_block hB3, set_three hto]
  refine ⟨t4, ⟨upd T.p to pc, upd T.q to qc, upd T.P to P', upd T.ts to (T.ts i)⟩, fun j hj k hk => ?_, h.below.trans (t4.below hsz (fun k e => by have := h.ab; rcases e with rfl | rfl <;> omega)), hA3, hB4, fun j hj => ?_, fun j hj k hk => ?_, fun j l hj hl' hjl k hk hk2 => ?_, fun j hj => ?_, h.ab⟩
  · by_cases e : j = to
    · subst e; dsimp only at hk; rw [upd_same] at hk; exact .inr (hP k hk)
    · dsimp only at hk; rw [upd_ne _ _ e] at hk; exact .inl hk
  · by_cases e : j = to
    · subst e; dsimp only; rw [upd_same, upd_same, upd_same, upd_same]
      exact hpr.kept (Turn.setCell (fun k => k = B) w3 ⟨B, j, none⟩ qc rfl) (fun k hk e => by have := hP k hk; omega)
    · dsimp only; rw [upd_ne _ _ e, upd_ne _ _ e, upd_ne _ _ e, upd_ne _ _ e]
      exact (h.pr j hj).kept t4 (fun k hk e => by have := h.own j hj k hk; rcases e with e | e; exact this.2.1 e; exact this.2.2 e)
  · by_cases e : j = to
    · subst e
      dsimp only at hk; rw [upd_same] at hk
      have := hP k hk
      exact ⟨by omega, by omega, by omega⟩
    · dsimp only at hk; rw [upd_ne _ _ e] at hk; exact h.own j hj k hk
  · have far : ∀ j, j < 3 → ∀ k, T.P j k → ¬ P' k := fun j hj k hk hp => by
      have := hP k hp
      have := (h.pr j hj).lt k hk; omega
    by_cases e : j = to
    · subst e
      dsimp only at hk hk2; rw [upd_same] at hk; rw [upd_ne _ _ (Ne.symm hjl)] at hk2
      exact far l hl' k hk2 hk
    · dsimp only at hk hk2
      rw [upd_ne _ _ e] at hk
      by_cases e2 : l = to
      · subst e2; rw [upd_same] at hk2; exact far j hj k hk hk2
      · rw [upd_ne _ _ e2] at hk2; exact h.apart j l hj hl' hjl k hk hk2
  · by_cases e : j = to
    · subst e; dsimp only; rw [upd_same]; exact h.few i hi
    · dsimp only; rw [upd_ne _ _ e]; exact h.few j hj

/-- Both copies of a pair. -/
theorem copy_pair (h : PlI w A B N T W) {i to : Nat} (hi : i < 3) (hto : to < 3) (hN : N ≤ 1048576) :
    Calls Try.prog 10 #[T.p i] W fun e w1 => ∃ (o1 : Option Addr) (x : Value), e = .returned (.pointer o1) ∧ w1.cell? ⟨A, to, none⟩ = some x ∧ w1.frozen? ⟨A, to, none⟩ = false ∧ (w1.setCell ⟨A, to, none⟩ (.pointer o1)).cell? ⟨B, i, none⟩ = some (T.q i) ∧
      Calls Try.prog 11 #[T.q i] (w1.setCell ⟨A, to, none⟩ (.pointer o1)) fun e w3 => ∃ (o2 : Option Addr) (y : Value), e = .returned (.pointer o2) ∧ w3.cell? ⟨B, to, none⟩ = some y ∧ w3.frozen? ⟨B, to, none⟩ = false ∧ Alike (.pointer o1) (.pointer o2) ∧
        (w3.setCell ⟨B, to, none⟩ (.pointer o2)).cell? ⟨A, to, none⟩ = some (.pointer o1) ∧ (w3.setCell ⟨B, to, none⟩ (.pointer o2)).cell? ⟨B, to, none⟩ = some (.pointer o2) ∧ Turn (fun k => k = A ∨ k = B) W (w3.setCell ⟨B, to, none⟩ (.pointer o2)) ∧ ∃ T', (∀ j, j < 3 → ∀ k, T'.P j k → T.P j k ∨ W.heap.size ≤ k) ∧ PlI w A B N T' (w3.setCell ⟨B, to, none⟩ (.pointer o2)) := by
  have hlt := h.lt
  have hAB := h.ab.2.2
  have hfew := h.few i hi
  -- what is common to both ways
  have key1 : ∀ (w1 : World) (pc : Value), Below W.heap.size W w1 → w1.cell? ⟨A, to, none⟩ = some (T.p to) ∧ w1.frozen? ⟨A, to, none⟩ = false ∧ (w1.setCell ⟨A, to, none⟩ pc).cell? ⟨B, i, none⟩ = some (T.q i) := fun w1 pc hb => by
    have h1 := h.stay hb
    exact ⟨h1.pAt hto, h1.pFree to, (World.cell?_of_block (a := ⟨B, i, none⟩) (Below.heap_setCell w1 _ _ _ (Ne.symm hAB))).trans (h1.qAt hi)⟩
  have key2 : ∀ (w1 w3 : World) (pc qc : Value), Below W.heap.size W w1 → Below (w1.setCell ⟨A, to, none⟩ pc).heap.size (w1.setCell ⟨A, to, none⟩ pc) w3 → w3.cell? ⟨B, to, none⟩ = some (T.q to) ∧ w3.frozen? ⟨B, to, none⟩ = false ∧ (w3.setCell ⟨B, to, none⟩ qc).cell? ⟨A, to, none⟩ = some pc ∧ (w3.setCell ⟨B, to, none⟩ qc).cell? ⟨B, to, none⟩ = some qc := fun w1 w3 pc qc hb hb3 => by
    have h1 := h.stay hb
    have hl1 := h1.lt
    have hsz : (w1.setCell ⟨A, to, none⟩ pc).heap.size = w1.heap.size := by simp [World.setCell]
    have c1 : (w1.setCell ⟨A, to, none⟩ pc).cell? ⟨A, to, none⟩ = some pc := World.cell?_setCell_same' w1 ⟨A, to, none⟩ pc (by rw [h1.pAt hto]; rfl)
    have c2 : w3.cell? ⟨A, to, none⟩ = some pc := (World.cell?_of_block (a := ⟨A, to, none⟩) (hb3.block A (by omega))).trans c1
    have b2 : (w1.setCell ⟨A, to, none⟩ pc).heap[B]? = w1.heap[B]? := Below.heap_setCell w1 _ _ _ (Ne.symm hAB)
    have b3 : w3.heap[B]? = some (.cells #[T.q 0, T.q 1, T.q 2] 30 (0, 0)) := ((hb3.block B (by omega)).trans b2).trans h1.ra
    have c3 : w3.cell? ⟨B, to, none⟩ = some (T.q to) := by simp only [World.cell?, b3]; simpa using three_at hto T.q
    exact ⟨c3, by simp [World.frozen?, b3], (World.cell?_of_block (a := ⟨A, to, none⟩) (Below.heap_setCell w3 _ _ _ hAB)).trans c2, World.cell?_setCell_same' w3 ⟨B, to, none⟩ qc (by rw [c3]; rfl)⟩
  have hpr := h.pr i hi
  have tA : ∀ (w1 : World) (pc : Value), Turn (fun k => k = A) w1 (w1.setCell ⟨A, to, none⟩ pc) := fun w1 pc => Turn.setCell (fun k => k = A) w1 ⟨A, to, none⟩ pc rfl
  rcases hpr with ⟨e1, e2, e3, hP⟩ | ⟨bt, bm, g, cap, br, sv, e1, e2, hT, hR, hd, hP⟩
  · rw [e1]
    refine (copy_no W _ (made_nil W)).mono ?_
    rintro e w1 ⟨rfl, rfl⟩
    obtain ⟨k1, k2, k3⟩ := key1 w1 (.pointer none) (Below.refl _ _)
    refine ⟨_, _, rfl, k1, k2, k3, ?_⟩
    rw [e2]
    refine (rcopy_no _).mono ?_
    rintro e w3 ⟨rfl, rfl⟩
    obtain ⟨l1, l2, l3, l4⟩ := key2 w1 _ (.pointer none) (.pointer none) (Below.refl _ _) (Below.refl _ _)
    exact ⟨_, _, rfl, l1, l2, .inl ⟨rfl, rfl⟩, l3, l4, h.copied hi hto (P' := fun _ => False) (Below.refl _ _) (Below.refl _ _) rfl (.inl ⟨rfl, rfl, e3, fun _ e => e⟩) (fun _ e => e.elim)⟩
  · rw [e1]
    refine (copy_yes hT (by omega)).mono ?_
    rintro e w1 ⟨bc, rfl, bm', g', cap', hT1, f1, f2, f3, hb1⟩
    obtain ⟨k1, k2, k3⟩ := key1 w1 (.pointer (some ⟨bc, 0, none⟩)) hb1
    refine ⟨_, _, rfl, k1, k2, k3, ?_⟩
    rw [e2]
    have hs1 := hb1.size
    have hR2 : RTab (w1.setCell ⟨A, to, none⟩ (.pointer (some ⟨bc, 0, none⟩))) br sv (T.ts i) := (hR.below hb1).kept (tA w1 _) (fun k hk e => (h.own i hi k ((hP k).2 (.inr hk))).2.1 e)
    have hT2 : Tab (w1.setCell ⟨A, to, none⟩ (.pointer (some ⟨bc, 0, none⟩))) bc bm' g' cap' (T.ts i) := hT1.kept (tA w1 _) (by rintro k (rfl | rfl | rfl) e <;> omega)
    have hz2 : (w1.setCell ⟨A, to, none⟩ (.pointer (some ⟨bc, 0, none⟩))).heap.size = w1.heap.size := by simp [World.setCell]
    refine (rcopy_yes hR2 (by omega)).mono ?_
    rintro e w3 ⟨bc', sv', rfl, hR3, g1, g2, hb3⟩
    obtain ⟨l1, l2, l3, l4⟩ := key2 w1 w3 _ (.pointer (some ⟨bc', 0, none⟩)) hb1 hb3
    have hlt2 := hT2.lt
    refine ⟨_, _, rfl, l1, l2, .inr ⟨_, _, rfl, rfl⟩, l3, l4, h.copied hi hto (P' := fun k => foot bc bm' g' k ∨ rfoot bc' sv' k) hb1 hb3 rfl (.inr ⟨bc, bm', g', cap', bc', sv', rfl, rfl, hT2.kept (Turn.of_below hb3) (by rintro k (rfl | rfl | rfl) <;> omega), hR3, ?_, fun _ => Iff.rfl⟩) ?_⟩
    · intro k hk hf
      rcases hf with rfl | hf
      · rcases hk with rfl | rfl | rfl <;> omega
      · have := g2 k hf; rcases hk with rfl | rfl | rfl <;> omega
    · rintro k (hk | hk)
      · rcases hk with rfl | rfl | rfl <;> omega
      · rcases hk with rfl | hk
        · omega
        · have := g2 k hk; omega
end
end Go.Proofs.Ytdmopioiaaecfaa
