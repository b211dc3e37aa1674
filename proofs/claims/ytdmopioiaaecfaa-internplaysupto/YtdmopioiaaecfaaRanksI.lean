/- ranks: its walk. -/
import Derived.Test.YtdmopioiaaecfaaRanksH
namespace Go.Proofs.Ytdmopioiaaecfaa
open Go.RowKit Go.Maps

abbrev m5 : Value := .int .i64 (-5)
abbrev m6 : Value := .int .i64 (-6)

/-- Four lists, told apart. -/
structure Four (W : World) (n : Nat) (X Y : List Int) (v1 v2 v3 v4 : Value) (w : World) : Prop where
  below : Below W.heap.size W w
  r1 : w.ownsRow W.heap.size 3 1 v1 n (X.map (Value.int .i64))
  r2 : w.ownsRow W.heap.size 3 1 v2 n (Y.map (Value.int .i64))
  r3 : w.ownsRow W.heap.size 3 1 v3 n (X.map (Value.int .i64))
  r4 : w.ownsRow W.heap.size 3 1 v4 n (Y.map (Value.int .i64))
  a12 : ∀ j, v1.ownBlock = some j → v2.ownBlock ≠ some j
  a13 : ∀ j, v1.ownBlock = some j → v3.ownBlock ≠ some j
  a14 : ∀ j, v1.ownBlock = some j → v4.ownBlock ≠ some j
  a23 : ∀ j, v2.ownBlock = some j → v3.ownBlock ≠ some j
  a24 : ∀ j, v2.ownBlock = some j → v4.ownBlock ≠ some j

theorem Four.stay {W w w' : World} {n : Nat} {X Y : List Int} {v1 v2 v3 v4 : Value} (h : Four W n X Y v1 v2 v3 v4 w) (hb : Below w.heap.size w w') : Four W n X Y v1 v2 v3 v4 w' :=
  ⟨h.below.trans (hb.mono h.below.size), row_below h.r1 hb, row_below h.r2 hb, row_below h.r3 hb, row_below h.r4 hb, h.a12, h.a13, h.a14, h.a23, h.a24⟩

theorem four_of {W w1 w2 w3 w4 : World} {n : Nat} {X Y : List Int} {v1 v2 v3 v4 : Value} (r1 : w1.ownsRow W.heap.size 3 1 v1 n (X.map (Value.int .i64))) (h1 : Below W.heap.size W w1) (r2 : w2.ownsRow w1.heap.size 3 1 v2 n (Y.map (Value.int .i64))) (h2 : Below w1.heap.size w1 w2)
    (r3 : w3.ownsRow w2.heap.size 3 1 v3 n (X.map (Value.int .i64))) (h3 : Below w2.heap.size w2 w3) (r4 : w4.ownsRow w3.heap.size 3 1 v4 n (Y.map (Value.int .i64))) (h4 : Below w3.heap.size w3 w4) : Four W n X Y v1 v2 v3 v4 w4 := by
  have s1 := h1.size
  have s2 := h2.size
  have s3 := h3.size
  have s4 := h4.size
  refine ⟨((h1.trans (h2.mono s1)).trans (h3.mono (by omega))).trans (h4.mono (by omega)), row_below (row_below (row_below r1 h2) h3) h4, row_base (row_below (row_below r2 h3) h4) (by omega), row_base (row_below r3 h4) (by omega), row_base r4 (by omega), ?_, ?_, ?_, ?_, ?_⟩
  · intro j e1 e2; have := (r1.lt j e1).2; have := (r2.lt j e2).1; omega
  · intro j e1 e2; have := (r1.lt j e1).2; have := (r3.lt j e2).1; omega
  · intro j e1 e2; have := (r1.lt j e1).2; have := (r4.lt j e2).1; omega
  · intro j e1 e2; have := (r2.lt j e1).2; have := (r3.lt j e2).1; omega
  · intro j e1 e2; have := (r2.lt j e1).2; have := (r4.lt j e2).1; omega

/-- Of a list the first k are written over. -/
def Wrt (W w : World) (v : Value) (n k : Nat) (m : Value) (wr : World) : Prop := ∃ xs, wr.ownsRow W.heap.size 3 1 v n xs ∧ (∀ j, j < k → xs[j]? = some m) ∧ Turn (fun j => v.ownBlock = some j) w wr

theorem Wrt.step {W w wr : World} {v : Value} {n k : Nat} {m : Value} (h : Wrt W w v n k m wr) (hk : k < n) : ∃ g c, v = .slice (some ⟨g, 0, none⟩) n c ∧ (∃ x, wr.cell? ⟨g, k, none⟩ = some x) ∧ wr.frozen? ⟨g, k, none⟩ = false ∧ Wrt W w v n (k + 1) m (wr.setCell ⟨g, k, none⟩ m) := by
  obtain ⟨xs, h1, h2, h3⟩ := h
  have hlx : xs.length = n := by simpa using h1.1
  obtain ⟨g, c, rfl, hx, hf, hr⟩ := row_store h1 hk m
  refine ⟨g, c, rfl, hx, hf, _, hr, fun j hj => ?_, h3.trans (Turn.setCell (fun j => (Value.slice (some ⟨g, 0, none⟩) n c).ownBlock = some j) wr ⟨g, k, none⟩ _ rfl) (fun _ _ e => e)⟩
  rw [List.getElem?_set]
  by_cases e : k = j
  · subst e; simp [hlx, hk]
  · rw [if_neg e]; exact h2 j (by omega)

theorem Wrt.done {W w wr : World} {v : Value} {n : Nat} {m : Value} (h : Wrt W w v n n m wr) : wr.ownsRow W.heap.size 3 1 v n (List.replicate n m) ∧ Turn (fun j => v.ownBlock = some j) w wr := by
  obtain ⟨xs, h1, h2, h3⟩ := h
  have hlx : xs.length = n := by simpa using h1.1
  have : xs = List.replicate n m := by
    apply List.ext_getElem?
    intro j
    by_cases hj : j < n
    · rw [h2 j hj]; simp [hj]
    · rw [List.getElem?_eq_none (by omega), List.getElem?_eq_none (by simp; omega)]
  subst this
  exact ⟨h1, h3⟩

/-- The first n cells of a list are m. -/
def AllM (w : World) (v : Value) (n : Nat) (m : Value) : Prop := ∀ g j, v.ownBlock = some g → j < n → w.cell? ⟨g, j, none⟩ = some m

/-- Both lists grow. -/
structure Grow (W w : World) (n : Nat) (v1 v2 ve vf : Value) (k l : Nat) (wr : World) : Prop where
  e : wr.ownsRow W.heap.size 3 1 ve (n + k) (List.replicate (n + k) m5)
  f : wr.ownsRow W.heap.size 3 1 vf (n + l) (List.replicate (n + l) m6)
  eo : ∀ j, ve.ownBlock = some j → v1.ownBlock = some j ∨ w.heap.size ≤ j
  fo : ∀ j, vf.ownBlock = some j → v2.ownBlock = some j ∨ w.heap.size ≤ j
  ap : ∀ j, ve.ownBlock = some j → vf.ownBlock ≠ some j
  a : AllM wr v1 n m5
  b : AllM wr v2 n m6
  turn : Turn (fun j => v1.ownBlock = some j ∨ v2.ownBlock = some j) w wr

section
variable {W w wr w' : World} {n k l : Nat} {v1 v2 ve vf v' : Value}

theorem allM_row {base n N : Nat} {v m : Value} (h : w.ownsRow base 3 1 v N (List.replicate N m)) (hn : n ≤ N) : AllM w v n m := by
  intro g j hg hj
  rcases h.2 with ⟨rfl, _⟩ | ⟨g', c, cur, rfl, _⟩
  · simp [Value.ownBlock] at hg
  · simp only [Value.ownBlock, Option.some.injEq] at hg
    subst hg
    exact row_cell h j m (by rw [List.getElem?_replicate, if_pos (by omega)])

theorem AllM.turn {S : Nat → Prop} {v m : Value} (h : AllM w v n m) (ht : Turn S w w') (hn : ∀ g, v.ownBlock = some g → ¬ S g) : AllM w' v n m :=
  fun g j hg hj => ht.cell (h g j hg hj) (hn g hg)

theorem Grow.alloc (h : Grow W w n v1 v2 ve vf k l wr) (o : Obj) : Grow W w n v1 v2 ve vf k l (wr.alloc o) :=
  ⟨h.e.alloc _, h.f.alloc _, h.eo, h.fo, h.ap, h.a.turn (Turn.alloc (fun _ => False) wr o) (fun _ _ e => e), h.b.turn (Turn.alloc (fun _ => False) wr o) (fun _ _ e => e), h.turn.trans (Turn.alloc (fun _ => False) wr o) (fun _ _ e => e.elim)⟩

theorem Grow.left (h : Grow W w n v1 v2 ve vf k l wr) (h12 : ∀ j, v1.ownBlock = some j → v2.ownBlock ≠ some j) (h2 : ∀ j, v2.ownBlock = some j → j < w.heap.size) (ho : w'.ownsRow W.heap.size 3 1 v' (n + (k + 1)) (List.replicate (n + (k + 1)) m5)) (hg : wr.grownBy w' ve.ownBlock) (hl : v'.ownBlock = ve.ownBlock ∨ v'.ownBlock = some wr.heap.size) (hk : ∀ g j, ve.ownBlock = some g → j < n + k → w'.cell? ⟨g, j, none⟩ = wr.cell? ⟨g, j, none⟩) :
    Grow W w n v1 v2 v' vf (k + 1) l w' := by
  have ht : Turn (fun j => ve.ownBlock = some j) wr w' := (Turn.of_grown hg).mono (fun i _ e => e.symm)
  have hs := h.turn.size
  refine ⟨ho, ht.row h.f (fun j e1 e2 => h.ap j e2 e1), fun j hj => ?_, h.fo, fun j hj => ?_, fun g j hg' hj => ?_, h.b.turn ht (fun g hg' e => ?_), h.turn.trans ht (fun i hi e => ?_)⟩
  · rcases hl with e | e
    · exact h.eo j (e ▸ hj)
    · rw [e] at hj; simp only [Option.some.injEq] at hj; exact .inr (by omega)
  · rcases hl with e | e
    · exact h.ap j (e ▸ hj)
    · rw [e] at hj; simp only [Option.some.injEq] at hj
      intro e2
      have := (h.f.lt j e2).2
      omega
  · by_cases e : ve.ownBlock = some g
    · rw [hk g j e (by omega)]; exact h.a g j hg' hj
    · exact ht.cell (h.a g j hg' hj) e
  · rcases h.eo g e with e2 | e2
    · exact h12 g e2 hg'
    · have := h2 g hg'; omega
  · rcases h.eo i e with e2 | e2
    · exact .inl e2
    · omega

theorem Grow.right (h : Grow W w n v1 v2 ve vf k l wr) (h12 : ∀ j, v1.ownBlock = some j → v2.ownBlock ≠ some j) (h1 : ∀ j, v1.ownBlock = some j → j < w.heap.size) (ho : w'.ownsRow W.heap.size 3 1 v' (n + (l + 1)) (List.replicate (n + (l + 1)) m6)) (hg : wr.grownBy w' vf.ownBlock) (hl : v'.ownBlock = vf.ownBlock ∨ v'.ownBlock = some wr.heap.size) (hk : ∀ g j, vf.ownBlock = some g → j < n + l → w'.cell? ⟨g, j, none⟩ = wr.cell? ⟨g, j, none⟩) :
    Grow W w n v1 v2 ve v' k (l + 1) w' := by
  have ht : Turn (fun j => vf.ownBlock = some j) wr w' := (Turn.of_grown hg).mono (fun i _ e => e.symm)
  have hs := h.turn.size
  refine ⟨ht.row h.e (fun j e1 e2 => h.ap j e1 e2), ho, h.eo, fun j hj => ?_, fun j hj => ?_, h.a.turn ht (fun g hg' e => ?_), fun g j hg' hj => ?_, h.turn.trans ht (fun i hi e => ?_)⟩
  · rcases hl with e | e
    · exact h.fo j (e ▸ hj)
    · rw [e] at hj; simp only [Option.some.injEq] at hj; exact .inr (by omega)
  · rcases hl with e | e
    · rw [e]; exact h.ap j hj
    · rw [e]
      intro e2
      simp only [Option.some.injEq] at e2
      have := (h.e.lt j hj).2
      omega
  · rcases h.fo g e with e2 | e2
    · exact h12 g hg' e2
    · have := h1 g hg'; omega
  · by_cases e : vf.ownBlock = some g
    · rw [hk g j e (by omega)]; exact h.b g j hg' hj
    · exact ht.cell (h.b g j hg' hj) e
  · rcases h.fo i e with e2 | e2
    · exact .inr e2
    · omega
end
theorem rep_snoc (N : Nat) (m : Value) : List.replicate N m ++ [m] = List.replicate (N + 1) m := by rw [List.replicate_succ']
end Go.Proofs.Ytdmopioiaaecfaa
