/- Two lists of numbers that a loop over an iterator collects. -/
import Derived.Test.YtaikoinakieacaaJH
namespace Go.Proofs.Ytaikoinakieacaa.I
open Go.RowKit Go.Maps Go.Shelf Go.Proofs.Ytaikoinakieacaa

def ints (l : List Int) : List Value := l.map (Value.int .i64)

structure ColS (V X : World) (B1 B2 : Nat) (vp vt : Value) (ps ts : List Int) : Prop where
  row1 : X.ownsRow V.heap.size 3 1 vp ps.length (ints ps)
  row2 : X.ownsRow V.heap.size 3 1 vt ts.length (ints ts)
  box1 : Boxed X B1 47 vp
  box2 : Boxed X B2 47 vt
  ne : ∀ k, vp.ownBlock = some k → vt.ownBlock ≠ some k
  turn : Turn (fun k => k = B1 ∨ k = B2) V X
  lt : B1 < V.heap.size ∧ B2 < V.heap.size ∧ B1 ≠ B2

section
variable {V X : World} {B1 B2 : Nat} {vp vt : Value} {ps ts : List Int}

theorem ColS.swap (h : ColS V X B1 B2 vp vt ps ts) : ColS V X B2 B1 vt vp ts ps :=
  ⟨h.row2, h.row1, h.box2, h.box1, fun k h1 h2 => h.ne k h2 h1, h.turn.mono (fun _ _ h => h.symm), h.lt.2.1, h.lt.1, Ne.symm h.lt.2.2⟩

theorem ColS.app (h : ColS V X B1 B2 vp vt ps ts) (o : Obj) (z : Int) {v' : Value} {w2 : World} (hown : w2.ownsRow V.heap.size 3 1 v' (ps.length + 1) (ints ps ++ [.int .i64 z])) (hgrow : (X.alloc o).grownBy w2 vp.ownBlock) (hloc : v'.ownBlock = vp.ownBlock ∨ v'.ownBlock = some (X.alloc o).heap.size) :
    w2.cell? ⟨B1, 0, none⟩ = some vp ∧ w2.frozen? ⟨B1, 0, none⟩ = false ∧ ColS V (w2.setCell ⟨B1, 0, none⟩ v') B1 B2 v' vt (ps ++ [z]) ts ∧ Turn (fun k => k = B1 ∨ vp.ownBlock = some k) X (w2.setCell ⟨B1, 0, none⟩ v') ∧ (v'.ownBlock = vp.ownBlock ∨ ∃ k, v'.ownBlock = some k ∧ X.heap.size ≤ k) := by
  have hs := h.turn.size
  have hlt := h.lt
  have hp := fun k hk => h.row1.lt k hk
  have ht := fun k hk => h.row2.lt k hk
  have g1 : Turn (fun k => vp.ownBlock = some k) (X.alloc o) w2 := ⟨hgrow.os, hgrow.tape, hgrow.output, hgrow.size, fun k hk hn => hgrow.block k hk (fun e => hn e.symm)⟩
  have t1 : Turn (fun k => k = B1 ∨ vp.ownBlock = some k) X w2 := (Turn.of_stay (Stay.new X o)).trans (g1.mono (fun _ _ h => .inr h))
  have nb : ∀ B, B < V.heap.size → vp.ownBlock ≠ some B := fun B hB e => by have := hp B e; omega
  have b1 : Boxed w2 B1 47 vp := (g1.heap ((Below.heap_alloc X o B1 (by omega)).trans h.box1) (nb B1 hlt.1))
  have b2 : Boxed w2 B2 47 vt := (g1.heap ((Below.heap_alloc X o B2 (by omega)).trans h.box2) (nb B2 hlt.2.1))
  have tt : Turn (fun k => k = B1 ∨ vp.ownBlock = some k) X (w2.setCell ⟨B1, 0, none⟩ v') := t1.set (.inl rfl) _ _
  have hl : v'.ownBlock = vp.ownBlock ∨ ∃ k, v'.ownBlock = some k ∧ X.heap.size ≤ k := by
    rcases hloc with h1 | h1
    · exact .inl h1
    · exact .inr ⟨_, h1, by simp⟩
  have own1 : ∀ k, v'.ownBlock = some k → V.heap.size ≤ k := fun k hk => (hown.lt k hk).1
  refine ⟨b1.cell, b1.frozen, ⟨?_, ?_, ?_, ?_, ?_, ?_, hlt⟩, tt, hl⟩
  · have := hown
    have e : ints (ps ++ [z]) = ints ps ++ [.int .i64 z] := by simp [ints]
    rw [List.length_append, List.length_singleton, e]
    exact ((Turn.refl (fun k => k = B1) w2).set (g := B1) rfl _ _).row this (fun k hk e => by have := own1 k hk; omega)
  · exact tt.row h.row2 (fun k hk e => by
      rcases e with rfl | e
      · have := ht k hk; omega
      · exact h.ne k e hk)
  · have hb : w2.heap[B1]? = some (.cells #[vp] 47 (0, 0)) := b1
    have := heap_setCell_same w2 B1 0 _ _ v' hb
    exact this.trans (by simp)
  · exact (Below.heap_setCell _ _ _ _ (by show B2 ≠ B1; exact Ne.symm hlt.2.2)).trans b2
  · intro k h1 h2
    rcases hl with h3 | ⟨j, h3, h4⟩
    · exact h.ne k (by rw [← h3]; exact h1) h2
    · rw [h1] at h3; simp only [Option.some.injEq] at h3; subst h3
      have := ht k h2; omega
  · exact h.turn.then tt (fun k hk e => by
      rcases e with rfl | e
      · exact .inl rfl
      · have := hp k e; omega)

/-- The rows of the two lists, as their boxes name them. -/
def M2 (B1 B2 : Nat) (W : World) (k : Nat) : Prop := (∃ v : Value, W.cell? ⟨B1, 0, none⟩ = some v ∧ v.ownBlock = some k) ∨ (∃ v : Value, W.cell? ⟨B2, 0, none⟩ = some v ∧ v.ownBlock = some k)

theorem m2_iff (h : ColS V X B1 B2 vp vt ps ts) (k : Nat) : M2 B1 B2 X k ↔ vp.ownBlock = some k ∨ vt.ownBlock = some k := by
  unfold M2
  rw [h.box1.cell, h.box2.cell]
  simp

theorem own_cells {base : Nat} {v : Value} {n : Nat} {xs : List Value} (h : X.ownsRow base 3 1 v n xs) (k : Nat) (hk : v.ownBlock = some k) : ∃ cs t f, X.heap[k]? = some (.cells cs t f) := by
  rcases h.2 with ⟨rfl, _⟩ | ⟨g, cap, cur, rfl, _, hh, _⟩
  · simp [Value.ownBlock] at hk
  · simp [Value.ownBlock] at hk; subst hk; exact ⟨_, _, _, hh⟩

/-- A round that appends to both. -/
theorem ColS.round {X' Y : World} {vp' vt' : Value} {ps' ts' : List Int} (h : ColS V X B1 B2 vp vt ps ts) (h' : ColS V X' B1 B2 vp' vt' ps' ts') (hY : ColS V Y B1 B2 vp' vt ps' ts) (t1 : Turn (fun k => k = B1 ∨ vp.ownBlock = some k) X Y) (t2 : Turn (fun k => k = B2 ∨ vt.ownBlock = some k) Y X')
    (l1 : vp'.ownBlock = vp.ownBlock ∨ ∃ k, vp'.ownBlock = some k ∧ X.heap.size ≤ k) (l2 : vt'.ownBlock = vt.ownBlock ∨ ∃ k, vt'.ownBlock = some k ∧ Y.heap.size ≤ k) : Keep V.heap.size (M2 B1 B2) X X' ∧ KeepsFrom V.heap.size X X' := by
  have hlt := h.lt
  have t12 : Turn (fun k => k = B1 ∨ k = B2 ∨ vp.ownBlock = some k ∨ vt.ownBlock = some k) X X' := (t1.mono (fun k _ hk => by
    rcases hk with h | h
    · exact .inl h
    · exact .inr (.inr (.inl h)))).trans (t2.mono (fun k _ hk => by
    rcases hk with h | h
    · exact .inr (.inl h)
    · exact .inr (.inr (.inr h))))
  refine ⟨⟨t12.size, fun k cs t f hk hc hn => t12.heap hc (fun e => ?_), fun k hm => ?_⟩, ⟨t12.size, fun k o hk hc ho => t12.heap hc (fun e => ?_)⟩⟩
  · rcases e with rfl | rfl | e | e
    · omega
    · omega
    · exact hn ((m2_iff h k).2 (.inl e))
    · exact hn ((m2_iff h k).2 (.inr e))
  · rcases (m2_iff h' k).1 hm with h1 | h1
    · rcases l1 with h2 | ⟨j, h2, h3⟩
      · exact .inl ((m2_iff h k).2 (.inl (by rw [← h2]; exact h1)))
      · rw [h1] at h2; simp only [Option.some.injEq] at h2; subst h2; exact .inr h3
    · rcases l2 with h2 | ⟨j, h2, h3⟩
      · exact .inl ((m2_iff h k).2 (.inr (by rw [← h2]; exact h1)))
      · rw [h1] at h2; simp only [Option.some.injEq] at h2; subst h2; exact .inr (Nat.le_trans t1.size h3)
  · have hcell : ∃ cs t f, X.heap[k]? = some (.cells cs t f) := by
      rcases e with rfl | rfl | e | e
      · omega
      · omega
      · exact own_cells h.row1 k e
      · exact own_cells h.row2 k e
    obtain ⟨cs, t, f, hcc⟩ := hcell
    rw [hc] at hcc; simp only [Option.some.injEq] at hcc; subst hcc; simp [Obj.isCells] at ho

def CI (V X : World) (B1 B2 : Nat) (L : List E) (pre : List Nat) : Prop := ∃ vp vt, ColS V X B1 B2 vp vt (pre.map fun x => ((L[x]?.getD gap).place : Int)) (pre.map fun x => (L[x]?.getD gap).key)

theorem CI.own {L : List E} : OwnFrom V.heap.size (fun pre W => CI V W B1 B2 L pre) := by
  intro pre W W' row h hg hr
  obtain ⟨vp, vt, h⟩ := h
  have ht : Turn (fun k => some k = row) W W' := ⟨hg.os, hg.tape, hg.output, hg.size, fun k hk hn => hg.block k hk hn⟩
  have hno : ∀ k, (∃ cs t f, W.heap[k]? = some (.cells cs t f)) → ¬ some k = row := fun k ⟨cs, t, f, hc⟩ e => by
    obtain ⟨_, o, ho, hic⟩ := hr k e.symm
    rw [hc] at ho; simp only [Option.some.injEq] at ho; subst ho; simp [Obj.isCells] at hic
  refine ⟨vp, vt, ht.row h.row1 (fun k hk => hno k (own_cells h.row1 k hk)), ht.row h.row2 (fun k hk => hno k (own_cells h.row2 k hk)), ht.heap h.box1 (hno _ ⟨_, _, _, h.box1⟩), ht.heap h.box2 (hno _ ⟨_, _, _, h.box2⟩), h.ne, h.turn.then ht (fun k hk e => ?_), h.lt⟩
  have := (hr k e.symm).1
  omega

theorem m2_bump {B : Nat} (h1 : B1 < B) (h2 : B2 < B) (W : World) (l : Nat) (o o' : Obj) (hl : B ≤ l) (h : W.heap[l]? = some o) (hc : o.isCells = false) (_ : o.isWalk = false) : Keep B (M2 B1 B2) W (W.putObj l o') := by
  have hg := grownBy_putObj' W l o'
  have e : ∀ b, b < B → (W.putObj l o').cell? ⟨b, 0, none⟩ = W.cell? ⟨b, 0, none⟩ := fun b hb => World.cell?_of_block (a := ⟨b, 0, none⟩) (hg.block b (by have := (Array.getElem?_eq_some_iff.1 h).1; omega) (fun e => by cases e; omega))
  refine ⟨hg.size, fun k cs t f _ hk _ => (hg.block k (Array.getElem?_eq_some_iff.1 hk).1 (fun e => ?_)).trans hk, fun k hm => .inl ?_⟩
  · cases e; rw [hk] at h; simp only [Option.some.injEq] at h; subst h; simp [Obj.isCells] at hc
  · unfold M2 at *
    rw [e B1 h1, e B2 h2] at hm
    exact hm
theorem m2_alloc {W : World} (h1 : B1 < W.heap.size) (h2 : B2 < W.heap.size) (o : Obj) (k : Nat) (h : M2 B1 B2 (W.alloc o) k) : M2 B1 B2 W k := by
  have e : ∀ b, b < W.heap.size → (W.alloc o).cell? ⟨b, 0, none⟩ = W.cell? ⟨b, 0, none⟩ := fun b hb => World.cell?_of_block (a := ⟨b, 0, none⟩) (Below.heap_alloc W o b hb)
  unfold M2 at *
  rw [e B1 h1, e B2 h2] at h
  exact h
end
end Go.Proofs.Ytaikoinakieacaa.I
