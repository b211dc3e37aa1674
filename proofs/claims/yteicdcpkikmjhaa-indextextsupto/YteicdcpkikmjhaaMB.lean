/- The table of texts, beside it the names and the lists in rows of their own. -/
import Derived.Test.YteicdcpkikmjhaaMA
import Derived.Laws.OwnMore
import Derived.RangeFuncBox
namespace Go.Proofs.Yteicdcpkikmjhaa.S
open Go.RowKit Go.Maps Go.Proofs.Yteicdcpkikmjhaa

abbrev Vl := Option Addr × Nat × Nat
def slv (x : Vl) : Value := .slice x.1 x.2.1 x.2.2
def two (x : Vl) : Prop := ∃ b, x = (some ⟨b, 0, none⟩, 2, 2)

structure TX (w wr : World) (bt Bq Bn Bl : Nat) (Fo : Nat → Prop) (vN vL : Value) (P : List Pr) (A : List ByteArray) (C : List Vl) (c : Nat) : Prop where
  pt : PT wr bt Fo P c
  rowN : wr.ownsRow w.heap.size 9 1 vN A.length (A.map Value.string)
  rowL : wr.ownsRow w.heap.size 47 1 vL C.length (C.map slv)
  q : Boxed wr Bq 4 (.bool false)
  boxN : Boxed wr Bn 62 vN
  boxL : Boxed wr Bl 69 vL
  ne : ∀ k, vN.ownBlock = some k → vL.ownBlock ≠ some k
  nf : ∀ k, Fo k → w.heap.size ≤ k ∧ k ≠ Bq ∧ k ≠ Bn ∧ k ≠ Bl ∧ vN.ownBlock ≠ some k ∧ vL.ownBlock ≠ some k
  nb : w.heap.size ≤ Bq ∧ w.heap.size ≤ Bn ∧ w.heap.size ≤ Bl ∧ Bq ≠ Bn ∧ Bq ≠ Bl ∧ Bn ≠ Bl
  no : ∀ k, (vN.ownBlock = some k ∨ vL.ownBlock = some k) → k ≠ Bq ∧ k ≠ Bn ∧ k ≠ Bl
  stay : Stay w wr
  vals : ∀ x ∈ C, two x

section
variable {w wr w' : World} {bt Bq Bn Bl : Nat} {Fo : Nat → Prop} {vN vL : Value} {P : List Pr} {A : List ByteArray} {C : List Vl} {c : Nat}

theorem TX.turn {S : Nat → Prop} (h : TX w wr bt Bq Bn Bl Fo vN vL P A C c) (ht : Turn S wr w') (hS : ∀ k, k < wr.heap.size → S k → w.heap.size ≤ k ∧ ¬ Fo k ∧ k ≠ Bq ∧ k ≠ Bn ∧ k ≠ Bl ∧ vN.ownBlock ≠ some k ∧ vL.ownBlock ≠ some k) : TX w w' bt Bq Bn Bl Fo vN vL P A C c := by
  have hz := h.stay.size
  exact ⟨h.pt.turn ht (fun k hk hs => (hS k (h.pt.lt k hk) hs).2.1 hk), ht.row h.rowN (fun k hk hs => (hS k (h.rowN.lt k hk).2 hs).2.2.2.2.2.1 hk), ht.row h.rowL (fun k hk hs => (hS k (h.rowL.lt k hk).2 hs).2.2.2.2.2.2 hk), ht.heap h.q (fun hs => (hS _ h.q.lt hs).2.2.1 rfl), ht.heap h.boxN (fun hs => (hS _ h.boxN.lt hs).2.2.2.1 rfl), ht.heap h.boxL (fun hs => (hS _ h.boxL.lt hs).2.2.2.2.1 rfl), h.ne, h.nf, h.nb, h.no, ht.stay h.stay (fun k hk hs => by have := (hS k (by omega) hs).1; omega), h.vals⟩
theorem TX.go (h : TX w wr bt Bq Bn Bl Fo vN vL P A C c) (ht : Stay wr w') : TX w w' bt Bq Bn Bl Fo vN vL P A C c := h.turn (S := fun _ => False) (Turn.of_stay ht) (fun _ _ hs => hs.elim)

/-- Behind a call on the table. -/
theorem TX.tab (h : TX w wr bt Bq Bn Bl Fo vN vL P A C c) {Fo' : Nat → Prop} {P' : List Pr} {c' : Nat} (hp : PT w' bt Fo' P' c') (ht : Turn Fo wr w') (hf : ∀ k, Fo' k → Fo k ∨ wr.heap.size ≤ k) : TX w w' bt Bq Bn Bl Fo' vN vL P' A C c' := by
  have hz := h.stay.size
  have l1 := h.q.lt
  have l2 := h.boxN.lt
  have l3 := h.boxL.lt
  refine ⟨hp, ht.row h.rowN (fun k hk hs => (h.nf k hs).2.2.2.2.1 hk), ht.row h.rowL (fun k hk hs => (h.nf k hs).2.2.2.2.2 hk), ht.heap h.q (fun hs => (h.nf _ hs).2.1 rfl), ht.heap h.boxN (fun hs => (h.nf _ hs).2.2.1 rfl), ht.heap h.boxL (fun hs => (h.nf _ hs).2.2.2.1 rfl), h.ne, fun k hk => ?_, h.nb, h.no, ht.stay h.stay (fun k hk hs => by have := (h.nf k hs).1; omega), h.vals⟩
  rcases hf k hk with h1 | h1
  · exact h.nf k h1
  · exact ⟨by omega, by omega, by omega, by omega, fun e => by have := (h.rowN.lt k e).2; omega, fun e => by have := (h.rowL.lt k e).2; omega⟩

theorem box_set {W : World} {b : Nat} {t : TypeId} {v v' : Value} (h : Boxed W b t v) : Boxed (W.setCell ⟨b, 0, none⟩ v') b t v' := h.set v'

/-- Another row for the names: grown, or new. -/
theorem TX.setN (h : TX w wr bt Bq Bn Bl Fo vN vL P A C c) {v1 : Value} {A' : List ByteArray} (ht : Turn (fun k => vN.ownBlock = some k) wr w') (hr : w'.ownsRow w.heap.size 9 1 v1 A'.length (A'.map Value.string)) (hl : ∀ k, v1.ownBlock = some k → vN.ownBlock = some k ∨ wr.heap.size ≤ k) :
    w'.cell? ⟨Bn, 0, none⟩ = some vN ∧ w'.frozen? ⟨Bn, 0, none⟩ = false ∧ TX w (w'.setCell ⟨Bn, 0, none⟩ v1) bt Bq Bn Bl Fo v1 vL P A' C c := by
  have hz := h.stay.size
  have l1 := h.q.lt
  have l2 := h.boxN.lt
  have l3 := h.boxL.lt
  have hnb := h.nb
  have b1 : Boxed w' Bn 62 vN := ht.heap h.boxN (fun e => (h.no _ (.inl e)).2.1 rfl)
  have ts : Turn (fun k => k = Bn) w' (w'.setCell ⟨Bn, 0, none⟩ v1) := (Turn.refl (fun k => k = Bn) w').set (g := Bn) rfl _ _
  have hown : ∀ k, v1.ownBlock = some k → k ≠ Bq ∧ k ≠ Bn ∧ k ≠ Bl ∧ vL.ownBlock ≠ some k := fun k hk => by
    rcases hl k hk with h1 | h1
    · have := h.no k (.inl h1)
      exact ⟨this.1, this.2.1, this.2.2, h.ne k h1⟩
    · exact ⟨by omega, by omega, by omega, fun e => by have := (h.rowL.lt k e).2; omega⟩
  refine ⟨b1.cell, b1.frozen, ⟨(h.pt.turn ht (fun k hk hs => (h.nf k hk).2.2.2.2.1 hs)).turn ts (fun k hk hs => (h.nf k hk).2.2.1 hs), ts.row hr (fun k hk hs => (hown k hk).2.1 hs), ts.row (ht.row h.rowL (fun k hk hs => h.ne k hs hk)) (fun k hk hs => (h.no k (.inr hk)).2.1 hs), ts.heap (ht.heap h.q (fun hs => (h.no _ (.inl hs)).1 rfl)) (by omega), box_set b1, ts.heap (ht.heap h.boxL (fun hs => (h.no _ (.inl hs)).2.2 rfl)) (by omega), fun k hk => (hown k hk).2.2.2, fun k hk => ?_, h.nb, fun k hk => ?_, ts.stay (ht.stay h.stay (fun k hk hs => by have := (h.rowN.lt k hs).1; omega)) (fun k hk hs => by omega), h.vals⟩⟩
  · have := h.nf k hk
    refine ⟨this.1, this.2.1, this.2.2.1, this.2.2.2.1, fun e => ?_, this.2.2.2.2.2⟩
    rcases hl k e with h1 | h1
    · exact this.2.2.2.2.1 h1
    · have := h.pt.lt k hk; omega
  · rcases hk with hk | hk
    · have := hown k hk; exact ⟨this.1, this.2.1, this.2.2.1⟩
    · exact h.no k (.inr hk)

/-- Another row for the lists: grown, or new. -/
theorem TX.setL (h : TX w wr bt Bq Bn Bl Fo vN vL P A C c) {v1 : Value} {C' : List Vl} (ht : Turn (fun k => vL.ownBlock = some k) wr w') (hr : w'.ownsRow w.heap.size 47 1 v1 C'.length (C'.map slv)) (hl : ∀ k, v1.ownBlock = some k → vL.ownBlock = some k ∨ wr.heap.size ≤ k) (hv : ∀ x ∈ C', two x) :
    w'.cell? ⟨Bl, 0, none⟩ = some vL ∧ w'.frozen? ⟨Bl, 0, none⟩ = false ∧ TX w (w'.setCell ⟨Bl, 0, none⟩ v1) bt Bq Bn Bl Fo vN v1 P A C' c := by
  have hz := h.stay.size
  have l1 := h.q.lt
  have l2 := h.boxN.lt
  have l3 := h.boxL.lt
  have hnb := h.nb
  have b1 : Boxed w' Bl 69 vL := ht.heap h.boxL (fun e => (h.no _ (.inr e)).2.2 rfl)
  have ts : Turn (fun k => k = Bl) w' (w'.setCell ⟨Bl, 0, none⟩ v1) := (Turn.refl (fun k => k = Bl) w').set (g := Bl) rfl _ _
  have hown : ∀ k, v1.ownBlock = some k → k ≠ Bq ∧ k ≠ Bn ∧ k ≠ Bl ∧ vN.ownBlock ≠ some k := fun k hk => by
    rcases hl k hk with h1 | h1
    · have := h.no k (.inr h1)
      exact ⟨this.1, this.2.1, this.2.2, fun e => h.ne k e h1⟩
    · exact ⟨by omega, by omega, by omega, fun e => by have := (h.rowN.lt k e).2; omega⟩
  refine ⟨b1.cell, b1.frozen, ⟨(h.pt.turn ht (fun k hk hs => (h.nf k hk).2.2.2.2.2 hs)).turn ts (fun k hk hs => (h.nf k hk).2.2.2.1 hs), ts.row (ht.row h.rowN (fun k hk hs => h.ne k hk hs)) (fun k hk hs => (h.no k (.inl hk)).2.2 hs), ts.row hr (fun k hk hs => (hown k hk).2.2.1 hs), ts.heap (ht.heap h.q (fun hs => (h.no _ (.inr hs)).1 rfl)) (by omega), ts.heap (ht.heap h.boxN (fun hs => (h.no _ (.inr hs)).2.1 rfl)) (by omega), box_set b1, fun k hk e => (hown k e).2.2.2 hk, fun k hk => ?_, h.nb, fun k hk => ?_, ts.stay (ht.stay h.stay (fun k hk hs => by have := (h.rowL.lt k hs).1; omega)) (fun k hk hs => by omega), hv⟩⟩
  · have := h.nf k hk
    refine ⟨this.1, this.2.1, this.2.2.1, this.2.2.2.1, this.2.2.2.2.1, fun e => ?_⟩
    rcases hl k e with h1 | h1
    · exact this.2.2.2.2.2 h1
    · have := h.pt.lt k hk; omega
  · rcases hk with hk | hk
    · exact h.no k (.inl hk)
    · have := hown k hk; exact ⟨this.1, this.2.1, this.2.2.1⟩

/-- A list in the row is changed for another one. -/
theorem TX.putL (h : TX w wr bt Bq Bn Bl Fo vN vL P A C c) {g cap : Nat} (hv : vL = .slice (some ⟨g, 0, none⟩) C.length cap) (j : Nat) (x : Vl) (hx : two x) : wr.frozen? ⟨g, j, none⟩ = false ∧ TX w (wr.setCell ⟨g, j, none⟩ (slv x)) bt Bq Bn Bl Fo vN vL P A (C.set j x) c := by
  subst hv
  have ts : Turn (fun k => k = g) wr (wr.setCell ⟨g, j, none⟩ (slv x)) := (Turn.refl (fun k => k = g) wr).set (g := g) rfl _ _
  have hg : (Value.slice (some ⟨g, 0, none⟩) C.length cap).ownBlock = some g := rfl
  have hno := h.no g (.inr hg)
  have hb := (h.rowL.lt g hg).1
  have hst := (h.rowL.stored j (slv x)).1
  refine ⟨h.rowL.frozenAt j, ⟨h.pt.turn ts (fun k hk e => (h.nf k hk).2.2.2.2.2 (by rw [e]; rfl)), ts.row h.rowN (fun k hk e => h.ne k hk (by rw [e]; rfl)), ?_, ts.heap h.q (fun e => hno.1 e.symm), ts.heap h.boxN (fun e => hno.2.1 e.symm), ts.heap h.boxL (fun e => hno.2.2 e.symm), h.ne, h.nf, h.nb, h.no, ts.stay h.stay (fun k hk e => by omega), fun y hy => ?_⟩⟩
  · rw [List.length_set, List.map_set]; exact hst
  · rcases List.mem_or_eq_of_mem_set hy with h1 | h1
    · exact h.vals y h1
    · rw [h1]; exact hx
end
end Go.Proofs.Yteicdcpkikmjhaa.S
