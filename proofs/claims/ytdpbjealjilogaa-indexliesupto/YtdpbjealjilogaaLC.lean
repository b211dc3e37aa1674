/- A new table whose pointer lies in a box that is made at any time among the calls: the states in between. -/
import Derived.Test.YtdpbjealjilogaaLB
import Derived.Test.YtdpbjealjilogaaJF
import Derived.Test.YtdpbjealjilogaaIS
namespace Go.Proofs.Ytdpbjealjilogaa.I
open Go.RowKit Go.Maps Go.Shelf Go.Proofs.Ytdpbjealjilogaa

/-- From w0 on: the box of the table's pointer (if it is made by now), the box of the way, the answer's box. -/
structure St0 (w0 W : World) (Bw : Nat) (way : Int) (Bq : Nat) (B : Option Nat) : Prop where
  stay : Stay w0 W
  bw : Boxed w0 Bw 3 (.int .i64 way)
  q : Boxed w0 Bq 4 (.bool false)
  ok : KeyOk way
  box : ∀ Bt, B = some Bt → Boxed W Bt 24 (.pointer none) ∧ w0.heap.size ≤ Bt
structure St1 (w0 W : World) (Bw : Nat) (way : Int) (Bq : Nat) (b1 : Nat) (B : Option Nat) : Prop extends St0 w0 W Bw way Bq B where
  h1 : Boxed W b1 3 (.int .i64 way)
  l1 : w0.heap.size ≤ b1
  n1 : B ≠ some b1
structure St2 (w0 W : World) (Bw : Nat) (way : Int) (Bq : Nat) (b1 b2 : Nat) (B : Option Nat) : Prop extends St1 w0 W Bw way Bq b1 B where
  h2 : Boxed W b2 3 (.int .i64 way)
  l2 : w0.heap.size ≤ b2
  n2 : B ≠ some b2
structure St3 (w0 W : World) (Bw : Nat) (way : Int) (Bq : Nat) (b1 b2 bt pt : Nat) (B : Option Nat) : Prop extends St2 w0 W Bw way Bq b1 b2 B where
  tab : Tab W bt (b1, b2, way) (.slice none 0 0) pt 8 0 0 [] (List.replicate 8 0)
  l3 : w0.heap.size ≤ bt ∧ w0.heap.size ≤ pt
  n3 : B ≠ some bt ∧ B ≠ some pt

section
variable {w0 W W' : World} {Bw : Nat} {way : Int} {Bq b1 b2 bt pt : Nat} {B : Option Nat}

theorem box_stay {t : TypeId} {v : Value} {b : Nat} (h : Boxed W b t v) (hs : Stay W W') : Boxed W' b t v := (hs.block _ h.lt).trans h

theorem St0.go (h : St0 w0 W Bw way Bq B) (hs : Stay W W') : St0 w0 W' Bw way Bq B :=
  ⟨h.stay.trans hs, h.bw, h.q, h.ok, fun Bt e => ⟨box_stay (h.box Bt e).1 hs, (h.box Bt e).2⟩⟩
theorem St0.alloc (h : St0 w0 W Bw way Bq none) : St0 w0 (W.alloc (.cells #[.pointer none] 24)) Bw way Bq (some W.heap.size) :=
  ⟨h.stay.alloc _, h.bw, h.q, h.ok, fun Bt e => by cases e; exact ⟨Boxed.new _ _ _, h.stay.size⟩⟩
theorem St1.go (h : St1 w0 W Bw way Bq b1 B) (hs : Stay W W') : St1 w0 W' Bw way Bq b1 B :=
  { h.toSt0.go hs with h1 := box_stay h.h1 hs, l1 := h.l1, n1 := h.n1 }
theorem St1.alloc (h : St1 w0 W Bw way Bq b1 none) : St1 w0 (W.alloc (.cells #[.pointer none] 24)) Bw way Bq b1 (some W.heap.size) :=
  { h.toSt0.alloc with h1 := h.h1.alloc _, l1 := h.l1, n1 := fun e => by have := h.h1.lt; cases e; omega }
theorem St2.go (h : St2 w0 W Bw way Bq b1 b2 B) (hs : Stay W W') : St2 w0 W' Bw way Bq b1 b2 B :=
  { h.toSt1.go hs with h2 := box_stay h.h2 hs, l2 := h.l2, n2 := h.n2 }
theorem St2.alloc (h : St2 w0 W Bw way Bq b1 b2 none) : St2 w0 (W.alloc (.cells #[.pointer none] 24)) Bw way Bq b1 b2 (some W.heap.size) :=
  { h.toSt1.alloc with h2 := h.h2.alloc _, l2 := h.l2, n2 := fun e => by have := h.h2.lt; cases e; omega }
theorem St3.alloc (h : St3 w0 W Bw way Bq b1 b2 bt pt none) : St3 w0 (W.alloc (.cells #[.pointer none] 24)) Bw way Bq b1 b2 bt pt (some W.heap.size) :=
  { h.toSt2.alloc with
    tab := h.tab.turn (S := fun _ => False) (Turn.of_stay (Stay.new _ _)) (fun _ _ e => e) (fun _ _ e => e), l3 := h.l3
    n3 := by
      have l1 := h.tab.box.lt
      have l2 := h.tab.lt pt (.inl (.inr (.inl rfl)))
      exact ⟨fun e => by cases e; omega, fun e => by cases e; omega⟩ }

theorem St0.hashes (h : St0 w0 W Bw way Bq B) : Calls Try.prog 10 #[.int .i64 way] W fun e w' => ∃ b1, e = .returned (.func (.func 36) #[] #[.pointer (some ⟨b1, 0, none⟩)]) ∧ St1 w0 w' Bw way Bq b1 B := by
  refine (hashes_any W way).mono ?_
  rintro e w' ⟨rfl, rfl⟩
  exact ⟨_, rfl, { h.go (Stay.new _ _) with h1 := Boxed.new _ _ _, l1 := h.stay.size, n1 := fun e => by have := (h.box _ e).1.lt; omega }⟩
theorem St1.sames (h : St1 w0 W Bw way Bq b1 B) : Calls Try.prog 11 #[.int .i64 way] W fun e w' => ∃ b2, e = .returned (.func (.func 38) #[] #[.pointer (some ⟨b2, 0, none⟩)]) ∧ St2 w0 w' Bw way Bq b1 b2 B := by
  refine (sames_any W way).mono ?_
  rintro e w' ⟨rfl, rfl⟩
  exact ⟨_, rfl, { h.go (Stay.new _ _) with h2 := Boxed.new _ _ _, l2 := h.stay.size, n2 := fun e => by have := (h.box _ e).1.lt; omega }⟩
theorem St2.make (h : St2 w0 W Bw way Bq b1 b2 B) : Calls Try.prog 9 #[(.func (.func 36) #[] #[.pointer (some ⟨b1, 0, none⟩)]), (.func (.func 38) #[] #[.pointer (some ⟨b2, 0, none⟩)])] W fun e w' => ∃ bt pt, e = .returned (.tuple #[.pointer (some ⟨bt, 0, none⟩), .int .i64 0]) ∧ St3 w0 w' Bw way Bq b1 b2 bt pt B := by
  refine (new_any (fp := (b1, b2, way)) ⟨h.h1.cell, h.h2.cell, h.ok⟩).mono ?_
  rintro e w' ⟨rfl, hT, hS⟩
  have hz := h.stay.size
  exact ⟨_, _, rfl, { h.go hS with tab := hT, l3 := by omega, n3 := ⟨fun e => by have := (h.box _ e).1.lt; omega, fun e => by have := (h.box _ e).1.lt; omega⟩ }⟩

theorem St3.cell {Bt : Nat} (h : St3 w0 W Bw way Bq b1 b2 bt pt (some Bt)) : W.cell? ⟨Bt, 0, none⟩ = some (.pointer none) := (h.box Bt rfl).1.cell
theorem St3.frozen {Bt : Nat} (h : St3 w0 W Bw way Bq b1 b2 bt pt (some Bt)) : W.frozen? ⟨Bt, 0, none⟩ = false := (h.box Bt rfl).1.frozen
theorem St0.load (h : St0 w0 W Bw way Bq B) : W.cell? ⟨Bw, 0, none⟩ = some (.int .i64 way) := (box_stay h.bw h.stay).cell
theorem St0.lt (h : St0 w0 W Bw way Bq B) : Bw < W.heap.size := (box_stay h.bw h.stay).lt

/-- A new table, its pointer in its box. -/
structure One (w0 W : World) (Bw : Nat) (way : Int) (Bq b1 b2 bt pt Bt : Nat) : Prop where
  tab : Tab W bt (b1, b2, way) (.slice none 0 0) pt 8 0 0 [] (List.replicate 8 0)
  box : Boxed W Bt 24 (.pointer (some ⟨bt, 0, none⟩))
  stay : Stay w0 W
  new : w0.heap.size ≤ b1 ∧ w0.heap.size ≤ b2 ∧ w0.heap.size ≤ bt ∧ w0.heap.size ≤ pt ∧ w0.heap.size ≤ Bt
  ne : bt ≠ Bt ∧ pt ≠ Bt ∧ b1 ≠ Bt ∧ b2 ≠ Bt ∧ bt ≠ pt ∧ b1 ≠ bt ∧ b1 ≠ pt ∧ b2 ≠ bt ∧ b2 ≠ pt

theorem St3.one {Bt : Nat} (h : St3 w0 W Bw way Bq b1 b2 bt pt (some Bt)) : One w0 (W.setCell ⟨Bt, 0, none⟩ (.pointer (some ⟨bt, 0, none⟩))) Bw way Bq b1 b2 bt pt Bt := by
  have n1 : b1 ≠ Bt := fun e => h.n1 (by rw [e])
  have n2 : b2 ≠ Bt := fun e => h.n2 (by rw [e])
  have n3 : bt ≠ Bt := fun e => h.n3.1 (by rw [e])
  have n4 : pt ≠ Bt := fun e => h.n3.2 (by rw [e])
  have hb := h.box Bt rfl
  have a1 := h.tab.apart b1 (.inl rfl)
  have a2 := h.tab.apart b2 (.inr rfl)
  have ht : Turn (fun k => k = Bt) W (W.setCell ⟨Bt, 0, none⟩ (.pointer (some ⟨bt, 0, none⟩))) := (Turn.refl (fun k => k = Bt) W).set (g := Bt) rfl _ _
  refine ⟨h.tab.turn ht (fun k hk e => ?_) (fun k hk e => ?_), hb.1.set _, ht.stay h.stay (fun k hk e => by omega), ⟨h.l1, h.l2, h.l3.1, h.l3.2, hb.2⟩, ⟨n3, n4, n1, n2, h.tab.two.1, a1.1, a1.2.1, a2.1, a2.2.1⟩⟩
  · rcases hk with hk | hk | hk
    · omega
    · omega
    · simp [Value.ownBlock] at hk
  · rcases hk with hk | hk <;> (dsimp only at hk; omega)

theorem St3.one_new (h : St3 w0 W Bw way Bq b1 b2 bt pt none) : One w0 (W.alloc (.cells #[.pointer (some ⟨bt, 0, none⟩)] 24)) Bw way Bq b1 b2 bt pt W.heap.size := by
  have l1 := h.tab.box.lt
  have l2 := h.tab.lt pt (.inl (.inr (.inl rfl)))
  have l3 := h.h1.lt
  have l4 := h.h2.lt
  have a1 := h.tab.apart b1 (.inl rfl)
  have a2 := h.tab.apart b2 (.inr rfl)
  have hz := h.stay.size
  exact ⟨h.tab.turn (S := fun _ => False) (Turn.of_stay (Stay.new _ _)) (fun _ _ e => e) (fun _ _ e => e), Boxed.new _ _ _, h.stay.alloc _, ⟨h.l1, h.l2, h.l3.1, h.l3.2, hz⟩, ⟨by omega, by omega, by omega, by omega, h.tab.two.1, a1.1, a1.2.1, a2.1, a2.2.1⟩⟩

theorem TabI.stay {wr wr' : World} {pb0 c : Nat} {fp : Nat × Nat × Int} (h : TabI w0 wr bt pb0 fp c) (hs : Stay wr wr') : TabI w0 wr' bt pb0 fp c := by
  obtain ⟨cv, pb, N, len, reach, came, places, hT, hc, ht, hf⟩ := h
  exact ⟨cv, pb, N, len, reach, came, places, hT.turn (S := fun _ => False) (Turn.of_stay hs) (fun _ _ e => e) (fun _ _ e => e), hc, ht.trans (Turn.of_stay hs), hf⟩

theorem infoBool : (Try.prog.info? 4).map (fun i => (i.zero, i.size, i.bytes)) = some (some (.bool false), 1, 1) := by kernel_rfl
/-- A row of bools. -/
def bools (l : List Bool) : List Value := l.map Value.bool
theorem run_makeBools (n : Nat) (hn : n ≤ 140737488355328) (W : World) :
    (Instr.makeSlice 63 (.int .i64 n) (.int .i64 n)).run Try.prog W = .ok (.slice (some ⟨W.heap.size, 0, none⟩) n n) (W.alloc (.cells (bools (List.replicate n false)).toArray 4)) := by
  obtain ⟨i, hi, hz0, hz1, hz2⟩ := info_parts infoBool
  have h := run_make (P := Try.prog) W 63 4 i _ Try.underlying63 hi hz0 .i64 .i64 n n (by omega) (by omega) (by rw [hz2]; omega) (by omega)
  rw [hz1] at h
  have e : madeCells #[.bool false] n = (bools (List.replicate n false)).toArray := by
    unfold bools
    rw [List.map_replicate, ← toList_madeCells_one]
  rw [← e]
  simpa [Value.cells] using h

/-- A row of bools in memory. -/
def BoolsB (W : World) (g : Nat) (f : Nat → Bool) (N : Nat) : Prop := W.heap[g]? = some (.cells (bools ((List.range N).map f)).toArray 4)
theorem BoolsB.cell {W : World} {g N : Nat} {f : Nat → Bool} (h : BoolsB W g f N) {p : Nat} (hp : p < N) : W.cell? ⟨g, p, none⟩ = some (.bool (f p)) := by
  simp [World.cell?, show W.heap[g]? = _ from h, bools, hp]
theorem BoolsB.frozen {W : World} {g N : Nat} {f : Nat → Bool} (h : BoolsB W g f N) (p : Nat) : W.frozen? ⟨g, p, none⟩ = false := by
  simp [World.frozen?, show W.heap[g]? = _ from h]
theorem BoolsB.lt {W : World} {g N : Nat} {f : Nat → Bool} (h : BoolsB W g f N) : g < W.heap.size := (Array.getElem?_eq_some_iff.1 h).1
theorem BoolsB.new (W : World) (N : Nat) : BoolsB (W.alloc (.cells (bools (List.replicate N false)).toArray 4)) W.heap.size (fun _ => false) N := by
  have e : (List.range N).map (fun _ => false) = List.replicate N false := by
    rw [List.map_const', List.length_range]
  unfold BoolsB
  rw [e]
  exact World.alloc_heap_new W _
theorem BoolsB.set {W : World} {g N : Nat} {f : Nat → Bool} (h : BoolsB W g f N) (p : Nat) : BoolsB (W.setCell ⟨g, p, none⟩ (.bool true)) g (fun q => f q || p == q) N := by
  obtain ⟨hlt, hk⟩ := Array.getElem?_eq_some_iff.1 h
  show (W.heap.modify g _)[g]? = _
  rw [Array.getElem?_eq_getElem (by rw [Array.size_modify]; exact hlt), Array.getElem_modify_self, hk]
  have e : (bools ((List.range N).map f)).toArray.setIfInBounds p (.bool true) = (bools ((List.range N).map fun q => f q || p == q)).toArray := by
    apply Array.ext
    · simp [bools]
    · intro i h1 h2
      simp only [bools, List.getElem_toArray, List.getElem_map, List.getElem_range]
      by_cases hpi : p = i
      · subst hpi; simp
      · simp [hpi]
  exact congrArg (fun c => some (Obj.cells c 4)) e
end
end Go.Proofs.Ytdpbjealjilogaa.I
