/- What lies in memory while IndexLies goes over a layout. -/
import Derived.Test.YtdpbjealjilogaaLD
namespace Go.Proofs.Ytdpbjealjilogaa.I
open Go.RowKit Go.Maps Go.Shelf Go.Proofs.Ytdpbjealjilogaa

/-- The table, the boxes of the way, the answer, the table's pointer, the size, the marks' row, the iterator. -/
structure LY (w X : World) (way : Int) (bt Bt Bs g : Nat) (fp : Nat × Nat × Int) (cv : Value) (pb N len reach : Nat) (came : List E) (places : List Nat) : Prop where
  tab : Tab X bt fp cv pb N len reach came places
  fpw : fp.2.2 = way
  bw : Boxed X w.heap.size 3 (.int .i64 way)
  q : Boxed X (w.heap.size + 1) 4 (.bool false)
  ptr : Boxed X Bt 24 (.pointer (some ⟨bt, 0, none⟩))
  size : Boxed X Bs 3 (.int .i64 (N : Int))
  full : Boxed X (g + 1) 63 (.slice (some ⟨g, 0, none⟩) N N)
  it : Boxed X (g + 1 + 1) 24 (.pointer (some ⟨bt, 0, none⟩))
  old : ∀ k, (foot bt pb cv k ∨ fnfoot fp k ∨ k = w.heap.size ∨ k = w.heap.size + 1 ∨ k = Bt ∨ k = Bs) → k < g
  stay : Stay w X

section
variable {w X X' Y : World} {way : Int} {bt Bt Bs g pb N len reach : Nat} {fp : Nat × Nat × Int} {cv : Value} {came : List E} {places : List Nat}

theorem LY.turn {S : Nat → Prop} (h : LY w X way bt Bt Bs g fp cv pb N len reach came places) (ht : Turn S X X') (hS : ∀ k, S k → g ≤ k ∧ k ≠ g + 1 ∧ k ≠ g + 1 + 1) : LY w X' way bt Bt Bs g fp cv pb N len reach came places := by
  have ho : ∀ k, (foot bt pb cv k ∨ fnfoot fp k ∨ k = w.heap.size ∨ k = w.heap.size + 1 ∨ k = Bt ∨ k = Bs) → ¬ S k := fun k hk hs => by
    have := h.old k hk
    have := (hS k hs).1
    omega
  have hw := h.old w.heap.size (.inr (.inr (.inl rfl)))
  exact ⟨h.tab.turn ht (fun k hk => ho k (.inl hk)) (fun k hk => ho k (.inr (.inl hk))), h.fpw, ht.heap h.bw (ho _ (.inr (.inr (.inl rfl)))), ht.heap h.q (ho _ (.inr (.inr (.inr (.inl rfl))))), ht.heap h.ptr (ho _ (.inr (.inr (.inr (.inr (.inl rfl)))))), ht.heap h.size (ho _ (.inr (.inr (.inr (.inr (.inr rfl)))))), ht.heap h.full (fun hs => (hS _ hs).2.1 rfl), ht.heap h.it (fun hs => (hS _ hs).2.2 rfl), h.old, ht.stay h.stay (fun k hk hs => by have := (hS k hs).1; omega)⟩
theorem LY.go (h : LY w X way bt Bt Bs g fp cv pb N len reach came places) (hs : Stay X X') : LY w X' way bt Bt Bs g fp cv pb N len reach came places :=
  h.turn (S := fun _ => False) (Turn.of_stay hs) (fun _ e => e.elim)

/-- The blocks that are made ahead of the loops. -/
theorem lies_new (hT : Tab Y bt fp cv pb N len reach came places) (hfp : fp.2.2 = way) (hbw : Boxed Y w.heap.size 3 (.int .i64 way)) (hq : Boxed Y (w.heap.size + 1) 4 (.bool false)) (hp : Boxed Y Bt 24 (.pointer (some ⟨bt, 0, none⟩))) (hs : Boxed Y Bs 3 (.int .i64 (N : Int))) (hst : Stay w Y) {V : World}
    (hV : (((Y.alloc (.cells (bools (List.replicate N false)).toArray 4)).alloc (.cells #[.slice (some ⟨Y.heap.size, 0, none⟩) N N] 63)).alloc (.cells #[.pointer (some ⟨bt, 0, none⟩)] 24)).alloc (.cells #[.int .i64 0] 3) = V) :
    LY w V way bt Bt Bs Y.heap.size fp cv pb N len reach came places ∧ BoolsB V Y.heap.size (fun _ => false) N ∧ Boxed V (Y.heap.size + 1 + 1 + 1) 3 (.int .i64 0) ∧ V.heap.size = Y.heap.size + 4 := by
  subst hV
  have h1 := BoolsB.new Y N
  have b1 := Boxed.new (Y.alloc (.cells (bools (List.replicate N false)).toArray 4)) 63 (.slice (some ⟨Y.heap.size, 0, none⟩) N N)
  have b2 := Boxed.new ((Y.alloc (.cells (bools (List.replicate N false)).toArray 4)).alloc (.cells #[.slice (some ⟨Y.heap.size, 0, none⟩) N N] 63)) 24 (.pointer (some ⟨bt, 0, none⟩))
  have b3 := Boxed.new (((Y.alloc (.cells (bools (List.replicate N false)).toArray 4)).alloc (.cells #[.slice (some ⟨Y.heap.size, 0, none⟩) N N] 63)).alloc (.cells #[.pointer (some ⟨bt, 0, none⟩)] 24)) 3 (.int .i64 0)
  simp only [World.size_alloc] at b1 b2 b3
  have s1 : Stay (Y.alloc (.cells (bools (List.replicate N false)).toArray 4)) ((((Y.alloc (.cells (bools (List.replicate N false)).toArray 4)).alloc (.cells #[.slice (some ⟨Y.heap.size, 0, none⟩) N N] 63)).alloc (.cells #[.pointer (some ⟨bt, 0, none⟩)] 24)).alloc (.cells #[.int .i64 0] 3)) := ((Stay.new _ _).alloc _).alloc _
  have s0 := (Stay.new Y (.cells (bools (List.replicate N false)).toArray 4)).trans s1
  refine ⟨⟨hT.turn (S := fun _ => False) (Turn.of_stay s0) (fun _ _ e => e) (fun _ _ e => e), hfp, box_stay hbw s0, box_stay hq s0, box_stay hp s0, box_stay hs s0, (b1.alloc _).alloc _, b2.alloc _, ?_, hst.trans s0⟩, (s1.block _ h1.lt).trans h1, b3, by simp⟩
  rintro k (hk | hk | rfl | rfl | rfl | rfl)
  · exact hT.lt k (.inl hk)
  · exact hT.lt k (.inr hk)
  · exact hbw.lt
  · exact hq.lt
  · exact hp.lt
  · exact hs.lt
end
end Go.Proofs.Ytdpbjealjilogaa.I
