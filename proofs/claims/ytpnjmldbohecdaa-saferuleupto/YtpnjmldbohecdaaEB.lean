/- Rules that all calls of layer 12 can take: what makes one. No walk here. -/
import Derived.Test.YtpnjmldbohecdaaQM
import Derived.Test.YtpnjmldbohecdaaCE
namespace Go.Proofs.Ytpnjmldbohecdaa
open Go.RowKit Go.Maps Go.Shelf

theorem tms_lt {w : World} {a : Option Addr} {b off : Nat} {ts : List Tm} (h : TmsS w a b off ts) (h0 : 0 < ts.length) : b < w.heap.size := World.block_lt_of_cell? w _ (h.2 0 h0).1
theorem reads_of_in {x : Ru} {w : World} (h : x.In w) : x.reads (fun i => i < w.heap.size) :=
  ⟨fun h0 => tms_lt h.1 h0, fun h0 => World.block_lt_of_cell? w _ (h.2.2 0 h0).1, fun l hl h0 => by
    obtain ⟨j, hj, rfl⟩ := List.mem_iff_getElem.1 hl
    exact tms_lt (h.2.2 j hj).2.2.2.2.2.2.2 h0⟩
/-- A literal that all calls can take. -/
structure Li.fit (l : Li) (w : World) : Prop where
  ins : l.atom.In w
  few : l.atom.ts.length ≤ 1048576
  shorts : (∀ t ∈ l.atom.ts, t.text.size ≤ 1048576) ∧ l.left.text.size ≤ 1048576 ∧ l.right.text.size ≤ 1048576
structure At.fit (l : At) (w : World) : Prop where
  ins : l.In w
  few : l.ts.length ≤ 1048576
  shorts : ∀ t ∈ l.ts, t.text.size ≤ 1048576
theorem fit_of {x : Ru} {w : World} (h : x.head.fit w) (hR : RecS 7 encLi w x.a x.b x.off x.body) (hn : x.body.length ≤ 1048576) (hl : ∀ l ∈ x.body, l.fit w) : x.fit w :=
  have hi : x.In w := ⟨h.ins, hR.lis fun l hl' => (hl l hl').ins⟩
  ⟨hi, ⟨h.few, hn, fun l hl' => (hl l hl').few⟩, reads_of_in hi, h.shorts, fun l hl' => (hl l hl').shorts⟩
theorem Ru.fit.head {x : Ru} {w : World} (h : x.fit w) : x.head.fit w := ⟨h.ins.1, h.small.1, h.shorts.1⟩
theorem Ru.fit.lit {x : Ru} {w : World} (h : x.fit w) {l : Li} (hl : l ∈ x.body) : l.fit w := by
  obtain ⟨j, hj, rfl⟩ := List.mem_iff_getElem.1 hl
  exact ⟨(h.ins.2.2 j hj).2.2.2.2.2.2.2, h.small.2.2 _ hl, h.shorts.2 _ hl⟩
theorem Li.fit.holds {l : Li} {w w' : World} {B : Nat} (h : l.fit w) (hz : w.heap.size ≤ B) (hb : Below B w w') : l.fit w' :=
  ⟨TmsS.holds h.ins fun h0 => hb.block _ (Nat.lt_of_lt_of_le (tms_lt h.ins h0) hz), h.few, h.shorts⟩
theorem At.fit.holds {l : At} {w w' : World} {B : Nat} (h : l.fit w) (hz : w.heap.size ≤ B) (hb : Below B w w') : l.fit w' :=
  ⟨TmsS.holds h.ins fun h0 => hb.block _ (Nat.lt_of_lt_of_le (tms_lt h.ins h0) hz), h.few, h.shorts⟩
theorem Li.fit.stay {l : Li} {w w' : World} (h : l.fit w) (hb : Stay w w') : l.fit w' := h.holds (Nat.le_refl _) hb
/-- A copy is as fit. -/
theorem fit_like {x y : Ru} {w w' : World} (h : x.fit w) (hl : y.like x) (hk : y.Kept w') : y.fit w' := by
  have hb : ∀ l ∈ y.body, l.fit w' := fun l hm => by
    obtain ⟨j, hj, rfl⟩ := List.mem_iff_getElem.1 hm
    have hj' : j < x.body.length := by rw [← hl.2.1]; exact hj
    obtain ⟨e1, e2, e3, e4⟩ := hl.2.2 j hj hj'
    have hx := h.lit (List.getElem_mem hj')
    refine ⟨(hk.2.2.2.2.2 _ hm).in, by rw [e2.2]; exact hx.few, by rw [e2.2, e3, e4]; exact hx.shorts⟩
  exact fit_of ⟨hk.1.in, by rw [hl.1.2]; exact h.small.1, by rw [hl.1.2]; exact h.shorts.1⟩ hk.2.2.2.2.1.left (by rw [hl.2.1]; exact h.small.2.1) hb
theorem like_terms {y x : Li} (h : y.like x) : y.terms = x.terms := by
  unfold Li.terms
  rw [h.1, h.2.1.2, h.2.2.1, h.2.2.2]
end Go.Proofs.Ytpnjmldbohecdaa
