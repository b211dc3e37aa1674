/- What an argument is in memory: a list of what is to be done. -/
import Derived.Test.YtjbglpeikhpieaaOB
import Derived.Test.YtjbglpeikhpieaaTQ
import Derived.Deep.Strs
namespace Go.Proofs.Ytjbglpeikhpieaa
open Go.ChangeShapes Go.WideShapes Go.ChangeAt Go.RowKit

theorem cellsOp : Try.prog.cellsOf 59 = 4 := by kernel_rfl
theorem bytesOp : Try.prog.bytesOf 59 = 32 := by kernel_rfl

section
variable {H : Type} {enc : TypeId × Value → H} {W : World}
set_option maxRecDepth 100000 in
theorem open_op {cs : List Value} {y : DataW H × List MemPlace} {n : Nat} (h : DataW.trod enc Try.prog W 0 (fun _ => true) true n 59 cs = some y) :
    ∃ x : (Int × Int) × (Int × Int), cs = [.int .i64 x.1.1, .int .i64 x.1.2, .int .i64 x.2.1, .int .i64 x.2.2] := by
  obtain ⟨y0, y1, y2, m, _, hl, h0, h1, h2⟩ := Go.Deep.trod_struct3 Try.underlying59 h
  rw [cellsOp] at hl
  match cs, hl with
  | [c0, c1, c2, c3], _ =>
    obtain ⟨x1, e1, _, _⟩ := DataW.trod_int Try.underlying3 h0
    obtain ⟨x2, e2, _, _⟩ := DataW.trod_int Try.underlying3 h1
    obtain ⟨x3, x4, e3⟩ := open_thing h2
    simp only [cellsInt] at e1 e2
    simp only [cellsTh] at e3
    simp at e1 e2 e3
    exact ⟨((x1, x2), (x3, x4)), by rw [e1, e2, e3.1, e3.2]⟩

theorem open_ops {a0 : Option Addr} {len cap : Nat} {d : DataW H} {p : List MemPlace} (h : DataW.Trod enc Try.prog W 0 (fun _ => true) true 50 (.slice a0 len cap) d p) :
    ∃ (b off : Nat) (ts : List ((Int × Int) × (Int × Int))), OpsS W a0 b off ts ∧ len = ts.length ∧ (d = .nil ∧ ts = [] ∨ ∃ elems spare, d = .slice elems spare ∧ elems.length = ts.length) := by
  obtain ⟨fuel, hf⟩ := h
  rcases DataW.trod_slice Try.underlying50 hf with ⟨hcs, hx⟩ | ⟨a, len', cap', elems, rest, n, _, hcs, hx, _, hl, hm, hlen, hel, _, _⟩
  · simp [Value.cells] at hcs
    obtain ⟨rfl, rfl, rfl⟩ := hcs
    simp only [Prod.mk.injEq] at hx
    exact ⟨0, 0, [], ⟨fun h => absurd h (Nat.lt_irrefl _), fun j hj => by simp at hj⟩, rfl, .inl ⟨hx.1, rfl⟩⟩
  · simp [Value.cells] at hcs
    obtain ⟨rfl, rfl, rfl⟩ := hcs
    simp only [Prod.mk.injEq] at hx
    have each : ∀ i, i < len → ∃ x : (Int × Int) × (Int × Int), W.cell? (a.add (i * 4)) = some (.int .i64 x.1.1) ∧ W.cell? ((a.add (i * 4)).add 1) = some (.int .i64 x.1.2) ∧ W.cell? ((a.add (i * 4)).add 2) = some (.int .i64 x.2.1) ∧ W.cell? ((a.add (i * 4)).add 3) = some (.int .i64 x.2.2) := by
      intro i hi
      have h1 := hel i hi
      rw [cellsOp, List.getElem?_eq_getElem (by omega)] at h1
      obtain ⟨cs, h2, h3⟩ := Option.bind_eq_some_iff.1 h1
      obtain ⟨x, rfl⟩ := open_op h3
      obtain ⟨_, _, hc⟩ := World.cells?_some h2
      have e0 := hc 0 (by decide)
      have e1 := hc 1 (by decide)
      have e2 := hc 2 (by decide)
      have e3 := hc 3 (by decide)
      simp at e0 e1 e2 e3
      exact ⟨x, by simpa [Addr.add] using e0, by simpa using e1, by simpa using e2, by simpa using e3⟩
    obtain ⟨ts, ht, he⟩ := list_all len each
    obtain ⟨b, off, spot⟩ := a
    have hspot : 0 < ts.length → spot = none := fun h => by simpa [Addr.add] using World.cell?_spot (he 0 h).1
    refine ⟨b, off, ts, ⟨fun h => by rw [hspot h], fun j hj => ?_⟩, ht.symm, .inr ⟨_, _, hx.1, by simp; omega⟩⟩
    obtain ⟨h1, h2, h3, h4⟩ := he j hj
    obtain rfl := hspot (by omega)
    rw [add_at] at h1
    rw [add_at, add_at] at h2 h3 h4
    exact ⟨h1, h2, h3, h4⟩
theorem sized_ops {ts : List TypeId} {ds : List (DataW H)} (h : (DataW.weightsEach Try.prog ts ds).all (· ≤ reachBytes) = true) {j : Nat} {d : DataW H} {zs : List ((Int × Int) × (Int × Int))} (ht : ts[j]? = some 50) (hd : ds[j]? = some d)
    (hx : d = .nil ∧ zs = [] ∨ ∃ elems spare, d = .slice elems spare ∧ elems.length = zs.length) : zs.length * 32 ≤ 140737488351232 := by
  rcases hx with ⟨_, rfl⟩ | ⟨elems, spare, rfl, he⟩
  · simp
  · have := sized_slice h ht hd Try.underlying50
    rw [bytesOp] at this
    simp only [reachBytes] at this
    omega
end
end Go.Proofs.Ytjbglpeikhpieaa
