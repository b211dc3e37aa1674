/- What arguments are in memory: a thing, a list of things. -/
import Derived.Test.YtnmaldgmlkcliaaOA
import Derived.Test.YtnmaldgmlkcliaaRC
namespace Go.Proofs.Ytnmaldgmlkcliaa
open Go.ChangeShapes Go.WideShapes Go.ChangeAt Go.RowKit

theorem cellsTh : Try.prog.cellsOf 26 = 2 := by kernel_rfl
theorem bytesTh : Try.prog.bytesOf 26 = 16 := by kernel_rfl
theorem cellsInt : Try.prog.cellsOf 3 = 1 := by kernel_rfl

section
variable {H : Type} {enc : TypeId × Value → H} {W : World}
set_option maxRecDepth 100000 in
theorem open_thing {cs : List Value} {y : DataW H × List MemPlace} {n : Nat} (h : DataW.trod enc Try.prog W 0 (fun _ => true) true n 26 cs = some y) :
    ∃ x1 x2 : Int, cs = [.int .i64 x1, .int .i64 x2] := by
  obtain ⟨y0, y1, m, _, hl, h0, h1⟩ := trod_struct2 Try.underlying26 h
  rw [cellsTh] at hl
  match cs, hl with
  | [c0, c1], _ =>
    obtain ⟨x1, e1, _, _⟩ := DataW.trod_int Try.underlying3 h0
    obtain ⟨x2, e2, _, _⟩ := DataW.trod_int Try.underlying3 h1
    rw [cellsInt] at e1 e2
    simp at e1 e2
    exact ⟨x1, x2, by rw [e1, e2]⟩

theorem list_all {α : Type} {p : Nat → α → Prop} : ∀ (n : Nat), (∀ i, i < n → ∃ x, p i x) → ∃ l : List α, l.length = n ∧ ∀ i (h : i < l.length), p i l[i]
  | 0, _ => ⟨[], rfl, fun i h => absurd h (Nat.not_lt_zero _)⟩
  | n + 1, h => by
    obtain ⟨l, h1, h2⟩ := list_all n (fun i hi => h i (by omega))
    obtain ⟨x, hx⟩ := h n (by omega)
    refine ⟨l ++ [x], by simp [h1], fun i hi => ?_⟩
    by_cases hl : i < l.length
    · rw [List.getElem_append_left hl]; exact h2 i hl
    · simp at hi
      obtain rfl : i = n := by omega
      rw [List.getElem_append_right (by omega)]
      simpa [h1] using hx

theorem open_things {a0 : Option Addr} {len cap : Nat} {d : DataW H} {p : List MemPlace} (h : DataW.Trod enc Try.prog W 0 (fun _ => true) true 23 (.slice a0 len cap) d p) :
    ∃ (b off : Nat) (ts : List (Int × Int)), ThS W a0 b off ts ∧ len = ts.length ∧ (a0 = none → cap = 0 ∧ ts = []) ∧ (d = .nil ∧ ts = [] ∨ ∃ elems spare, d = .slice elems spare ∧ elems.length = ts.length) := by
  obtain ⟨fuel, hf⟩ := h
  rcases DataW.trod_slice Try.underlying23 hf with ⟨hcs, hx⟩ | ⟨a, len', cap', elems, rest, n, _, hcs, hx, _, hl, hm, hlen, hel, _, _⟩
  · simp [Value.cells] at hcs
    obtain ⟨rfl, rfl, rfl⟩ := hcs
    simp only [Prod.mk.injEq] at hx
    exact ⟨0, 0, [], ⟨fun h => absurd h (Nat.lt_irrefl _), fun j hj => by simp at hj⟩, rfl, fun _ => ⟨rfl, rfl⟩, .inl ⟨hx.1, rfl⟩⟩
  · simp [Value.cells] at hcs
    obtain ⟨rfl, rfl, rfl⟩ := hcs
    simp only [Prod.mk.injEq] at hx
    have each : ∀ i, i < len → ∃ x : Int × Int, W.cell? (a.add (i * 2)) = some (.int .i64 x.1) ∧ W.cell? ((a.add (i * 2)).add 1) = some (.int .i64 x.2) := by
      intro i hi
      have h1 := hel i hi
      rw [cellsTh, List.getElem?_eq_getElem (by omega)] at h1
      obtain ⟨cs, h2, h3⟩ := Option.bind_eq_some_iff.1 h1
      obtain ⟨x1, x2, rfl⟩ := open_thing h3
      obtain ⟨_, _, hc⟩ := World.cells?_some h2
      have e0 := hc 0 (by decide)
      have e1 := hc 1 (by decide)
      simp at e0 e1
      exact ⟨(x1, x2), by simpa [Addr.add] using e0, by simpa using e1⟩
    obtain ⟨ts, ht, he⟩ := list_all len each
    obtain ⟨b, off, spot⟩ := a
    have hspot : 0 < ts.length → spot = none := fun h => by simpa [Addr.add] using World.cell?_spot (he 0 h).1
    refine ⟨b, off, ts, ⟨fun h => by rw [hspot h], fun j hj => ?_⟩, ht.symm, (fun h => nomatch h), .inr ⟨_, _, hx.1, by simp; omega⟩⟩
    obtain ⟨h1, h2⟩ := he j hj
    obtain rfl := hspot (by omega)
    rw [add_at] at h1
    rw [add_at, add_at] at h2
    exact ⟨h1, h2⟩
theorem sized_things {ts : List TypeId} {ds : List (DataW H)} (h : (DataW.weightsEach Try.prog ts ds).all (· ≤ reachBytes) = true) {j : Nat} {d : DataW H} {zs : List (Int × Int)} (ht : ts[j]? = some 23) (hd : ds[j]? = some d)
    (hx : d = .nil ∧ zs = [] ∨ ∃ elems spare, d = .slice elems spare ∧ elems.length = zs.length) : zs.length * 16 ≤ 140737488351232 := by
  rcases hx with ⟨_, rfl⟩ | ⟨elems, spare, rfl, he⟩
  · simp
  · have := sized_slice h ht hd Try.underlying23
    rw [bytesTh] at this
    simp only [reachBytes] at this
    omega
set_option maxRecDepth 100000 in
theorem open_thing_arg {v : Value} {d : DataW H} {p : List MemPlace} {base : Nat} (hv : Value.okWide Try.prog W .any base 26 v) (h : DataW.Trod enc Try.prog W 0 (fun _ => true) true 26 v d p) : ∃ x1 x2 : Int, v = .agg #[.int .i64 x1, .int .i64 x2] := by
  obtain ⟨cs, rfl, _⟩ := okWide_struct Try.underlying26 hv
  obtain ⟨fuel, hf⟩ := h
  obtain ⟨x1, x2, e⟩ := open_thing hf
  refine ⟨x1, x2, ?_⟩
  simp [Value.cells] at e
  exact congrArg Value.agg (Array.ext' (by simpa using e))
end
end Go.Proofs.Ytnmaldgmlkcliaa
