/- What an argument that is a list of lists of things is in memory. -/
import Derived.Test.YtnmaldgmlkcliaaOU
import Derived.Test.YtnmaldgmlkcliaaOMB
namespace Go.Proofs.Ytnmaldgmlkcliaa
open Go.ChangeShapes Go.WideShapes Go.ChangeAt Go.RowKit

theorem cellsThs : Try.prog.cellsOf 23 = 1 := by kernel_rfl

section
variable {H : Type} {enc : TypeId × Value → H} {W : World}
theorem open_ls {v : Value} {y : DataW H × List MemPlace} {n : Nat} (h : DataW.trod enc Try.prog W 0 (fun _ => true) true n 23 [v] = some y) :
    ∃ L : Ls, v = L.val ∧ L.In W ∧ L.ts.length ≤ Rows.uptoBulk y.1 := by
  have fin : ∀ {a : Option Addr} {len cap : Nat}, v = .slice a len cap → ∃ L : Ls, v = L.val ∧ L.In W ∧ L.ts.length ≤ Rows.uptoBulk y.1 := by
    intro a len cap hv
    subst hv
    obtain ⟨b, off, ts, h1, h2, h3, h4⟩ := open_things (d := y.1) (p := y.2) ⟨n, by simpa [Value.cells] using h⟩
    refine ⟨⟨a, b, off, cap, ts⟩, ?_, ⟨h1, h3⟩, bulk_things h4⟩
    show _ = Value.slice _ _ _; rw [← h2]
  rcases DataW.trod_slice Try.underlying23 h with ⟨hcs, _⟩ | ⟨a, len', cap', elems, rest, m, _, hcs, _⟩
  all_goals
    simp only [List.cons.injEq, and_true] at hcs
  · exact fin hcs
  · exact fin hcs
theorem bulk_all : ∀ (ls : List Ls) (elems : List (DataW H)), elems.length = ls.length → (∀ j (h : j < ls.length), ∃ y, elems[j]? = some y ∧ ls[j].ts.length ≤ Rows.uptoBulk y) → (allL ls).length ≤ Rows.uptoBulkAll elems
  | [], elems, _, _ => by simp [allL]
  | t :: ts, [], h, _ => by simp at h
  | t :: ts, e :: elems, h, he => by
    have h1 := bulk_all ts elems (by simpa using h) (fun j hj => by
      obtain ⟨y, e1, e2⟩ := he (j + 1) (by simpa using hj)
      exact ⟨y, by simpa using e1, by simpa using e2⟩)
    obtain ⟨y, e1, e2⟩ := he 0 (by simp)
    simp at e1 e2
    subst e1
    have e3 : (allL (t :: ts)).length = t.ts.length + (allL ts).length := by simp [allL]
    rw [e3]
    show _ ≤ Rows.uptoBulk e + Rows.uptoBulkAll elems
    omega
theorem open_lss {a0 : Option Addr} {len cap : Nat} {d : DataW H} {p : List MemPlace} (h : DataW.Trod enc Try.prog W 0 (fun _ => true) true 22 (.slice a0 len cap) d p) :
    ∃ (b off : Nat) (ls : List Ls), LsS W a0 b off ls ∧ len = ls.length ∧ ls.length ≤ Rows.uptoBulk d ∧ (allL ls).length ≤ Rows.uptoBulk d := by
  obtain ⟨fuel, hf⟩ := h
  rcases DataW.trod_slice Try.underlying22 hf with ⟨hcs, hx⟩ | ⟨a, len', cap', elems, rest, n, _, hcs, hx, _, hl, hm, hlen, hel, _, _⟩
  · simp [Value.cells] at hcs
    obtain ⟨rfl, rfl, rfl⟩ := hcs
    exact ⟨0, 0, [], ⟨fun h => absurd h (Nat.lt_irrefl _), fun j hj => by simp at hj⟩, rfl, by simp, by simp [allL]⟩
  · simp [Value.cells] at hcs
    obtain ⟨rfl, rfl, rfl⟩ := hcs
    simp only [Prod.mk.injEq] at hx
    have each : ∀ i, i < len → ∃ t : Ls, W.cell? (a.add i) = some t.val ∧ t.In W ∧ ∃ y, elems[i]? = some y ∧ t.ts.length ≤ Rows.uptoBulk y.1 := by
      intro i hi
      have h1 := hel i hi
      rw [cellsThs, Nat.mul_one] at h1
      rw [List.getElem?_eq_getElem (by omega)] at h1
      obtain ⟨cs, h2, h3⟩ := Option.bind_eq_some_iff.1 h1
      have hlen1 : cs.length = 1 := (World.cells?_some h2).2.1
      obtain ⟨v, rfl⟩ := List.length_eq_one_iff.1 hlen1
      obtain ⟨t, rfl, h4, h6⟩ := open_ls h3
      exact ⟨t, cell_of_cells?_one h2, h4, _, List.getElem?_eq_getElem (by omega), h6⟩
    obtain ⟨ls, ht, he⟩ := list_all len each
    obtain ⟨b, off, spot⟩ := a
    have hspot : 0 < ls.length → spot = none := fun h => by simpa [Addr.add] using World.cell?_spot (he 0 h).1
    have hb1 := bulk_all (H := H) ls (elems.map (·.1)) (by simp; omega) (fun j hj => by
      obtain ⟨_, _, y, h4, h5⟩ := he j hj
      exact ⟨y.1, by rw [List.getElem?_map, h4]; rfl, h5⟩)
    have hb2 := bulk_len (H := H) (elems.map (·.1))
    rw [List.length_map] at hb2
    refine ⟨b, off, ls, ⟨fun h => by rw [hspot h], fun j hj => ?_⟩, ht.symm, ?_, ?_⟩
    · obtain ⟨h1, h2, _⟩ := he j hj
      obtain rfl := hspot (by omega)
      rw [add_at] at h1
      exact ⟨h1, h2⟩
    · rw [hx.1]
      show _ ≤ Rows.uptoBulkAll _ + Rows.uptoBulkAll _ + 1
      omega
    · rw [hx.1]
      show _ ≤ Rows.uptoBulkAll _ + Rows.uptoBulkAll _ + 1
      omega
end
end Go.Proofs.Ytnmaldgmlkcliaa
