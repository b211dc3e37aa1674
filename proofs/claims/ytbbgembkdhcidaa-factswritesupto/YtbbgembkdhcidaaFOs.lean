/- What an argument that is a list of lists of texts is in memory. -/
import Derived.Test.YtbbgembkdhcidaaOA
import Derived.Test.YtbbgembkdhcidaaFF
namespace Go.Proofs.Ytbbgembkdhcidaa
open Go.ChangeShapes Go.WideShapes Go.ChangeAt Go.RowKit

theorem cellsSs : Try.prog.cellsOf 39 = 1 := by kernel_rfl

section
variable {H : Type} {enc : TypeId × Value → H} {W : World}
theorem bulk_strs : ∀ ss : List ByteArray, Rows.uptoBulkAll (H := H) (strs ss) = sumL (dat ss)
  | [] => rfl
  | s :: ss => by
    have h := bulk_strs ss
    show Rows.uptoBulk (H := H) (.lit (.string s.data.toList)) + Rows.uptoBulkAll (H := H) (strs ss) = s.data.toList.length + 1 + sumL (dat ss)
    rw [h]; rfl
theorem open_tx {v : Value} {y : DataW H × List MemPlace} {n : Nat} (h : DataW.trod enc Try.prog W 0 (fun _ => true) true n 39 [v] = some y) :
    ∃ t : Tx, v = t.v ∧ t.S W ∧ (t.a = none → t.c = 0 ∧ t.xs = []) ∧ sumL (dat t.xs) + 1 ≤ Rows.uptoBulk y.1 := by
  have h0 := h
  have fin : ∀ {a : Option Addr} {len cap : Nat}, v = .slice a len cap → ∃ t : Tx, v = t.v ∧ t.S W ∧ (t.a = none → t.c = 0 ∧ t.xs = []) ∧ sumL (dat t.xs) + 1 ≤ Rows.uptoBulk y.1 := by
    intro a len cap hv
    subst hv
    obtain ⟨b, off, ss, rest, h1, h2, h3, h4⟩ := open_texts (d := y.1) (p := y.2) ⟨n, by simpa [Value.cells] using h⟩
    refine ⟨⟨a, b, off, cap, ss⟩, ?_, h1, h3, ?_⟩
    · show _ = Value.slice _ _ _; rw [← h2]
    · rcases h4 with ⟨e, rfl⟩ | e
      · rw [e]; simp [dat, sumL, Rows.uptoBulk]
      · rw [e]
        show _ ≤ Rows.uptoBulkAll (strs ss) + Rows.uptoBulkAll (strs rest) + 1
        rw [bulk_strs]; show sumL (dat ss) + 1 ≤ _; omega
  rcases open_strings Try.underlying39 Try.underlying9 cellsS h0 with ⟨hcs, _⟩ | ⟨a, len', cap', zs, hcs, _⟩
  all_goals
    simp only [List.cons.injEq, and_true] at hcs
  · exact fin hcs
  · exact fin hcs
theorem bulk_sumG : ∀ (ts : List Tx) (elems : List (DataW H)), elems.length = ts.length → (∀ j (h : j < ts.length), ∃ y, elems[j]? = some y ∧ sumL (dat ts[j].xs) + 1 ≤ Rows.uptoBulk y) → sumG (ts.map Tx.xs) ≤ Rows.uptoBulkAll elems
  | [], elems, _, _ => by simp [sumG]
  | t :: ts, [], h, _ => by simp at h
  | t :: ts, e :: elems, h, he => by
    have h1 := bulk_sumG ts elems (by simpa using h) (fun j hj => by
      obtain ⟨y, e1, e2⟩ := he (j + 1) (by simpa using hj)
      exact ⟨y, by simpa using e1, by simpa using e2⟩)
    obtain ⟨y, e1, e2⟩ := he 0 (by simp)
    simp at e1 e2
    subst e1
    show sumL (dat t.xs) + 1 + sumG (ts.map Tx.xs) ≤ Rows.uptoBulk e + Rows.uptoBulkAll elems
    omega
theorem open_txss {a0 : Option Addr} {len cap : Nat} {d : DataW H} {p : List MemPlace} (h : DataW.Trod enc Try.prog W 0 (fun _ => true) true 22 (.slice a0 len cap) d p) :
    ∃ (b off : Nat) (ts : List Tx), TxsS W a0 b off ts ∧ len = ts.length ∧ (a0 = none → cap = 0 ∧ ts = []) ∧ (∀ t ∈ ts, t.a = none → t.c = 0 ∧ t.xs = []) ∧ sumG (ts.map Tx.xs) + 1 ≤ Rows.uptoBulk d := by
  obtain ⟨fuel, hf⟩ := h
  rcases DataW.trod_slice Try.underlying22 hf with ⟨hcs, hx⟩ | ⟨a, len', cap', elems, rest, n, _, hcs, hx, _, hl, hm, hlen, hel, _, _⟩
  · simp [Value.cells] at hcs
    obtain ⟨rfl, rfl, rfl⟩ := hcs
    simp only [Prod.mk.injEq] at hx
    obtain ⟨rfl, -⟩ := hx
    exact ⟨0, 0, [], ⟨fun h => absurd h (Nat.lt_irrefl _), fun j hj => by simp at hj⟩, rfl, fun _ => ⟨rfl, rfl⟩, fun t ht => by simp at ht, by simp [sumG, Rows.uptoBulk]⟩
  · simp [Value.cells] at hcs
    obtain ⟨rfl, rfl, rfl⟩ := hcs
    simp only [Prod.mk.injEq] at hx
    have each : ∀ i, i < len → ∃ t : Tx, W.cell? (a.add i) = some t.v ∧ t.S W ∧ (t.a = none → t.c = 0 ∧ t.xs = []) ∧ ∃ y, elems[i]? = some y ∧ sumL (dat t.xs) + 1 ≤ Rows.uptoBulk y.1 := by
      intro i hi
      have h1 := hel i hi
      rw [cellsSs, Nat.mul_one] at h1
      rw [List.getElem?_eq_getElem (by omega)] at h1
      obtain ⟨cs, h2, h3⟩ := Option.bind_eq_some_iff.1 h1
      have hlen1 : cs.length = 1 := (World.cells?_some h2).2.1
      obtain ⟨v, rfl⟩ := List.length_eq_one_iff.1 hlen1
      obtain ⟨t, rfl, h4, h5, h6⟩ := open_tx h3
      exact ⟨t, cell_of_cells?_one h2, h4, h5, _, List.getElem?_eq_getElem (by omega), h6⟩
    obtain ⟨ts, ht, he⟩ := list_of len each
    obtain ⟨b, off, spot⟩ := a
    have hspot : 0 < ts.length → spot = none := fun h => by simpa [Addr.add] using World.cell?_spot (he 0 h).1
    refine ⟨b, off, ts, ⟨fun h => by rw [hspot h], fun j hj => ?_⟩, ht.symm, fun e => by simp at e, fun t htm => ?_, ?_⟩
    · obtain ⟨h1, h2, h3, _⟩ := he j hj
      obtain rfl := hspot (by omega)
      rw [add_at] at h1
      exact ⟨h1, h2⟩
    · obtain ⟨j, hj, rfl⟩ := List.mem_iff_getElem.1 htm
      exact (he j hj).2.2.1
    · rw [hx.1]
      have hb := bulk_sumG (H := H) ts (elems.map (·.1)) (by simp; omega) (fun j hj => by
        obtain ⟨_, _, _, y, h4, h5⟩ := he j hj
        exact ⟨y.1, by rw [List.getElem?_map, h4]; rfl, h5⟩)
      show _ ≤ Rows.uptoBulkAll _ + Rows.uptoBulkAll _ + 1
      omega
end
end Go.Proofs.Ytbbgembkdhcidaa
