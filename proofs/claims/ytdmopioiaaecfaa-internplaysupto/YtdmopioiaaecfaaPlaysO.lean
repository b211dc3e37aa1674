/- What an argument that is a script is in memory. -/
import Derived.Test.YtdmopioiaaecfaaBulk
import Derived.Test.YtdmopioiaaecfaaPlaysA
namespace Go.Proofs.Ytdmopioiaaecfaa
open Go.ChangeShapes Go.WideShapes Go.ChangeAt Go.RowKit

theorem cells33 : Try.prog.cellsOf 33 = 6 := by kernel_rfl
theorem cells27 : Try.prog.cellsOf 27 = 1 := by kernel_rfl
theorem cells31 : Try.prog.cellsOf 31 = 1 := by kernel_rfl
theorem trod_struct6 {P : Program} {H : Type} {enc : TypeId × Value → H} {w : World} {base : Nat} {spare : TypeId → Bool} {held : Bool} {t : TypeId} {f0 f1 f2 f3 f4 f5 : Field} {fuel : Nat} {cs : List Value} {x : DataW H × List MemPlace} (ht : P.underlying t = some (.struct #[f0, f1, f2, f3, f4, f5])) (h : DataW.trod enc P w base spare held fuel t cs = some x) :
    ∃ y0 y1 y2 y3 y4 y5 n, x = (.agg [y0.1, y1.1, y2.1, y3.1, y4.1, y5.1], y0.2 ++ (y1.2 ++ (y2.2 ++ (y3.2 ++ (y4.2 ++ y5.2))))) ∧ cs.length = P.cellsOf t ∧ DataW.trod enc P w base spare held n f0.type ((cs.drop f0.offset).take (P.cellsOf f0.type)) = some y0 ∧
      DataW.trod enc P w base spare held n f1.type ((cs.drop f1.offset).take (P.cellsOf f1.type)) = some y1 ∧ DataW.trod enc P w base spare held n f2.type ((cs.drop f2.offset).take (P.cellsOf f2.type)) = some y2 ∧
      DataW.trod enc P w base spare held n f3.type ((cs.drop f3.offset).take (P.cellsOf f3.type)) = some y3 ∧ DataW.trod enc P w base spare held n f4.type ((cs.drop f4.offset).take (P.cellsOf f4.type)) = some y4 ∧ DataW.trod enc P w base spare held n f5.type ((cs.drop f5.offset).take (P.cellsOf f5.type)) = some y5 := by
  obtain ⟨xs, n, _, rfl, hl, hlen, hf⟩ := DataW.trod_struct ht h
  match xs, hlen with
  | [y0, y1, y2, y3, y4, y5], _ => exact ⟨y0, y1, y2, y3, y4, y5, n, by simp, hl, by simpa using hf 0 f0 rfl, by simpa using hf 1 f1 rfl, by simpa using hf 2 f2 rfl, by simpa using hf 3 f3 rfl, by simpa using hf 4 f4 rfl, by simpa using hf 5 f5 rfl⟩
theorem list_every {α : Type} {p : Nat → α → Prop} : ∀ (n : Nat), (∀ i, i < n → ∃ x, p i x) → ∃ l : List α, l.length = n ∧ ∀ i (h : i < l.length), p i l[i]
  | 0, _ => ⟨[], rfl, fun i h => absurd h (Nat.not_lt_zero _)⟩
  | n + 1, h => by
    obtain ⟨l, h1, h2⟩ := list_every n (fun i hi => h i (by omega))
    obtain ⟨x, hx⟩ := h n (by omega)
    refine ⟨l ++ [x], by simp [h1], fun i hi => ?_⟩
    by_cases hl : i < l.length
    · rw [List.getElem_append_left hl]; exact h2 i hl
    · simp at hi
      obtain rfl : i = n := by omega
      rw [List.getElem_append_right (by omega)]
      simpa [h1] using hx

section
variable {H : Type} {enc : TypeId × Value → H} {W : World}

theorem open_textsC {v : Value} {y : DataW H × List MemPlace} {n : Nat} (h : DataW.trod enc Try.prog W 0 (fun _ => true) true n 27 [v] = some y) :
    ∃ (a : Option Addr) (b off c : Nat) (ss : List ByteArray), v = .slice a ss.length c ∧ StrsAt W a b off ss ∧ (a = none → c = 0 ∧ ss = []) ∧ ss.length ≤ Rows.uptoBulk y.1 ∧ ∀ s ∈ ss, s.size ≤ Rows.uptoBulk y.1 := by
  have h0 := h
  rcases open_strings Try.underlying27 Try.underlying9 cells9 h0 with ⟨hcs, _⟩ | ⟨a, len', cap', ss, hcs, _⟩
  all_goals
    simp only [List.cons.injEq, and_true] at hcs
    subst hcs
    obtain ⟨b, off, ss, rest, h1, h2, h3, h4⟩ := open_texts (d := y.1) (p := y.2) ⟨n, by simpa [Value.cells] using h⟩
    obtain ⟨k1, k2⟩ := bulk_texts h4
    exact ⟨_, b, off, _, ss, by rw [← h2], h1, h3, k1, k2⟩

theorem open_intsC {v : Value} {y : DataW H × List MemPlace} {n : Nat} (h : DataW.trod enc Try.prog W 0 (fun _ => true) true n 31 [v] = some y) :
    ∃ (a : Option Addr) (b off c : Nat) (zs : List Int), v = .slice a zs.length c ∧ IntsS W a b off zs ∧ (a = none → c = 0 ∧ zs = []) ∧ zs.length ≤ Rows.uptoBulk y.1 := by
  have h0 := h
  rcases open_ints Try.underlying31 Try.underlying3 cells3 h0 with ⟨hcs, _⟩ | ⟨a, len', cap', zs, hcs, _⟩
  all_goals
    simp only [List.cons.injEq, and_true] at hcs
    subst hcs
    obtain ⟨b, off, zs, rest, h1, h2, h3, h4, _⟩ := open_numbers (d := y.1) (p := y.2) ⟨n, by simpa [Value.cells] using h⟩
    exact ⟨_, b, off, _, zs, by rw [← h2], h1, h3, bulk_ints h4⟩

set_option maxRecDepth 100000 in
theorem open_stp {cs : List Value} {y : DataW H × List MemPlace} {n : Nat} (h : DataW.trod enc Try.prog W 0 (fun _ => true) true n 33 cs = some y) (hb : Rows.uptoBulk y.1 ≤ 1048576) : ∃ s : Stp, cs = s.cells ∧ s.Ok W ∧ s.ss.length ≤ Rows.uptoBulk y.1 := by
  obtain ⟨y0, y1, y2, y3, y4, y5, m, rfl, hl, h0, h1, h2, h3, h4, h5⟩ := trod_struct6 Try.underlying33 h
  rw [cells33] at hl
  simp only [Rows.uptoBulk, Rows.uptoBulkAll] at hb ⊢
  match cs, hl with
  | [c0, c1, c2, c3, c4, c5], _ =>
    obtain ⟨x0, e0, _, _⟩ := DataW.trod_int Try.underlying3 h0
    obtain ⟨x1, e1, _, _⟩ := DataW.trod_int Try.underlying3 h1
    obtain ⟨x2, e2, _, w2⟩ := DataW.trod_int Try.underlying3 h2
    obtain ⟨x3, e3, _, _⟩ := DataW.trod_int Try.underlying3 h3
    simp only [cells3] at e0 e1 e2 e3
    simp at e0 e1 e2 e3
    simp only [cells27, cells31] at h4 h5
    simp at h4 h5
    obtain ⟨ta, tb, to, tc, ss, e4, t1, t2, t3, t4⟩ := open_textsC h4
    obtain ⟨na, nb, no, nc, zs, e5, n1, n2, n3⟩ := open_intsC h5
    refine ⟨⟨x0, x1, x2, x3, ta, tb, to, tc, ss, na, nb, no, nc, zs⟩, by simp [Stp.cells, e0, e1, e2, e3, e4, e5], ⟨t1, t2, fun x hx => by have := t4 x hx; omega, n1, n2, by dsimp only; omega, ?_⟩, by dsimp only; omega⟩
    simpa [Lit.wf, IntKind.min, IntKind.max, IntKind.signed, IntKind.bits] using w2

theorem bulk_sum : ∀ (ss : List Stp) (elems : List (DataW H)), elems.length = ss.length → (∀ j (h : j < ss.length), ∃ y, elems[j]? = some y ∧ ss[j].ss.length ≤ Rows.uptoBulk y) → (ss.map fun s => s.ss.length).sum ≤ Rows.uptoBulkAll elems
  | [], _, _, _ => by simp
  | s :: ss, [], h, _ => by simp at h
  | s :: ss, e :: elems, h, hy => by
    have ih := bulk_sum ss elems (by simpa using h) (fun j hj => by
      obtain ⟨y, h1, h2⟩ := hy (j + 1) (by simpa using hj)
      exact ⟨y, by simpa using h1, by simpa using h2⟩)
    obtain ⟨y, h1, h2⟩ := hy 0 (by simp)
    simp at h1 h2
    subst h1
    simp only [List.map_cons, List.sum_cons, Rows.uptoBulkAll]
    omega

theorem open_script {a0 : Option Addr} {len cap : Nat} {d : DataW H} {p : List MemPlace} (h : DataW.Trod enc Try.prog W 0 (fun _ => true) true 22 (.slice a0 len cap) d p) (hb : Rows.uptoBulk d ≤ 1048576) :
    ∃ (b off : Nat) (ss : List Stp), (0 < ss.length → a0 = some ⟨b, off, none⟩) ∧ (∀ j (h : j < ss.length) k v, ss[j].cells[k]? = some v → W.cell? ⟨b, off + j * 6 + k, none⟩ = some v) ∧ len = ss.length ∧ (∀ s ∈ ss, s.Ok W) ∧ (ss.map fun s => s.ss.length).sum ≤ 1048576 ∧ ss.length ≤ 1048576 := by
  obtain ⟨fuel, hf⟩ := h
  rcases DataW.trod_slice Try.underlying22 hf with ⟨hcs, hx⟩ | ⟨a, len', cap', elems, rest, n, _, hcs, hx, _, hl, hm, hlen, hel, _, _⟩
  · simp [Value.cells] at hcs
    obtain ⟨rfl, rfl, rfl⟩ := hcs
    exact ⟨0, 0, [], fun h => absurd h (Nat.lt_irrefl _), fun j hj => by simp at hj, rfl, fun s hs => by simp at hs, by simp, by simp⟩
  · simp [Value.cells] at hcs
    obtain ⟨rfl, rfl, rfl⟩ := hcs
    simp only [Prod.mk.injEq] at hx
    obtain ⟨hx1, _⟩ := hx
    subst hx1
    simp only [Rows.uptoBulk] at hb
    have each : ∀ i, i < len → ∃ s : Stp, (∀ k v, s.cells[k]? = some v → W.cell? ((a.add (i * 6)).add k) = some v) ∧ s.Ok W ∧ ∃ y, (elems.map (·.1))[i]? = some y ∧ s.ss.length ≤ Rows.uptoBulk y := by
      intro i hi
      have h1 := hel i hi
      rw [cells33, List.getElem?_eq_getElem (by omega)] at h1
      obtain ⟨cs, h2, h3⟩ := Option.bind_eq_some_iff.1 h1
      have hi2 : i < elems.length := by omega
      have hmem : elems[i].1 ∈ elems.map (·.1) := List.mem_map.2 ⟨_, List.getElem_mem hi2, rfl⟩
      have hbm := bulk_mem hmem
      obtain ⟨s, rfl, hs, hsl⟩ := open_stp h3 (by omega)
      obtain ⟨_, _, hc⟩ := World.cells?_some h2
      refine ⟨s, fun k v hv => ?_, hs, elems[i].1, by simp [hi2], hsl⟩
      have hk : k < 6 := by have := (List.getElem?_eq_some_iff.1 hv).1; simpa [Stp.cells] using this
      rw [hc k hk]
      exact hv
    obtain ⟨ss, ht, he⟩ := list_every len each
    obtain ⟨b, off, spot⟩ := a
    have hspot : 0 < ss.length → spot = none := fun h => by
      have := (he 0 h).1 0 _ rfl
      simpa [Addr.add] using World.cell?_spot this
    have hsum := bulk_sum ss (elems.map (·.1)) (by simp; omega) (fun j hj => (he j hj).2.2)
    have hbl := bulk_len (H := H) (elems.map (·.1))
    simp only [List.length_map] at hbl
    refine ⟨b, off, ss, fun h => by rw [hspot h], fun j hj k v hv => ?_, ht.symm, fun s hs => ?_, by omega, by omega⟩
    · have h1 := (he j hj).1 k v hv
      obtain rfl := hspot (by omega)
      rwa [add_at, add_at] at h1
    · obtain ⟨j, hj, rfl⟩ := List.mem_iff_getElem.1 hs
      exact (he j hj).2.1
end
end Go.Proofs.Ytdmopioiaaecfaa
