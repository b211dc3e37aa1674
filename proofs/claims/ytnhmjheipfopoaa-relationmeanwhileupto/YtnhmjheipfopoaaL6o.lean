/- What an argument that is a list of ints is in memory. What an argument that is a list of lists of ints is in memory (Za without I). -/
import Derived.Test.YtnhmjheipfopoaaRows
import Derived.Test.YtnhmjheipfopoaaA
import Derived.WalkKit
import Derived.ProofKit
import Derived.OpenShut
import Derived.ChangeSlices
import Derived.SizedLaws
namespace Go.Proofs.Ytnhmjheipfopoaa
open Go.ChangeShapes Go.WideShapes Go.ChangeAt Go.RowKit

theorem laidOut : laidOutB Try.prog = true := by kernel_rfl
theorem cellsI : Try.prog.cellsOf 3 = 1 := by kernel_rfl
theorem bytesI : Try.prog.bytesOf 3 = 8 := by kernel_rfl
theorem ownKn : ownKnob Try.prog.godebug = none := by kernel_rfl

section
variable {H : Type} {enc : TypeId × Value → H} {W : World}

theorem open_intsS {a0 : Option Addr} {len cap : Nat} {d : DataW H} {p : List MemPlace} (h : DataW.Trod enc Try.prog W 0 (fun _ => true) true 23 (.slice a0 len cap) d p) :
    ∃ (b off : Nat) (zs rest : List Int), IntsS W a0 b off zs ∧ len = zs.length ∧ (a0 = none → cap = 0 ∧ zs = []) ∧ (d = .nil ∧ zs = [] ∨ d = .slice (lits .i64 zs) (lits .i64 rest)) ∧ (∀ z ∈ zs, (Lit.int .i64 z).wf = true) := by
  obtain ⟨fuel, hf⟩ := h
  rcases open_ints Try.underlying23 Try.underlying3 cellsI hf with ⟨hcs, hx⟩ | ⟨a, len', cap', zs, hcs, _, hl, hm, hz, hx, hcell, hws⟩
  · simp [Value.cells] at hcs
    obtain ⟨rfl, rfl, rfl⟩ := hcs
    simp only [Prod.mk.injEq] at hx
    obtain ⟨rfl, rfl⟩ := hx
    exact ⟨0, 0, [], [], ⟨fun h => absurd h (Nat.lt_irrefl _), fun j hj => by simp at hj⟩, rfl, fun _ => ⟨rfl, rfl⟩, .inl ⟨rfl, rfl⟩, fun z hz => by simp at hz⟩
  · simp [Value.cells] at hcs
    obtain ⟨rfl, rfl, rfl⟩ := hcs
    simp only [Prod.mk.injEq] at hx
    obtain ⟨rfl, rfl⟩ := hx
    simp only [if_true] at hz
    obtain ⟨b, off, spot⟩ := a
    refine ⟨b, off, zs.take len, zs.drop len, ⟨fun h0 => ?_, fun j hj => ?_⟩, by simp; omega, (fun h => nomatch h), .inr rfl, fun z hz => hws z (List.mem_of_mem_take hz)⟩
    · have h1 : 0 < zs.length := by simp at h0; omega
      have hspot : spot = none := by simpa [Addr.add] using World.cell?_spot (hcell 0 h1)
      rw [hspot]
    · have hj2 : j < zs.length := by simp at hj; omega
      have hspot : spot = none := by
        have h1 : 0 < zs.length := by omega
        simpa [Addr.add] using World.cell?_spot (hcell 0 h1)
      subst hspot
      have hc := hcell j hj2
      rw [add_at] at hc
      rw [hc]
      simp [hj2]

theorem sized_ints {ts : List TypeId} {ds : List (DataW H)} (h : (DataW.weightsEach Try.prog ts ds).all (· ≤ reachBytes) = true) {j : Nat} {d : DataW H} {zs rest : List Int} (ht : ts[j]? = some 23) (hd : ds[j]? = some d)
    (hx : d = .nil ∧ zs = [] ∨ d = .slice (lits .i64 zs) (lits .i64 rest)) : zs.length * 8 ≤ 140737488351232 := by
  rcases hx with ⟨_, rfl⟩ | rfl
  · simp
  · have := sized_slice h ht hd Try.underlying23
    rw [bytesI] at this
    simp only [lits, List.length_map, reachBytes] at this
    omega
end
end Go.Proofs.Ytnhmjheipfopoaa
namespace Go.Proofs.Ytnhmjheipfopoaa
open Go.ChangeShapes Go.WideShapes Go.ChangeAt Go.RowKit

/-- A tuple in memory. -/
structure Tup where
  a : Option Addr
  b : Nat
  o : Nat
  c : Nat
  xs : List Int
def Tup.v (t : Tup) : Value := .slice t.a t.xs.length t.c

theorem cellsIs : Try.prog.cellsOf 23 = 1 := by kernel_rfl
theorem bytesIs : Try.prog.bytesOf 23 = 24 := by kernel_rfl

/-- A tuple as a reader has it, and nil is without room. -/
def Tup.fair (t : Tup) : Prop := t.a = none → t.c = 0 ∧ t.xs = []

section
variable {H : Type} {enc : TypeId × Value → H} {W : World}

/-- A tuple is what the datum says. -/
def Tup.is (t : Tup) (d : DataW H) : Prop := d = .nil ∧ t.xs = [] ∨ ∃ rest, d = .slice (lits .i64 t.xs) (lits .i64 rest)

theorem open_tup {v : Value} {y : DataW H × List MemPlace} {n : Nat} (h : DataW.trod enc Try.prog W 0 (fun _ => true) true n 23 [v] = some y) :
    ∃ t : Tup, v = t.v ∧ IntsS W t.a t.b t.o t.xs ∧ t.fair ∧ t.is y.1 := by
  have h0 := h
  rcases open_ints Try.underlying23 Try.underlying3 cellsI h0 with ⟨hcs, _⟩ | ⟨a, len', cap', zs, hcs, _⟩
  all_goals
    simp only [List.cons.injEq, and_true] at hcs
    subst hcs
  · obtain ⟨b, off, zs, rest, h1, h2, h3, h4, _⟩ := open_intsS (d := y.1) (p := y.2) ⟨n, by simpa [Value.cells] using h⟩
    refine ⟨⟨none, b, off, 0, zs⟩, ?_, h1, h3, ?_⟩
    · show _ = Value.slice _ _ _; rw [← h2]
    · rcases h4 with h4 | h4
      · exact .inl h4
      · exact .inr ⟨rest, h4⟩
  · obtain ⟨b, off, zs, rest, h1, h2, h3, h4, _⟩ := open_intsS (d := y.1) (p := y.2) ⟨n, by simpa [Value.cells] using h⟩
    refine ⟨⟨some a, b, off, cap', zs⟩, ?_, h1, h3, ?_⟩
    · show _ = Value.slice _ _ _; rw [← h2]
    · rcases h4 with h4 | h4
      · exact .inl h4
      · exact .inr ⟨rest, h4⟩

theorem list_of {α : Type} {p : Nat → α → Prop} : ∀ (n : Nat), (∀ i, i < n → ∃ x, p i x) → ∃ l : List α, l.length = n ∧ ∀ i (h : i < l.length), p i l[i]
  | 0, _ => ⟨[], rfl, fun i h => absurd h (Nat.not_lt_zero _)⟩
  | n + 1, h => by
    obtain ⟨l, h1, h2⟩ := list_of n (fun i hi => h i (by omega))
    obtain ⟨x, hx⟩ := h n (by omega)
    refine ⟨l ++ [x], by simp [h1], fun i hi => ?_⟩
    by_cases hl : i < l.length
    · rw [List.getElem_append_left hl]; exact h2 i hl
    · simp at hi
      obtain rfl : i = n := by omega
      rw [List.getElem_append_right (by omega)]
      simpa [h1] using hx

theorem open_tups {a0 : Option Addr} {len cap : Nat} {d : DataW H} {p : List MemPlace} (h : DataW.Trod enc Try.prog W 0 (fun _ => true) true 22 (.slice a0 len cap) d p) :
    ∃ (b off : Nat) (ts : List Tup), (0 < ts.length → a0 = some ⟨b, off, none⟩) ∧ (∀ j (h : j < ts.length), W.cell? ⟨b, off + j, none⟩ = some ts[j].v ∧ IntsS W ts[j].a ts[j].b ts[j].o ts[j].xs ∧ ts[j].fair) ∧ len = ts.length ∧ len ≤ cap ∧ cap ≤ maxLen ∧
      (d = .nil ∧ ts = [] ∨ ∃ elems spare, d = .slice elems spare ∧ elems.length = ts.length ∧ ∀ j (h : j < ts.length), ∃ y, elems[j]? = some y ∧ ts[j].is y) := by
  obtain ⟨fuel, hf⟩ := h
  rcases DataW.trod_slice Try.underlying22 hf with ⟨hcs, hx⟩ | ⟨a, len', cap', elems, rest, n, _, hcs, hx, _, hl, hm, hlen, hel, _, _⟩
  · simp [Value.cells] at hcs
    obtain ⟨rfl, rfl, rfl⟩ := hcs
    simp only [Prod.mk.injEq] at hx
    exact ⟨0, 0, [], fun h => absurd h (Nat.lt_irrefl _), fun j hj => by simp at hj, rfl, Nat.le_refl _, Nat.zero_le _, .inl ⟨hx.1, rfl⟩⟩
  · simp [Value.cells] at hcs
    obtain ⟨rfl, rfl, rfl⟩ := hcs
    simp only [Prod.mk.injEq] at hx
    have each : ∀ i, i < len → ∃ t : Tup, W.cell? (a.add i) = some t.v ∧ IntsS W t.a t.b t.o t.xs ∧ t.fair ∧ ∃ y, elems[i]? = some y ∧ t.is y.1 := by
      intro i hi
      have h1 := hel i hi
      rw [cellsIs, Nat.mul_one] at h1
      rw [List.getElem?_eq_getElem (by omega)] at h1
      obtain ⟨cs, h2, h3⟩ := Option.bind_eq_some_iff.1 h1
      have hlen1 : cs.length = 1 := (World.cells?_some h2).2.1
      obtain ⟨v, rfl⟩ := List.length_eq_one_iff.1 hlen1
      obtain ⟨t, rfl, h4, h5, h6⟩ := open_tup h3
      exact ⟨t, cell_of_cells?_one h2, h4, h5, _, List.getElem?_eq_getElem (by omega), h6⟩
    obtain ⟨ts, ht, he⟩ := list_of len each
    obtain ⟨b, off, spot⟩ := a
    have hspot : 0 < ts.length → spot = none := fun h => by simpa [Addr.add] using World.cell?_spot (he 0 h).1
    refine ⟨b, off, ts, fun h => by rw [hspot h], fun j hj => ?_, ht.symm, hl, hm, .inr ⟨_, _, hx.1, by simp; omega, fun j hj => ?_⟩⟩
    · obtain ⟨h1, h2, h3, _⟩ := he j hj
      obtain rfl := hspot (by omega)
      rw [add_at] at h1
      exact ⟨h1, h2, h3⟩
    · obtain ⟨_, _, _, y, h4, h5⟩ := he j hj
      exact ⟨y.1, by rw [List.getElem?_map, h4]; rfl, h5⟩

theorem weights_mem_all {P : Program} {e : TypeId} : ∀ {ds : List (DataW H)} {d : DataW H}, d ∈ ds → ∀ n ∈ d.weights P e, n ∈ DataW.weightsAll P e ds
  | [], _, h, _, _ => by simp at h
  | x :: r, d, h, n, hn => by
    rw [DataW.weightsAll]
    rcases List.mem_cons.1 h with rfl | h
    · exact List.mem_append_left _ hn
    · exact List.mem_append_right _ (weights_mem_all h n hn)

theorem sized_tups {ts : List TypeId} {ds : List (DataW H)} (h : (DataW.weightsEach Try.prog ts ds).all (· ≤ reachBytes) = true) {j : Nat} {d : DataW H} {us : List Tup} (ht : ts[j]? = some 22) (hd : ds[j]? = some d)
    (hx : d = .nil ∧ us = [] ∨ ∃ elems spare, d = .slice elems spare ∧ elems.length = us.length ∧ ∀ j (h : j < us.length), ∃ y, elems[j]? = some y ∧ us[j].is y) : us.length * 24 ≤ 140737488351232 ∧ ∀ u ∈ us, u.xs.length * 8 ≤ 140737488351232 := by
  rcases hx with ⟨_, rfl⟩ | ⟨elems, spare, rfl, hl, he⟩
  · simp
  · constructor
    · have := sized_slice h ht hd Try.underlying22
      rw [bytesIs] at this
      simp only [reachBytes] at this
      omega
    · intro u hu
      obtain ⟨i, hi, rfl⟩ := List.mem_iff_getElem.1 hu
      obtain ⟨y, h1, h2⟩ := he i hi
      rcases h2 with ⟨_, h2⟩ | ⟨rest, rfl⟩
      · rw [h2]; simp
      · have hm : (DataW.slice (lits .i64 us[i].xs) (lits .i64 rest) : DataW H) ∈ elems := List.mem_of_getElem? h1
        have hw : (us[i].xs.length + rest.length) * 8 ∈ (DataW.slice (lits .i64 us[i].xs) (lits .i64 rest) : DataW H).weights Try.prog 23 := by
          rw [DataW.weights]
          simp only [Try.underlying23, bytesI, lits, List.length_map]
          exact List.mem_cons_self ..
        have := List.all_eq_true.1 h _ (DataW.weights_mem_each ht hd _ (by
          rw [DataW.weights]
          simp only [Try.underlying22]
          exact List.mem_cons_of_mem _ (List.mem_append_left _ (weights_mem_all hm _ hw))))
        have h9 : (us[i].xs.length + rest.length) * 8 ≤ reachBytes := by simpa using this
        simp only [reachBytes] at h9
        omega
end
end Go.Proofs.Ytnhmjheipfopoaa
