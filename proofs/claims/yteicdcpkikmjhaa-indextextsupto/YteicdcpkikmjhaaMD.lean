/- append(append(nil, l[:j]...), l[j+1:]...): a row without its j-th. -/
import Derived.Test.YteicdcpkikmjhaaMB
import Derived.Maps.AppendAt
import Derived.Laws.Slices
import Derived.CallsIn
namespace Go.Proofs.Yteicdcpkikmjhaa.S
open Go.RowKit Go.Maps Go.Proofs.Yteicdcpkikmjhaa

theorem uponIn_of {F : Fence} {n : Nat} {P : Program} {o : Oper} {a : Act} {K : Act → World → Prop} {Q : Exit → Act → World → Prop} {E : Result Next} {v : Value} {w' : World} (h : E = .ok (.value v) w') (k : K (a.put o.dst v) w') : o.uponIn F n P a K Q E := by
  rw [h, Oper.uponIn_value]; exact k
theorem and_value {P : Program} {m : Sem Value} {w w' : World} {v : Value} (h : m.run P w = .ok v w') : ((m.run P w).andThen fun a w' => Result.ok (Next.value a) w') = .ok (.value v) w' := by rw [h]; rfl
theorem grown_turn {X Y : World} {v : Value} (h : X.grownBy Y v.ownBlock) : Turn (fun k => v.ownBlock = some k) X Y := ⟨h.os, h.tape, h.output, h.size, fun k hk hn => h.block k hk (fun e => hn e.symm)⟩
/-- A row that is new since X. -/
structure Ap (w X Y : World) (e : TypeId) (v : Value) (l : List Value) : Prop where
  row : Y.ownsRow w.heap.size e 1 v l.length l
  stay : Stay X Y
  new : ∀ k, v.ownBlock = some k → X.heap.size ≤ k
theorem Ap.first {w X Y : World} {e : TypeId} {v : Value} {l : List Value} {n : Nat} (hn : l.length = n) (h : Y.ownsRow w.heap.size e 1 v (0 + n) ([] ++ l)) (hg : X.drew.grownBy Y (Value.slice none 0 0).ownBlock) (hl : v.ownBlock = (Value.slice none 0 0).ownBlock ∨ v.ownBlock = some X.drew.heap.size) : Ap w X Y e v l := by
  refine ⟨by simpa [hn] using h, (grown_turn hg).stay (Stay.drewN X 1) (fun k _ h => by simp [Value.ownBlock] at h), fun k hk => ?_⟩
  rcases hl with h1 | h1
  · rw [h1] at hk; simp [Value.ownBlock] at hk
  · rw [h1] at hk; simp only [Option.some.injEq] at hk; subst hk; exact Nat.le_refl _
theorem Ap.more {w X Y Z : World} {e : TypeId} {v v' : Value} {l l' : List Value} {m : Nat} (h : Ap w X Y e v l) (hm : l'.length = m) (hr : Z.ownsRow w.heap.size e 1 v' (l.length + m) (l ++ l')) (hg : Y.grownBy Z v.ownBlock) (hl : v'.ownBlock = v.ownBlock ∨ v'.ownBlock = some Y.heap.size) : Ap w X Z e v' (l ++ l') := by
  refine ⟨by simpa [hm] using hr, (grown_turn hg).stay h.stay (fun k hk hv => by have := h.new k hv; omega), fun k hk => ?_⟩
  rcases hl with h1 | h1
  · rw [h1] at hk; exact h.new k hk
  · rw [h1] at hk; simp only [Option.some.injEq] at hk; subst hk; exact h.stay.size

theorem size_one {P : Program} {t e : TypeId} {i : TypeInfo} (ht : P.underlying t = some (.slice e)) (hi : P.info? e = some i) (hz1 : i.size = 1) (W : World) : (sizeOf (P.elem t)).run P W = .ok 1 W ∧ P.underlying t = some (.slice (P.elem t)) := by
  have he : P.elem t = e := by simp [Program.elem, ht]
  rw [he]
  exact ⟨by simp [sizeOf, typeInfo, hi, hz1], ht⟩

theorem cut_app {P : Program} (w X : World) {t e : TypeId} {i : TypeInfo} {z : Value} {bytes : Nat} (ht : P.underlying t = some (.slice e)) (hi : P.info? e = some i) (hz0 : i.zero = some z) (hz1 : i.size = 1) (hz2 : i.bytes = bytes) (hzc : z.cells.size = 1)
    {g n cap j : Nat} {l : List Value} (hrow : X.ownsRow w.heap.size e 1 (.slice (some ⟨g, 0, none⟩) n cap) n l) (hj : j < n) (hone : ∀ u ∈ l, u.oneCell' = true) (hn : n ≤ 1048576) (hb64 : bytes ≤ 64) (hw : w.heap.size ≤ X.heap.size) :
    ∃ ad2 v1 wA a2 n2 c2 wB, (∀ W, (Instr.slice t (.slice (some ⟨g, 0, none⟩) n cap) none (some (.int .i64 (j : Int))) none).run P W = .ok (.slice (some ⟨g, 0, none⟩) j cap) W) ∧
      (∀ W, (Instr.slice t (.slice (some ⟨g, 0, none⟩) n cap) (some (.int .i64 ((j : Int) + 1))) none none).run P W = .ok (.slice (some ad2) (n - (j + 1)) (cap - (j + 1))) W) ∧
      (Builtin.append_ #[t, t] t #[.slice none 0 0, .slice (some ⟨g, 0, none⟩) j cap]).run P X.drew = .ok v1 wA ∧
      (Builtin.append_ #[t, t] t #[v1, .slice (some ad2) (n - (j + 1)) (cap - (j + 1))]).run P wA = .ok (.slice a2 n2 c2) wB ∧ Stay X wA ∧ Ap w X wB e (.slice a2 n2 c2) (l.take j ++ l.drop (j + 1)) := by
  have hcap := (rowBound hrow rfl).2.1
  have hll : l.length = n := by have := hrow.1; omega
  have hcells := fun k u (h : l[k]? = some u) => row_cell hrow k u h
  have hl1 : (l.take j).length = j := by rw [List.length_take]; omega
  have hl2 : (l.drop (j + 1)).length = n - (j + 1) := by rw [List.length_drop]; omega
  have hbm : ∀ m, m ≤ n → m * bytes ≤ 140737488355328 := fun m hm => by
    have := Nat.mul_le_mul (show m ≤ 1048576 by omega) hb64
    omega
  obtain ⟨ad2, had⟩ : ∃ ad2, ad2 = (if cap = j + 1 then (⟨g, 0, none⟩ : Addr) else ⟨g, j + 1, none⟩) := ⟨_, rfl⟩
  have hn2 : ∀ W, Stay X W → ∀ k u, (l.drop (j + 1))[k]? = some u → W.cell? (ad2.add k) = some u := fun W hW k u h => by
    rw [List.getElem?_drop] at h
    have hk := (List.getElem?_eq_some_iff.1 h).1
    rw [had, if_neg (by omega), add_at]
    exact hW.cell (hcells _ u h)
  obtain ⟨v1, wA, hr1, ho1, hg1, _, hc1⟩ := run_append_own_at (P := P) X.drew w.heap.size t t e i z 1 bytes ht hi hz0 hz1 hz2 hzc (by decide) (.slice none 0 0) 0 [] (World.ownsRow_nil _ _ _ _) ⟨g, 0, none⟩ j cap (l.take j) (by omega)
    (fun k u h => by
      rw [List.getElem?_take] at h
      split at h
      · rw [add_at, Nat.zero_add]; exact hcells k u h
      · simp at h) (fun u hu => hone u (List.mem_of_mem_take hu)) (by unfold maxLen; omega) (by rw [Nat.zero_add]; exact hbm j (by omega)) hw
  have hA := Ap.first hl1 ho1 hg1 hc1
  obtain ⟨v2, wB, hr2, ho2, hg2, _, hc2⟩ := run_append_own_at (P := P) wA w.heap.size t t e i z 1 bytes ht hi hz0 hz1 hz2 hzc (by decide) v1 (l.take j).length (l.take j) hA.row ad2 (n - (j + 1)) (cap - (j + 1)) (l.drop (j + 1)) (by omega)
    (hn2 wA hA.stay) (fun u hu => hone u (List.mem_of_mem_drop hu)) (by unfold maxLen; omega) (hbm _ (by omega)) (Nat.le_trans hw hA.stay.size)
  obtain ⟨a2, n2, c2, rfl⟩ : ∃ a n c, v2 = .slice a n c := by
    rcases ho2.2 with ⟨h, _⟩ | ⟨g, cap, _, h, _⟩
    · exact ⟨_, _, _, h⟩
    · exact ⟨_, _, _, h⟩
  refine ⟨ad2, v1, wA, a2, n2, c2, wB, fun W => ?_, fun W => ?_, hr1, hr2, hA.stay, hA.more hl2 ho2 hg2 hc2⟩
  · have hs := size_one ht hi hz1 W
    rw [run_slice_h W t _ _ _ hs.2 .i64 (j : Int) (by omega) (by omega), hs.1]
    simp only [sliced, Result.andThen, Int.toNat_natCast, Nat.zero_mul, Nat.sub_zero, Option.map_some, add_at, Nat.zero_add]
    split <;> rfl
  · have hs := size_one ht hi hz1 W
    rw [run_slice_l W t _ _ _ hs.2 .i64 ((j : Int) + 1) (by omega) (by omega), hs.1]
    simp only [sliced, Result.andThen]
    have e1 : ((j : Int) + 1).toNat = j + 1 := by omega
    rw [had, e1]
    by_cases hc : cap = j + 1
    · simp [hc]
    · simp only [hc, if_false, Option.map_some, Nat.mul_one, add_at, Nat.zero_add]

theorem own_or {v v' : Value} {X : World} {n : Nat} (h : v'.ownBlock = v.ownBlock ∨ v'.ownBlock = some n) (hn : X.heap.size ≤ n) : ∀ k, v'.ownBlock = some k → v.ownBlock = some k ∨ X.heap.size ≤ k := by
  intro k hk
  rcases h with h1 | h1
  · rw [h1] at hk; exact .inl hk
  · rw [h1] at hk; simp only [Option.some.injEq] at hk; right; omega
theorem two_app {C : List Vl} {x : Vl} (h : ∀ y ∈ C, two y) (hx : two x) : ∀ y ∈ C ++ [x], two y := by
  intro y hy
  rcases List.mem_append.1 hy with h1 | h1
  · exact h y h1
  · simp only [List.mem_singleton] at h1; rw [h1]; exact hx

/-- append(l, u), u laid into a block of its own first. -/
theorem app_one {P : Program} (w X : World) {t e : TypeId} {i : TypeInfo} {z : Value} {bytes : Nat} (ht : P.underlying t = some (.slice e)) (hi : P.info? e = some i) (hz0 : i.zero = some z) (hz1 : i.size = 1) (hz2 : i.bytes = bytes) (hzc : z.cells.size = 1)
    {a : Option Addr} {n c : Nat} {l : List Value} (hrow : X.ownsRow w.heap.size e 1 (.slice a n c) n l) (u : Value) (hu : u.oneCell' = true) (hn : n ≤ 1048576) (hb64 : bytes ≤ 64) (hw : w.heap.size ≤ X.heap.size) :
    ∃ g' cap' wA, (Builtin.append_ #[t, t] t #[.slice a n c, .slice (some ⟨X.heap.size, 0, none⟩) 1 1]).run P (X.alloc (.cells #[u] e)) = .ok (.slice (some ⟨g', 0, none⟩) (n + 1) cap') wA ∧
      wA.ownsRow w.heap.size e 1 (.slice (some ⟨g', 0, none⟩) (n + 1) cap') (n + 1) (l ++ [u]) ∧ Turn (fun k => (Value.slice a n c).ownBlock = some k) X wA ∧ (∀ k, (Value.slice (some ⟨g', 0, none⟩) (n + 1) cap').ownBlock = some k → (Value.slice a n c).ownBlock = some k ∨ X.heap.size ≤ k) := by
  have hbm : (n + 1) * bytes ≤ 140737488355328 := by
    have := Nat.mul_le_mul (show n + 1 ≤ 1048577 by omega) hb64
    omega
  obtain ⟨v', wA, hr, ho, hg, _, hc⟩ := run_append_own_at (P := P) (X.alloc (.cells #[u] e)) w.heap.size t t e i z 1 bytes ht hi hz0 hz1 hz2 hzc (by decide) (.slice a n c) n l (hrow.alloc _) ⟨X.heap.size, 0, none⟩ 1 1 [u] rfl
    (cell_one_new _ _ _) (by intro x hx; simp only [List.mem_singleton] at hx; rw [hx]; exact hu) (by unfold maxLen; omega) hbm (by simp; omega)
  obtain ⟨g', cap', rfl⟩ := ownsRow_succ ho
  refine ⟨g', cap', wA, hr, ho, (Turn.of_stay (Stay.new X _)).trans (grown_turn hg), fun k hk => ?_⟩
  rcases hc with h1 | h1
  · rw [h1] at hk; exact .inl hk
  · rw [h1] at hk; simp only [Option.some.injEq, World.size_alloc] at hk; right; omega
end Go.Proofs.Yteicdcpkikmjhaa.S
