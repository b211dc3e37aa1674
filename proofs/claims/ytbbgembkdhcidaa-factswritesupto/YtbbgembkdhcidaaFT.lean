/- slices.CompactFunc of lists of texts by slices.Equal. -/
import Derived.Test.YtbbgembkdhcidaaFS
import Derived.Deep.Cut
namespace Go.Proofs.Ytbbgembkdhcidaa
open Go.RowKit Go.Maps Go.Shelf Go.Sort

/-- Block G has room for cap lists; the first are Z. -/
def RowV (W : World) (G cap : Nat) (Z : List Tx) : Prop :=
  ∃ cur : Array Value, W.heap[G]? = some (.cells cur 39 (0, 0)) ∧ Z.length ≤ cap ∧ cap ≤ maxLen ∧ cur.size = cap ∧ cur.toList.take Z.length = Z.map Tx.v
section
variable {W W' : World} {G cap : Nat} {Z : List Tx}
theorem RowV.lt (h : RowV W G cap Z) : G < W.heap.size := by
  obtain ⟨cur, h1, _⟩ := h
  exact (Array.getElem?_eq_some_iff.1 h1).1
theorem RowV.stay (h : RowV W G cap Z) (hs : Stay W W') : RowV W' G cap Z := by
  obtain ⟨cur, h1, h2⟩ := h
  exact ⟨cur, (hs.block G (Array.getElem?_eq_some_iff.1 h1).1).trans h1, h2⟩
theorem RowV.cell (h : RowV W G cap Z) (j : Nat) (x : Tx) (hj : Z[j]? = some x) : W.cell? ⟨G, j, none⟩ = some x.v ∧ W.frozen? ⟨G, j, none⟩ = false := by
  obtain ⟨cur, h1, h2, h3, h4, h5⟩ := h
  have hl := (List.getElem?_eq_some_iff.1 hj).1
  have h6 : (cur.toList.take Z.length)[j]? = (Z.map Tx.v)[j]? := by rw [h5]
  rw [List.getElem?_take_of_lt hl, List.getElem?_map, hj] at h6
  refine ⟨?_, by simp [World.frozen?, h1]⟩
  simp only [World.cell?, h1]
  simpa using h6
theorem RowV.own (h : RowV W G cap Z) {base : Nat} (hb : base ≤ G) : W.ownsRow base 39 1 (.slice (some ⟨G, 0, none⟩) Z.length cap) Z.length (Z.map Tx.v) := by
  obtain ⟨cur, h1, h2, h3, h4, h5⟩ := h
  exact ⟨by simp, .inr ⟨G, cap, cur, rfl, hb, h1, h2, h3, by omega, by rw [Nat.mul_one]; exact h5⟩⟩
theorem rowV_of {base n : Nat} (h : W.ownsRow base 39 1 (.slice (some ⟨G, 0, none⟩) n cap) n (Z.map Tx.v)) (hn : n = Z.length) : RowV W G cap Z := by
  subst hn
  rcases h.2 with ⟨e, _⟩ | ⟨g, cap', cur, e, hb, h1, h2, h3, h4, h5⟩
  · cases e
  · simp only [Value.slice.injEq, Option.some.injEq, Addr.mk.injEq, and_true, true_and] at e
    obtain ⟨rfl, rfl⟩ := e
    exact ⟨cur, h1, h2, h3, by omega, by rw [Nat.mul_one] at h5; exact h5⟩
theorem RowV.set (h : RowV W G cap Z) (j : Nat) (x : Tx) : RowV (W.setCell ⟨G, j, none⟩ x.v) G cap (Z.set j x) := by
  obtain ⟨cur, h1, h2, h3, h4, h5⟩ := h
  refine ⟨_, heap_setCell_same W G j cur _ _ h1, by rw [List.length_set]; exact h2, h3, by simpa using h4, ?_⟩
  rw [List.length_set, Array.toList_setIfInBounds, List.take_set, h5, List.map_set]
/-- Of the first k of s those of which the one ahead is another. -/
def uniqT (s : List Tx) : Nat → List Tx
  | 0 => []
  | k + 1 => uniqT s k ++ (if k = 0 ∨ ¬ (s.getD k noTx).xs = (s.getD (k - 1) noTx).xs then [s.getD k noTx] else [])
theorem uniqT_keep {s : List Tx} {k : Nat} {x y : Tx} (hx : s[k + 1]? = some x) (hy : s[k]? = some y) (h : ¬ x.xs = y.xs) : uniqT s (k + 2) = uniqT s (k + 1) ++ [x] := by
  rw [uniqT, if_pos (.inr (by simpa [List.getD_eq_getElem?_getD, hx, hy] using h))]
  simp [List.getD_eq_getElem?_getD, hx]
theorem uniqT_drop {s : List Tx} {k : Nat} {x y : Tx} (hx : s[k + 1]? = some x) (hy : s[k]? = some y) (h : x.xs = y.xs) : uniqT s (k + 2) = uniqT s (k + 1) := by
  rw [uniqT, if_neg (by simpa [List.getD_eq_getElem?_getD, hx, hy] using h), List.append_nil]
theorem uniqT_one {s : List Tx} (h : 0 < s.length) : uniqT s 1 = s.take 1 := by
  cases s with
  | nil => simp at h
  | cons a s => simp [uniqT]
theorem zeroSs (w : World) : (zeroValue 39).run Try.prog w = .ok (.slice none 0 0) w := by kernel_rfl
theorem zcellsV_one (n : Nat) : ∀ u ∈ (Builtin.zeroCells (Value.slice none 0 0).cells n).toList, u.oneCell' = true := by
  intro u hu
  rw [Array.mem_toList_iff] at hu
  unfold Builtin.zeroCells at hu
  rw [Array.mem_map] at hu
  obtain ⟨i, _, rfl⟩ := hu
  show ((#[.slice none 0 0] : Array Value)[i % 1]!).oneCell' = true
  rw [Nat.mod_one]; rfl
/-- Behind the first j all is cleared. -/
theorem run_clearV (hC : RowV W G cap Z) {j : Nat} (hj : j < Z.length) (c : Nat) (ty : TypeId) :
    ∃ w', (Builtin.clear_ #[22] ty #[.slice (some ⟨G, j, none⟩) (Z.length - j) c]).run Try.prog W = .ok (.tuple #[]) w' ∧ RowV w' G cap (Z.take j) ∧ Turn (fun k => k = G) W w' := by
  obtain ⟨cur, h1, h2, h3, h4, h5⟩ := hC
  have hcs : cur.toList.length = cap := by simpa using h4
  have hzl : (Builtin.zeroCells (Value.slice none 0 0).cells (Z.length - j)).toList.length = Z.length - j := by
    rw [Array.length_toList, size_zeroCells]; show (Z.length - j) * 1 = _; omega
  have hst := run_storeCells_at (P := Try.prog) G j 39 (Builtin.zeroCells (Value.slice none 0 0).cells (Z.length - j)).toList 0 cur W h1 (by rw [hzl, h4]; omega) (zcellsV_one _)
  obtain ⟨m, hm⟩ : ∃ m, Z.length - j = m + 1 := ⟨Z.length - j - 1, by omega⟩
  have hut := Try.underlying22
  have hrun : (Builtin.clear_ #[22] ty #[.slice (some ⟨G, j, none⟩) (Z.length - j) c]).run Try.prog W = .ok (.tuple #[]) (W.setRow G (cur.toList.take (j + 0) ++ (Builtin.zeroCells (Value.slice none 0 0).cells (Z.length - j)).toList ++ cur.toList.drop (j + 0 + (Builtin.zeroCells (Value.slice none 0 0).cells (Z.length - j)).toList.length)).toArray) := by
    rw [hm] at hst ⊢
    unfold Builtin.clear_
    simp only [Sem.run_bind, run_underlying hut, zeroSs, Result.andThen_ok, List.getElem?_toArray, List.getElem?_cons_zero, Sem.run_pure, hst]
  generalize (Builtin.zeroCells (Value.slice none 0 0).cells (Z.length - j)).toList = ZS at hzl hrun
  refine ⟨_, hrun, ?_, setRow_turnB _ _ _⟩
  refine ⟨_, setRow_heap W G cur _ _ _ h1, by rw [List.length_take]; omega, h3, ?_, ?_⟩
  · rw [List.size_toArray, List.length_append, List.length_append, List.length_take, List.length_drop, hcs, hzl]
    omega
  · rw [List.length_take, Nat.min_eq_left (by omega), Nat.add_zero, List.toList_toArray, List.append_assoc, List.take_append_of_le_length (by rw [List.length_take, hcs]; omega), List.take_take, Nat.min_self, List.map_take, ← h5, List.take_take, Nat.min_eq_left (by omega)]
theorem wpList_clearV {ops : Array Oper} {rest : List Oper} {o : Oper} {ac : Act} {Q : Exit → Act → World → Prop} (hgd : o.guard = none) (s : Operand) (ho : o.op = .call { callee := .builtin .clear, args := #[s], argTypes := #[22] })
    (hC : RowV W G cap Z) {j n : Nat} (hn : Z.length = n) (hj : j < n) (c : Nat) (hs : ac.eval s = .slice (some ⟨G, j, none⟩) (n - j) c)
    (h : ∀ w', RowV w' G cap (Z.take j) → Turn (fun k => k = G) W w' → wpList Try.prog ops Q rest (ac.put o.dst (.tuple #[])) w') :
    wpList Try.prog ops Q (o :: rest) ac W := by
  subst hn
  refine wpList_plain hgd fun K hK => ?_
  obtain ⟨w', hr, k1, k2⟩ := run_clearV hC hj c o.type
  unfold Oper.wp execOp
  simp only [ho, resolve, invoke, builtin, Sem.run_bind, Sem.run_pure, Result.andThen_ok, List.map_toArray, List.map_cons, List.map_nil, hs, hr]
  exact hK _ _ (h w' k1 k2)
theorem ss_size (W : World) : (sizeOf (Try.prog.elem 22)).run Try.prog W = .ok 1 W ∧ Try.prog.underlying 22 = some (.slice (Try.prog.elem 22)) := by
  obtain ⟨i0, hi, hz0, hz1, hz2⟩ := info_parts infoSs
  have he : Try.prog.elem 22 = 39 := by simp [Program.elem, Try.underlying22]
  rw [he]
  exact ⟨by simp [sizeOf, typeInfo, hi, hz1], Try.underlying22⟩
/-- l[k:]. -/
theorem cutV_at (G n cap k : Nat) (h : k < n) (hn : n ≤ cap) : ∀ W, (Instr.slice 22 (.slice (some ⟨G, 0, none⟩) n cap) (some (.int .i64 (k : Int))) none none).run Try.prog W = .ok (.slice (some ⟨G, k, none⟩) (n - k) (cap - k)) W := fun W => by
  have hs := ss_size W
  rw [run_slice_l W 22 _ _ _ hs.2 .i64 (k : Int) (by omega) (by omega), hs.1]
  simp [sliced, Result.andThen, add_at]
  omega
/-- l[:k]. -/
theorem cutV_to (G n cap k : Nat) (h : k ≤ cap) : ∀ W, (Instr.slice 22 (.slice (some ⟨G, 0, none⟩) n cap) none (some (.int .i64 (k : Int))) none).run Try.prog W = .ok (.slice (some ⟨G, 0, none⟩) k cap) W := fun W => by
  have hs := ss_size W
  rw [run_slice_h W 22 _ _ _ hs.2 .i64 (k : Int) (by omega) (by omega), hs.1]
  simp [sliced, Result.andThen, add_at]
end
end Go.Proofs.Ytbbgembkdhcidaa
