/- closeGaps: what came, without gaps, in the same row. -/
import Derived.Test.YtdnophgcdnghkaaIKi
import Derived.Test.YtdnophgcdnghkaaILi
import Derived.BigRegion
import Derived.Laws.CopyRow
import Derived.Laws.AppendOwn
namespace Go.Proofs.Ytdnophgcdnghkaa.I
open Go.RowKit Go.Maps Go.Proofs.Ytdnophgcdnghkaa

theorem flat_set (L : List E) (j : Nat) (e : E) (h : j < L.length) : flat (L.set j e) = (flat L).take (j * 5) ++ encE e ++ (flat L).drop (j * 5 + 5) := by
  induction L generalizing j with
  | nil => simp at h
  | cons x r ih =>
    cases j with
    | zero => rw [List.set_cons_zero, flat_cons, flat_cons]; simp [encE]
    | succ j =>
      simp only [List.length_cons, Nat.add_lt_add_iff_right] at h
      rw [List.set_cons_succ, flat_cons, flat_cons, ih j h, show (j + 1) * 5 = 5 + j * 5 by omega, show 5 + j * 5 + 5 = 5 + (j * 5 + 5) by omega]
      have e1 : (encE x ++ flat r).take (5 + j * 5) = encE x ++ (flat r).take (j * 5) := by
        rw [← encE_len x, List.take_length_add_append]
      have e2 : (encE x ++ flat r).drop (5 + (j * 5 + 5)) = (flat r).drop (j * 5 + 5) := by
        rw [← encE_len x, List.drop_length_add_append]
      rw [e1, e2]; simp

theorem splice_take {α : Type} (c new : List α) (a n : Nat) (h : a + new.length ≤ n) (hn : n ≤ c.length) : (c.take a ++ new ++ c.drop (a + new.length)).take n = (c.take n).take a ++ new ++ (c.take n).drop (a + new.length) := by
  have h1 : ((c.take a ++ new)).length = a + new.length := by simp; omega
  rw [List.take_append, List.take_of_length_le (by rw [h1]; omega), h1, List.take_take, Nat.min_eq_left (by omega), List.drop_take]

section
variable {w : World} {bt g cap pb N len reach : Nat} {fp : Nat × Nat × Int} {came : List E} {places : List Nat}

theorem Turn.setRow (w : World) (g : Nat) (cs : Array Value) : Turn (fun k => k = g) w (w.setRow g cs) :=
  ⟨rfl, rfl, rfl, by simp, fun k _ hn => setRow_other w g k cs hn⟩

/-- An entry is appended where there is room: it is written over what lay there. -/
theorem run_append_over {L : List E} (hC : Came w g cap L) {j : Nat} (hj : j < L.length) (e : E) (a : Addr) (c : Nat) (ty : TypeId) (hnews : ∀ j u, (encE e)[j]? = some u → w.cell? (a.add j) = some u) :
    ∃ w', (Builtin.append_ #[62, 62] ty #[.slice (some ⟨g, 0, none⟩) j cap, .slice (some a) 1 c]).run Try.prog w = .ok (.slice (some ⟨g, 0, none⟩) (j + 1) cap) w' ∧ Came w' g cap (L.set j e) ∧ Turn (fun k => k = g) w w' := by
  obtain ⟨i0, hi, hz0, hz1, hz2⟩ := info_parts infoEnt
  obtain ⟨cur, h1, h2, h3, h4, h5⟩ := hC
  have hfit : j * i0.size + (encE e).length ≤ cur.size := by rw [hz1, encE_len, h4]; omega
  refine ⟨_, run_append_room (P := Try.prog) w 62 ty 75 i0 Try.underlying62 hi g j cap cur h1 a 1 c (encE e) (by rw [hz1, encE_len]) hnews (by simp [encE, Value.oneCell']) (by omega) hfit, ?_, Turn.setRow _ _ _⟩
  have hcs : cur.toList.length = cap * 5 := by simpa using h4
  refine ⟨_, setRow_heap w g cur _ _ _ h1, by simpa using h2, h3, ?_, ?_⟩
  · rw [hz1, List.size_toArray, List.length_append, List.length_append, List.length_take, List.length_drop, hcs, encE_len]
    omega
  · rw [List.length_set, hz1, encE_len]
    have := splice_take cur.toList (encE e) (j * 5) (L.length * 5) (by rw [encE_len]; omega) (by rw [hcs]; omega)
    rw [encE_len] at this
    rw [this, h5, flat_set L j e hj]

theorem wpList_append_over {ops : Array Oper} {rest : List Oper} {o : Oper} {ac : Act} {Q : Exit → Act → World → Prop} (hgd : o.guard = none) (s x : Operand) (ho : o.op = .call { callee := .builtin .append, args := #[s, x], argTypes := #[62, 62] })
    {L : List E} (hC : Came w g cap L) {j : Nat} (hs : ac.eval s = .slice (some ⟨g, 0, none⟩) j cap) (hj : j < L.length) (e : E) (a : Addr) (c : Nat) (hx : ac.eval x = .slice (some a) 1 c) (hnews : ∀ j u, (encE e)[j]? = some u → w.cell? (a.add j) = some u)
    (h : ∀ w', Came w' g cap (L.set j e) → Turn (fun k => k = g) w w' → wpList Try.prog ops Q rest (ac.put o.dst (.slice (some ⟨g, 0, none⟩) (j + 1) cap)) w') :
    wpList Try.prog ops Q (o :: rest) ac w := by
  refine wpList_plain hgd fun K hK => ?_
  obtain ⟨w', hr, k1, k2⟩ := run_append_over hC hj e a c o.type hnews
  unfold Oper.wp execOp
  simp only [ho, resolve, invoke, builtin, Sem.run_bind, Sem.run_pure, Result.andThen_ok, List.map_toArray, List.map_cons, List.map_nil, hs, hx, hr]
  exact hK _ _ (h w' k1 k2)

theorem zeroEnt (w : World) : (zeroValue 75).run Try.prog w = .ok (.agg #[(.int .i64 0), (.int .i64 0), .int .u64 0, .int .i64 0, .bool false]) w := by kernel_rfl

theorem zcells_one (n : Nat) : ∀ u ∈ (Builtin.zeroCells (Value.agg #[(.int .i64 0), (.int .i64 0), .int .u64 0, .int .i64 0, .bool false]).cells n).toList, u.oneCell' = true := by
  intro u hu
  rw [Array.mem_toList_iff] at hu
  unfold Builtin.zeroCells at hu
  rw [Array.mem_map] at hu
  obtain ⟨i, _, rfl⟩ := hu
  show ((#[(.int .i64 0), (.int .i64 0), .int .u64 0, .int .i64 0, .bool false] : Array Value)[i % 5]!).oneCell' = true
  have c5 : i % 5 = 0 ∨ i % 5 = 1 ∨ i % 5 = 2 ∨ i % 5 = 3 ∨ i % 5 = 4 := by omega
  rcases c5 with h | h | h | h | h <;> rw [h] <;> rfl

/-- Behind the first j entries all is cleared; these stay. -/
theorem run_clear_rest {L : List E} (hC : Came w g cap L) {j : Nat} (hj : j < L.length) (c : Nat) (ty : TypeId) :
    ∃ w', (Builtin.clear_ #[62] ty #[.slice (some ⟨g, j * 5, none⟩) (L.length - j) c]).run Try.prog w = .ok (.tuple #[]) w' ∧ Came w' g cap (L.take j) ∧ Turn (fun k => k = g) w w' := by
  obtain ⟨cur, h1, h2, h3, h4, h5⟩ := hC
  have hcs : cur.toList.length = cap * 5 := by simpa using h4
  have hzl : (Builtin.zeroCells (Value.agg #[(.int .i64 0), (.int .i64 0), .int .u64 0, .int .i64 0, .bool false]).cells (L.length - j)).toList.length = (L.length - j) * 5 := by
    rw [Array.length_toList, size_zeroCells]; rfl
  have hst := run_storeCells_at (P := Try.prog) g (j * 5) 75 (Builtin.zeroCells (Value.agg #[(.int .i64 0), (.int .i64 0), .int .u64 0, .int .i64 0, .bool false]).cells (L.length - j)).toList 0 cur w h1 (by rw [hzl, h4]; omega) (zcells_one _)
  obtain ⟨m, hm⟩ : ∃ m, L.length - j = m + 1 := ⟨L.length - j - 1, by omega⟩
  have hut := Try.underlying62
  have hrun : (Builtin.clear_ #[62] ty #[.slice (some ⟨g, j * 5, none⟩) (L.length - j) c]).run Try.prog w = .ok (.tuple #[]) (w.setRow g (cur.toList.take (j * 5 + 0) ++ (Builtin.zeroCells (Value.agg #[(.int .i64 0), (.int .i64 0), .int .u64 0, .int .i64 0, .bool false]).cells (L.length - j)).toList ++ cur.toList.drop (j * 5 + 0 + (Builtin.zeroCells (Value.agg #[(.int .i64 0), (.int .i64 0), .int .u64 0, .int .i64 0, .bool false]).cells (L.length - j)).toList.length)).toArray) := by
    rw [hm] at hst ⊢
    unfold Builtin.clear_
    simp only [Sem.run_bind, run_underlying hut, zeroEnt, Result.andThen_ok, List.getElem?_toArray, List.getElem?_cons_zero, Sem.run_pure, hst]
  generalize (Builtin.zeroCells (Value.agg #[(.int .i64 0), (.int .i64 0), .int .u64 0, .int .i64 0, .bool false]).cells (L.length - j)).toList = ZS at hzl hrun
  refine ⟨_, hrun, ?_, Turn.setRow _ _ _⟩
  refine ⟨_, setRow_heap w g cur _ _ _ h1, by rw [List.length_take]; omega, h3, ?_, ?_⟩
  · rw [List.size_toArray, List.length_append, List.length_append, List.length_take, List.length_drop, hcs, hzl]
    omega
  · rw [List.length_take, Nat.min_eq_left (by omega), Nat.add_zero, List.toList_toArray, List.append_assoc, List.take_append_of_le_length (by rw [List.length_take, hcs]; omega), List.take_take, Nat.min_self]
    have : (flat L).take (j * 5) = flat (L.take j) := by
      have e : flat L = flat (L.take j) ++ flat (L.drop j) := by rw [← flat_append, List.take_append_drop]
      rw [e, List.take_append_of_le_length (by rw [flat_len, List.length_take]; omega), List.take_of_length_le (by rw [flat_len, List.length_take]; omega)]
    rw [← this, ← h5, List.take_take, Nat.min_eq_left (by omega)]
end
end Go.Proofs.Ytdnophgcdnghkaa.I
