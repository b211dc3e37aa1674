/- The library's CompactFunc on a row of things, with the function that order.Set hands it. -/
import Derived.Test.YtdbilngkokkggaaGE
import Derived.Test.YtdbilngkokkggaaSC
import Derived.Test.YtdbilngkokkggaaSB
namespace Go.Proofs.Ytdbilngkokkggaa
open Go.RowKit Go.Maps Go.Shelf Go.Sort Go.Proofs.Ytdbilngkokkggaa.HT

theorem zeroTh (w : World) : (zeroValue 33).run Try.prog w = .ok (.agg #[.int .i64 0, .int .i64 0]) w := by kernel_rfl
theorem zcellsT_one (n : Nat) : ∀ u ∈ (Builtin.zeroCells (Value.agg #[.int .i64 0, .int .i64 0]).cells n).toList, u.oneCell' = true := by
  intro u hu
  rw [Array.mem_toList_iff] at hu
  unfold Builtin.zeroCells at hu
  rw [Array.mem_map] at hu
  obtain ⟨i, _, rfl⟩ := hu
  show ((#[.int .i64 0, .int .i64 0] : Array Value)[i % 2]!).oneCell' = true
  rcases Nat.mod_two_eq_zero_or_one i with h | h <;> rw [h] <;> rfl
theorem setRow_turn (w : World) (g : Nat) (cs : Array Value) : Turn (fun k => k = g) w (w.setRow g cs) := by
  refine ⟨rfl, rfl, rfl, by simp [World.setRow], fun k hk hn => ?_⟩
  simp only [World.setRow, Array.getElem?_modify]
  rw [if_neg (fun e => hn e.symm)]
/-- Behind the first j things all is cleared; these stay. -/
theorem run_clearT {w : World} {g cap : Nat} {L : List (Int × Int)} (hC : RowT w g cap L) {j : Nat} (hj : j < L.length) (c : Nat) (ty : TypeId) :
    ∃ w', (Builtin.clear_ #[29] ty #[.slice (some ⟨g, j * 2, none⟩) (L.length - j) c]).run Try.prog w = .ok (.tuple #[]) w' ∧ RowT w' g cap (L.take j) ∧ Turn (fun k => k = g) w w' := by
  obtain ⟨cur, h1, h2, h3, h4, h5⟩ := hC
  have hcs : cur.toList.length = cap * 2 := by simpa using h4
  have hzl : (Builtin.zeroCells (Value.agg #[.int .i64 0, .int .i64 0]).cells (L.length - j)).toList.length = (L.length - j) * 2 := by
    rw [Array.length_toList, size_zeroCells]; rfl
  have hst := run_storeCells_at (P := Try.prog) g (j * 2) 33 (Builtin.zeroCells (Value.agg #[.int .i64 0, .int .i64 0]).cells (L.length - j)).toList 0 cur w h1 (by rw [hzl, h4]; omega) (zcellsT_one _)
  obtain ⟨m, hm⟩ : ∃ m, L.length - j = m + 1 := ⟨L.length - j - 1, by omega⟩
  have hut := Try.underlying29
  have hrun : (Builtin.clear_ #[29] ty #[.slice (some ⟨g, j * 2, none⟩) (L.length - j) c]).run Try.prog w = .ok (.tuple #[]) (w.setRow g (cur.toList.take (j * 2 + 0) ++ (Builtin.zeroCells (Value.agg #[.int .i64 0, .int .i64 0]).cells (L.length - j)).toList ++ cur.toList.drop (j * 2 + 0 + (Builtin.zeroCells (Value.agg #[.int .i64 0, .int .i64 0]).cells (L.length - j)).toList.length)).toArray) := by
    rw [hm] at hst ⊢
    unfold Builtin.clear_
    simp only [Sem.run_bind, run_underlying hut, zeroTh, Result.andThen_ok, List.getElem?_toArray, List.getElem?_cons_zero, Sem.run_pure, hst]
  generalize (Builtin.zeroCells (Value.agg #[.int .i64 0, .int .i64 0]).cells (L.length - j)).toList = ZS at hzl hrun
  refine ⟨_, hrun, ?_, setRow_turn _ _ _⟩
  refine ⟨_, setRow_heap w g cur _ _ _ h1, by rw [List.length_take]; omega, h3, ?_, ?_⟩
  · rw [List.size_toArray, List.length_append, List.length_append, List.length_take, List.length_drop, hcs, hzl]
    omega
  · rw [List.length_take, Nat.min_eq_left (by omega), Nat.add_zero, List.toList_toArray, List.append_assoc, List.take_append_of_le_length (by rw [List.length_take, hcs]; omega), List.take_take, Nat.min_self]
    have : (cellsT L).take (j * 2) = cellsT (L.take j) := by
      have e : cellsT L = cellsT (L.take j) ++ cellsT (L.drop j) := by rw [← cellsT_append, List.take_append_drop]
      rw [e, List.take_append_of_le_length (by rw [cellsT_len, List.length_take]; omega), List.take_of_length_le (by rw [cellsT_len, List.length_take]; omega)]
    rw [← this, ← h5, List.take_take, Nat.min_eq_left (by omega)]
theorem wpList_clearT {w : World} {g cap : Nat} {ops : Array Oper} {rest : List Oper} {o : Oper} {ac : Act} {Q : Exit → Act → World → Prop} (hgd : o.guard = none) (s : Operand) (ho : o.op = .call { callee := .builtin .clear, args := #[s], argTypes := #[29] })
    {L : List (Int × Int)} (hC : RowT w g cap L) {j n : Nat} (hn : L.length = n) (hj : j < n) (c : Nat) (hs : ac.eval s = .slice (some ⟨g, j * 2, none⟩) (n - j) c)
    (h : ∀ w', RowT w' g cap (L.take j) → Turn (fun k => k = g) w w' → wpList Try.prog ops Q rest (ac.put o.dst (.tuple #[])) w') :
    wpList Try.prog ops Q (o :: rest) ac w := by
  subst hn
  refine wpList_plain hgd fun K hK => ?_
  obtain ⟨w', hr, k1, k2⟩ := run_clearT hC hj c o.type
  unfold Oper.wp execOp
  simp only [ho, resolve, invoke, builtin, Sem.run_bind, Sem.run_pure, Result.andThen_ok, List.map_toArray, List.map_cons, List.map_nil, hs, hr]
  exact hK _ _ (h w' k1 k2)
/-- l[k:]. -/
theorem cut_at (G n k : Nat) (h : k < n) : ∀ W, (Instr.slice 29 (.slice (some ⟨G, 0, none⟩) n n) (some (.int .i64 (k : Int))) none none).run Try.prog W = .ok (.slice (some ⟨G, k * 2, none⟩) (n - k) (n - k)) W := fun W => by
  have hs := things_size W
  rw [run_slice_l W 29 _ _ _ hs.2 .i64 (k : Int) (by omega) (by omega), hs.1]
  simp [sliced, Result.andThen, add_at]
  omega

/-- Of the first k of s those of which the one ahead has another key. -/
def uniqK (κ : Int × Int → Int) (s : List (Int × Int)) : Nat → List (Int × Int)
  | 0 => []
  | k + 1 => uniqK κ s k ++ (if k = 0 ∨ ¬ κ (s.getD k (0, 0)) = κ (s.getD (k - 1) (0, 0)) then [s.getD k (0, 0)] else [])
theorem uniqK_R (s : List (Int × Int)) : ∀ k, uniqK (fun x => x.1) s k = uniqR s k
  | 0 => rfl
  | k + 1 => by rw [uniqK, uniqR, uniqK_R s k]
theorem uniqK_no (s : List (Int × Int)) : ∀ k, uniqK (fun _ => 0) s (k + 1) = [s.getD 0 (0, 0)]
  | 0 => by simp [uniqK]
  | k + 1 => by rw [uniqK, uniqK_no s k]; simp
theorem uniqK_len (κ : Int × Int → Int) (s : List (Int × Int)) : ∀ k, (uniqK κ s k).length ≤ k
  | 0 => Nat.le_refl _
  | k + 1 => by
    have := uniqK_len κ s k
    simp only [uniqK, List.length_append]
    split <;> simp <;> omega
theorem uniqK_keep {κ : Int × Int → Int} {s : List (Int × Int)} {k : Nat} {x y : Int × Int} (hx : s[k + 1]? = some x) (hy : s[k]? = some y) (h : ¬ κ x = κ y) : uniqK κ s (k + 2) = uniqK κ s (k + 1) ++ [x] := by
  rw [uniqK, if_pos (.inr (by simpa [List.getD_eq_getElem?_getD, hx, hy] using h))]
  simp [List.getD_eq_getElem?_getD, hx]
theorem uniqK_drop {κ : Int × Int → Int} {s : List (Int × Int)} {k : Nat} {x y : Int × Int} (hx : s[k + 1]? = some x) (hy : s[k]? = some y) (h : κ x = κ y) : uniqK κ s (k + 2) = uniqK κ s (k + 1) := by
  rw [uniqK, if_neg (by simpa [List.getD_eq_getElem?_getD, hx, hy] using h), List.append_nil]
theorem uniqK_one {κ : Int × Int → Int} {s : List (Int × Int)} (h : 0 < s.length) : uniqK κ s 1 = s.take 1 := by
  cases s with
  | nil => simp at h
  | cons a s => simp [uniqK]

/-- The function that order.Set hands on: box names the order. -/
def EqF (box : Nat) : Value := .func (.func 57) #[] #[.pointer (some ⟨box, 0, none⟩)]
theorem eq_any {g : Nat} {κ : Int × Int → Int} {cf : Int × Int → Int × Int → Int} (h : Ord g κ cf) (hz : ∀ x y, cf x y = 0 ↔ κ x = κ y) (box : Nat) (x1 x2 y1 y2 : Int) (W : World) (hb : W.cell? ⟨box, 0, none⟩ = some (.func (.func g) #[] #[])) (q : Bool) (hq : q = decide (κ (x1, x2) = κ (y1, y2))) :
    Calls Try.prog 57 #[.agg #[.int .i64 x1, .int .i64 x2], .agg #[.int .i64 y1, .int .i64 y2], .pointer (some ⟨box, 0, none⟩)] W fun e w' => e = .returned (.bool q) ∧ ∃ n os, w' = grow (W.drewN n) os := by
  have hlt := World.block_lt_of_cell? W _ hb
  obtain ⟨W2, hW2⟩ : ∃ W2, W2 = (W.alloc (.cells #[.int .i64 x1, .int .i64 x2] 33)).alloc (.cells #[.int .i64 y1, .int .i64 y2] 33) := ⟨_, rfl⟩
  have hc := h.call (x1, x2) (y1, y2) W2
  have eg := h.eg
  obtain ⟨c, hcc⟩ : ∃ c, c = cf (x1, x2) (y1, y2) := ⟨_, rfl⟩
  rw [← hcc] at hc
  have HQ : Hid (q = decide (c = 0)) := by
    rw [hq, hcc]
    show decide _ = decide _
    rw [Bool.eq_iff_iff, decide_eq_true_iff, decide_eq_true_iff]
    exact (hz _ _).symm
  have HW : Hid (W2 = grow W #[.cells #[.int .i64 x1, .int .i64 x2] 33, .cells #[.int .i64 y1, .int .i64 y2] 33]) := by
    rw [hW2, alloc_eq_grow, alloc_eq_grow, grow_grow]; rfl
  have hb2 : ∀ o1 o2, ((W.alloc o1).alloc o2).cell? ⟨box, 0, none⟩ = some (.func (.func g) #[] #[]) := fun o1 o2 => ((Stay.new W o1).alloc o2).cell hb
  clear h hz hcc hq hlt
  dsimp only at hc
  go_enter Try.func57, Try.ntmps57
  go_wp2_with fail
  rw [← hW2]
  refine hc.mono ?_
  rintro e w1 ⟨rfl, n, os, hw⟩
  have HR : Hid (∃ n os, w1 = grow (W.drewN n) os) := by
    refine ⟨n, #[.cells #[.int .i64 x1, .int .i64 x2] 33, .cells #[.int .i64 y1, .int .i64 y2] 33] ++ os, ?_⟩
    rw [hw, HW.out]
    show grow (grow (W.drewN n) _) os = _
    rw [grow_grow]
  clear hw hc hW2 HW hb2
  go_wp2
  go_ret
  exact ⟨by rw [HQ.out]; congr 2, HR.out⟩
end Go.Proofs.Ytdbilngkokkggaa
