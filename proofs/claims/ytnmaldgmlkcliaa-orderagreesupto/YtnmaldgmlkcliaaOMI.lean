/- Two lists of lists that grow side by side: the sorted ones, and what is lent of them. No walk here. -/
import Derived.Test.YtnmaldgmlkcliaaOMH
import Derived.Test.YtnmaldgmlkcliaaSJ
import Derived.Test.YtnmaldgmlkcliaaTE
namespace Go.Proofs.Ytnmaldgmlkcliaa
open Go.RowKit Go.Maps Go.Sort

theorem infoThs : (Try.prog.info? 23).map (fun i => (i.zero, i.size, i.bytes)) = some (some (.slice none 0 0), 1, 24) := by kernel_rfl
theorem ths_size (W : World) : (sizeOf (Try.prog.elem 22)).run Try.prog W = .ok 1 W ∧ Try.prog.underlying 22 = some (.slice (Try.prog.elem 22)) := by
  obtain ⟨i0, hi, hz0, hz1, hz2⟩ := info_parts infoThs
  have he : Try.prog.elem 22 = 23 := by simp [Program.elem, Try.underlying22]
  rw [he]
  exact ⟨by simp [sizeOf, typeInfo, hi, hz1], Try.underlying22⟩
/-- l[:k]. -/
theorem cutL_to (G n cap k : Nat) (h : k ≤ cap) : ∀ W, (Instr.slice 22 (.slice (some ⟨G, 0, none⟩) n cap) none (some (.int .i64 (k : Int))) none).run Try.prog W = .ok (.slice (some ⟨G, 0, none⟩) k cap) W := fun W => by
  have hs := ths_size W
  rw [run_slice_h W 22 _ _ _ hs.2 .i64 (k : Int) (by omega) (by omega), hs.1]
  simp [sliced, Result.andThen, add_at]
theorem rowL_push {base : Nat} {V : World} {v : Value} {us : List Value} (row : V.ownsRow base 23 1 v us.length us) (x : Value) (h1 : x.oneCell' = true) (hb : (us.length + 1) * 24 ≤ 140737488355328) (hbase : base ≤ V.heap.size) :
    ∃ v' V', (Builtin.append_ #[22, 22] 22 #[v, .slice (some ⟨V.heap.size, 0, none⟩) 1 1]).run Try.prog (V.alloc (.cells #[x] 23)) = .ok v' V' ∧ V'.ownsRow base 23 1 v' (us.length + 1) (us ++ [x]) ∧ Turn (fun k => v.ownBlock = some k) V V' ∧ (∀ k, v'.ownBlock = some k → v.ownBlock = some k ∨ k = V.heap.size + 1) := by
  obtain ⟨i0, hi, hz0, hz1, hz2⟩ := info_parts infoThs
  obtain ⟨v', w', hr, h2, h3, h4, h5⟩ := run_append_own_at (P := Try.prog) (V.alloc (.cells #[x] 23)) base 22 22 23 i0 (.slice none 0 0) 1 24 Try.underlying22 hi hz0 hz1 hz2 rfl (by decide) v us.length us (row.alloc _) ⟨V.heap.size, 0, none⟩ 1 1 [x] rfl (new_cells V [x] _) (by intro u hu; simp at hu; subst hu; exact h1) (by unfold maxLen; omega) hb (by simp; omega)
  rw [World.size_alloc] at h5
  refine ⟨v', w', hr, h2, (Turn.of_stay (Stay.new V _)).trans ⟨h3.os, h3.tape, h3.output, h3.size, fun k hk hn => h3.block k hk (fun e => hn e.symm)⟩, fun k hk => ?_⟩
  rcases h5 with e | e
  · rw [e] at hk; exact .inl hk
  · rw [e] at hk; exact .inr (Option.some.inj hk).symm
theorem Ls.In.turn {S : Nat → Prop} {w w' : World} {L : Ls} (h : L.In w) (ht : Turn S w w') (hn : 0 < L.ts.length → ¬ S L.b) : L.In w' :=
  ⟨⟨h.1.1, fun j hj => ⟨ht.cell (h.1.2 j hj).1 (hn (by omega)), ht.cell (h.1.2 j hj).2 (hn (by omega))⟩⟩, h.2⟩
theorem Ls.In.lt {w : World} {L : Ls} (h : L.In w) (h0 : 0 < L.ts.length) : L.b < w.heap.size := World.block_lt_of_cell? w _ (h.1.2 0 h0).1
/-- The sorted lists and the lent ones. -/
structure Gr (W wr : World) (v3 v4 : Value) (R X : List Ls) : Prop where
  stay : Stay W wr
  row3 : wr.ownsRow W.heap.size 23 1 v3 R.length (R.map Ls.val)
  row4 : wr.ownsRow W.heap.size 23 1 v4 X.length (X.map Ls.val)
  two : ∀ k, v3.ownBlock = some k → v4.ownBlock ≠ some k
  each3 : ∀ L ∈ R, L.In wr ∧ (0 < L.ts.length → v3.ownBlock ≠ some L.b ∧ v4.ownBlock ≠ some L.b)
  each4 : ∀ L ∈ X, LentH W.heap.size wr L.b L.c L.ts ∧ L.a = some ⟨L.b, 0, none⟩ ∧ L.off = 0 ∧ v3.ownBlock ≠ some L.b ∧ v4.ownBlock ≠ some L.b
section
variable {W wr wr' V : World} {v3 v4 : Value} {R X : List Ls}
theorem Gr.nil (W : World) : Gr W W (.slice none 0 0) (.slice none 0 0) [] [] :=
  ⟨Stay.refl _, World.ownsRow_nil _ _ _ _, World.ownsRow_nil _ _ _ _, fun k hk => by simp [Value.ownBlock] at hk, fun L h => by simp at h, fun L h => by simp at h⟩
theorem Gr.go (h : Gr W wr v3 v4 R X) (hs : Stay wr V) : Gr W V v3 v4 R X :=
  ⟨h.stay.trans hs, (Turn.of_stay (S := fun _ => False) hs).row h.row3 (fun _ _ h => h), (Turn.of_stay (S := fun _ => False) hs).row h.row4 (fun _ _ h => h), h.two, fun L hL => ⟨(h.each3 L hL).1.stay hs, (h.each3 L hL).2⟩, fun L hL => ⟨(h.each4 L hL).1.stay hs, (h.each4 L hL).2⟩⟩
/-- One sorted list more. -/
theorem Gr.push3 (h : Gr W V v3 v4 R X) {L : Ls} (hL : L.In V) (hnew : 0 < L.ts.length → v3.ownBlock ≠ some L.b ∧ v4.ownBlock ≠ some L.b) (hb : (R.length + 1) * 24 ≤ 140737488355328) :
    ∃ v' V', (Builtin.append_ #[22, 22] 22 #[v3, .slice (some ⟨V.heap.size, 0, none⟩) 1 1]).run Try.prog (V.alloc (.cells #[L.val] 23)) = .ok v' V' ∧ Gr W V' v' v4 (R ++ [L]) X ∧ L.In V' := by
  have hz := h.stay.size
  have hr3 := h.row3
  rw [← List.length_map (f := Ls.val)] at hr3
  obtain ⟨v', V', hr, h2, h3, h4⟩ := rowL_push hr3 L.val rfl (by rw [List.length_map]; exact hb) hz
  rw [List.length_map] at h2
  have l3 := fun k e => World.ownsRow.lt h.row3 k e
  have l4 := fun k e => World.ownsRow.lt h.row4 k e
  have new3 : ∀ b, v3.ownBlock ≠ some b → b < V.heap.size → v'.ownBlock ≠ some b := fun b hb hlt e => by
    rcases h4 b e with e | e
    · exact hb e
    · omega
  have hLV : L.In V' := hL.turn h3 (fun h0 => (hnew h0).1)
  refine ⟨v', V', hr, ⟨h3.stay h.stay (fun k hk e => by have := (l3 k e).1; omega), by rw [List.length_append, List.map_append]; exact h2, h3.row h.row4 (fun k hk e => h.two k e hk), fun k hk e => ?_, fun L' hL' => ?_, fun L' hL' => ?_⟩, hLV⟩
  · rcases h4 k hk with e1 | e1
    · exact h.two k e1 e
    · have := (l4 k e).2; omega
  · rcases List.mem_append.1 hL' with hm | hm
    · obtain ⟨a1, a2⟩ := h.each3 L' hm
      exact ⟨a1.turn h3 (fun h0 => (a2 h0).1), fun h0 => ⟨new3 _ (a2 h0).1 (a1.lt h0), (a2 h0).2⟩⟩
    · rw [List.mem_singleton] at hm
      subst hm
      exact ⟨hLV, fun h0 => ⟨new3 _ (hnew h0).1 (hL.lt h0), (hnew h0).2⟩⟩
  · obtain ⟨a1, a2, a3, a4, a5⟩ := h.each4 L' hL'
    exact ⟨a1.turn h3 a4, a2, a3, new3 _ a4 a1.1.lt, a5⟩
/-- One more behind the lent ones. -/
theorem Gr.grow4 (h : Gr W V v3 v4 R X) (x : Value) (h1 : x.oneCell' = true) (hb : (X.length + 1) * 24 ≤ 140737488355328) :
    ∃ v' V', (Builtin.append_ #[22, 22] 22 #[v4, .slice (some ⟨V.heap.size, 0, none⟩) 1 1]).run Try.prog (V.alloc (.cells #[x] 23)) = .ok v' V' ∧ V'.ownsRow W.heap.size 23 1 v' (X.length + 1) (X.map Ls.val ++ [x]) ∧ Turn (fun k => v4.ownBlock = some k) V V' ∧ Stay W V' ∧ V'.ownsRow W.heap.size 23 1 v3 R.length (R.map Ls.val) ∧ (∀ k, v3.ownBlock = some k → v'.ownBlock ≠ some k) ∧ (∀ L ∈ R, L.In V' ∧ (0 < L.ts.length → v3.ownBlock ≠ some L.b ∧ v'.ownBlock ≠ some L.b)) ∧ (∀ L ∈ X, LentH W.heap.size V' L.b L.c L.ts ∧ L.a = some ⟨L.b, 0, none⟩ ∧ L.off = 0 ∧ v3.ownBlock ≠ some L.b ∧ v'.ownBlock ≠ some L.b) ∧ (∀ b, v4.ownBlock ≠ some b → b < V.heap.size → v'.ownBlock ≠ some b) := by
  have hz := h.stay.size
  have hr4 := h.row4
  rw [← List.length_map (f := Ls.val)] at hr4
  obtain ⟨v', V', hr, h2, h3, h4⟩ := rowL_push hr4 x h1 (by rw [List.length_map]; exact hb) hz
  rw [List.length_map] at h2
  have l3 := fun k e => World.ownsRow.lt h.row3 k e
  have l4 := fun k e => World.ownsRow.lt h.row4 k e
  have new4 : ∀ b, v4.ownBlock ≠ some b → b < V.heap.size → v'.ownBlock ≠ some b := fun b hb hlt e => by
    rcases h4 b e with e | e
    · exact hb e
    · omega
  refine ⟨v', V', hr, h2, h3, h3.stay h.stay (fun k hk e => by have := (l4 k e).1; omega), h3.row h.row3 (fun k hk e => h.two k hk e), fun k hk e => ?_, fun L' hL' => ?_, fun L' hL' => ?_, new4⟩
  · rcases h4 k e with e1 | e1
    · exact h.two k hk e1
    · have := (l3 k hk).2; omega
  · obtain ⟨a1, a2⟩ := h.each3 L' hL'
    exact ⟨a1.turn h3 (fun h0 => (a2 h0).2), fun h0 => ⟨(a2 h0).1, new4 _ (a2 h0).2 (a1.lt h0)⟩⟩
  · obtain ⟨a1, a2, a3, a4, a5⟩ := h.each4 L' hL'
    exact ⟨a1.turn h3 a5, a2, a3, a4, new4 _ a5 a1.1.lt⟩
theorem Gr.push4 (h : Gr W V v3 v4 R X) {g c : Nat} {ts : List (Int × Int)} (hL : LentH W.heap.size V g c ts) (hn3 : v3.ownBlock ≠ some g) (hn4 : v4.ownBlock ≠ some g) (hb : (X.length + 1) * 24 ≤ 140737488355328) :
    ∃ v' V', (Builtin.append_ #[22, 22] 22 #[v4, .slice (some ⟨V.heap.size, 0, none⟩) 1 1]).run Try.prog (V.alloc (.cells #[.slice (some ⟨g, 0, none⟩) ts.length c] 23)) = .ok v' V' ∧ Gr W V' v3 v' R (X ++ [⟨some ⟨g, 0, none⟩, g, 0, c, ts⟩]) := by
  obtain ⟨v', V', hr, h2, h3, h4, h5, h6, h7, h8, h9⟩ := h.grow4 (.slice (some ⟨g, 0, none⟩) ts.length c) rfl hb
  refine ⟨v', V', hr, ⟨h4, h5, by rw [List.length_append, List.map_append]; exact h2, h6, h7, fun L' hL' => ?_⟩⟩
  rcases List.mem_append.1 hL' with hm | hm
  · exact h8 L' hm
  · rw [List.mem_singleton] at hm
    subst hm
    exact ⟨hL.turn h3 hn4, rfl, rfl, hn3, h9 _ hn4 hL.1.lt⟩
/-- As a reader has them. -/
theorem rowL_read {base : Nat} {v : Value} {ls : List Ls} (h : V.ownsRow base 23 1 v ls.length (ls.map Ls.val)) (hin : ∀ L ∈ ls, L.In V) : ∃ a b c, v = .slice a ls.length c ∧ LsS V a b 0 ls := by
  have h0 := h
  rcases h.2 with ⟨hv, hn⟩ | ⟨g, cap, cur, hv, _⟩
  · have e : ls = [] := List.eq_nil_of_length_eq_zero hn
    subst e
    exact ⟨none, 0, 0, hv, fun h => absurd h (Nat.lt_irrefl _), fun _ h => absurd h (Nat.not_lt_zero _)⟩
  · rw [hv] at h0
    refine ⟨some ⟨g, 0, none⟩, g, cap, hv, fun _ => rfl, fun j hj => ⟨?_, hin _ (List.getElem_mem hj)⟩⟩
    rw [Nat.zero_add]
    exact row_cell h0 j _ (by simp [hj])
theorem lent_in {base : Nat} {L : Ls} (h : LentH base V L.b L.c L.ts) (ha : L.a = some ⟨L.b, 0, none⟩) (ho : L.off = 0) : L.In V := by
  refine ⟨?_, fun e => by rw [ha] at e; cases e⟩
  rw [ha, ho]
  exact h.things
/-- What lies there behind the loop: the lent lists with one behind them, the sorted ones. -/
structure Lain (W V : World) (G cap : Nat) (v3 : Value) (R X : List Ls) : Prop where
  stay : Stay W V
  cap : X.length ≤ cap
  lists : LsS V (some ⟨G, 0, none⟩) G 0 X
  lent : ∀ L ∈ X, LentH W.heap.size V L.b L.c L.ts ∧ L.a = some ⟨L.b, 0, none⟩
  last : ∃ M, V.cell? ⟨G, X.length, none⟩ = some (.slice (some ⟨M, 0, none⟩) 1 1)
  sorted : ∃ a b c, v3 = .slice a R.length c ∧ LsS V a b 0 R
theorem Gr.done (h : Gr W wr v3 v4 R X) (hb : (X.length + 1) * 24 ≤ 140737488355328) :
    ∃ G cap V', (Builtin.append_ #[22, 22] 22 #[v4, .slice (some ⟨wr.heap.size + 1, 0, none⟩) 1 1]).run Try.prog ((wr.alloc (.cells #[.int .i64 (-3), .int .i64 (-3)] 26)).alloc (.cells #[.slice (some ⟨wr.heap.size, 0, none⟩) 1 1] 23)) = .ok (.slice (some ⟨G, 0, none⟩) (X.length + 1) cap) V' ∧ Lain W V' G cap v3 R X := by
  obtain ⟨v', V', hr, h2, h3, h4, h5, h6, h7, h8, h9⟩ := (h.go (Stay.new wr (.cells #[.int .i64 (-3), .int .i64 (-3)] 26))).grow4 (.slice (some ⟨wr.heap.size, 0, none⟩) 1 1) rfl hb
  rw [World.size_alloc] at hr
  rcases h2.2 with ⟨hv, hn⟩ | ⟨g, cap, cur, hv, hbg, hh, k1, _⟩
  · omega
  · subst hv
    refine ⟨g, cap, V', hr, ⟨h4, by omega, ⟨fun _ => rfl, fun j hj => ⟨?_, ?_⟩⟩, fun L hL => ⟨(h8 L hL).1, (h8 L hL).2.1⟩, ⟨wr.heap.size, ?_⟩, rowL_read h5 (fun L hL => (h7 L hL).1)⟩⟩
    · rw [Nat.zero_add]
      exact row_cell h2 j _ (by rw [List.getElem?_append_left (by rw [List.length_map]; exact hj), List.getElem?_map, List.getElem?_eq_getElem hj]; rfl)
    · obtain ⟨a1, a2, a3, _⟩ := h8 _ (List.getElem_mem hj)
      exact lent_in a1 a2 a3
    · exact row_cell h2 X.length _ (by rw [List.getElem?_append_right (by rw [List.length_map]; exact Nat.le_refl _), List.length_map, Nat.sub_self]; rfl)
theorem Lain.go {G cap : Nat} (h : Lain W wr G cap v3 R X) (hs : Stay wr V) : Lain W V G cap v3 R X := by
  obtain ⟨M, hM⟩ := h.last
  obtain ⟨a, b, c, h1, h2⟩ := h.sorted
  exact ⟨h.stay.trans hs, h.cap, h.lists.stay hs, fun L hL => ⟨(h.lent L hL).1.stay hs, (h.lent L hL).2⟩, ⟨M, hs.cell hM⟩, a, b, c, h1, h2.stay hs⟩
end
/-- Two values by their numbers. -/
def twoV (a b : Value) : Nat → Value
  | 0 => a
  | _ => b
def twoL (a b : List (Int × Int)) : Nat → List (Int × Int)
  | 0 => a
  | _ => b
theorem lists_two {W : World} {va vb : Value} {la lb : List (Int × Int)} {n0 n1 : Nat} (h0 : OwnT n0 W va la) (h1 : OwnT n1 W vb lb) (k0 : ∀ k, va.ownBlock = some k → k < n1) (e1 : n0 ≤ n1) :
    Lists n0 (W.alloc (.cells #[va, vb] 23)) W.heap.size 2 (twoV va vb) (twoL la lb) := by
  have l0 := fun k e => h0.lt k e
  have l1 := fun k e => h1.lt k e
  refine ⟨⟨fun i j hi hj hij b hb hb2 => ?_, fun i hi hb => ?_⟩, fun i hi => ?_, fun i hi => ?_⟩
  · have c0 := fun e => And.intro (l0 b e) (k0 b e)
    have c1 := fun e => l1 b e
    match i, j, hi, hj with
    | 0, 0, _, _ => exact hij rfl
    | 0, 1, _, _ => have := c0 hb; have := c1 hb2; omega
    | 1, 0, _, _ => have := c1 hb; have := c0 hb2; omega
    | 1, 1, _, _ => exact hij rfl
  · match i, hi with
    | 0, _ => have := l0 _ hb; omega
    | 1, _ => have := l1 _ hb; omega
  · have h9 := new_cells W [va, vb] 23
    match i, hi with
    | 0, _ => have := h9 0 va rfl; rwa [add_at] at this
    | 1, _ => have := h9 1 vb rfl; rwa [add_at] at this
  · match i, hi with
    | 0, _ => exact (h0.alloc _)
    | 1, _ => exact ((h1.alloc _).mono (by omega))
/-- Two lists of one's own that say the same. -/
theorem same_own2 {V : World} {b1 b2 : Nat} {v1 v2 : Value} {ts : List (Int × Int)} (h1 : OwnT b1 V v1 ts) (h2 : OwnT b2 V v2 ts) : Calls Try.prog 10 #[v1, v2] V fun e w' => e = .returned (.bool true) ∧ Stay V w' := by
  obtain ⟨a1, c1, d1, rfl, s1, _, l1, _⟩ := h1.form
  obtain ⟨a2, c2, d2, rfl, s2, _, _, _⟩ := h2.form
  refine (same_any V a1 a2 c1 0 c2 0 d1 d2 ts ts s1 s2 l1 l1).mono fun e w' h => ⟨by rw [h.1]; simp, h.2⟩
theorem own_sl {V : World} {b1 : Nat} {v : Value} {ts : List (Int × Int)} (h : OwnT b1 V v ts) : ∃ a m c, v = .slice a m c := by
  obtain ⟨a, b, c, e, _⟩ := h.form
  exact ⟨a, _, c, e⟩
theorem allL_mem {l : List Ls} {L : Ls} (h : L ∈ l) : L.ts.length ≤ (allL l).length := by
  unfold allL
  exact (List.sublist_flatten_of_mem (List.mem_map.2 ⟨L, h, rfl⟩)).length_le
theorem allL_eq {R X : List Ls} (h : R.map Ls.ts = X.map Ls.ts) : allL R = allL X := by unfold allL; rw [h]
theorem flat_sort : ∀ l : List (List (Int × Int)), (l.map sortR).flatten.length = l.flatten.length
  | [] => rfl
  | t :: l => by
    rw [List.map_cons, List.flatten_cons, List.flatten_cons, List.length_append, List.length_append, flat_sort l, sortR_len]
end Go.Proofs.Ytnmaldgmlkcliaa
