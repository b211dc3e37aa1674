/- OrderAgrees, plainly: what comes out of a heap one by one is the sorted list; what lies in memory between two steps. No walk here. -/
import Derived.Test.YtnmaldgmlkcliaaOMI
import Derived.Test.YtnmaldgmlkcliaaHGT
namespace Go.Proofs.Ytnmaldgmlkcliaa
open Go.RowKit Go.Maps Go.Sort

/-- T is what is in, each ahead of those behind it; L are its things; all came by turns below n. -/
structure Srt (T came : List HT.E) (n : Nat) (L : List (Int × Int)) : Prop where
  perm : T.Perm came
  pw : T.Pairwise fun a b => HT.ahd HT.byC a b = true
  things : T.map (fun e => e.1) = L
  turns : ∀ e ∈ T, e.2 < n
theorem Srt.nil : Srt [] [] 0 [] := ⟨List.Perm.refl _, List.Pairwise.nil, rfl, fun e h => by simp at h⟩
theorem Srt.push {T came came' : List HT.E} {n : Nat} {l : List (Int × Int)} (h : Srt T came n (sortR l)) (x : Int × Int) (hp : came'.Perm (came ++ [(x, n)])) : ∃ T', Srt T' came' (n + 1) (sortR (l ++ [x])) := by
  obtain ⟨k, hk, h1, h2⟩ := insR_place (sortR_rises l) x
  have hTl : T.length = (sortR l).length := by rw [← h.things, List.length_map]
  have hat : ∀ (j : Nat) (hj : j < T.length), ((sortR l)[j]'(by omega)) = T[j].1 := fun j hj => by
    have := h.things
    have e : (T.map fun e => e.1)[j]? = (sortR l)[j]? := by rw [this]
    rw [List.getElem?_map, List.getElem?_eq_getElem hj, List.getElem?_eq_getElem (by omega)] at e
    simpa using e.symm
  refine ⟨T.take k ++ (x, n) :: T.drop k, ?_, ?_, ?_, fun e he => ?_⟩
  · refine List.Perm.trans ?_ ((h.perm.append_right [(x, n)]).trans hp.symm)
    have e : T ++ [(x, n)] = T.take k ++ (T.drop k ++ [(x, n)]) := by rw [← List.append_assoc, List.take_append_drop]
    rw [e]
    exact List.Perm.append_left _ (List.perm_append_comm (l₁ := [(x, n)]) (l₂ := T.drop k))
  · refine List.pairwise_append.2 ⟨h.pw.sublist (List.take_sublist _ _), List.pairwise_cons.2 ⟨fun b hb => ?_, h.pw.sublist (List.drop_sublist _ _)⟩, fun a ha b hb => ?_⟩
    · obtain ⟨j, hj, rfl⟩ := List.mem_iff_getElem.1 hb
      rw [List.length_drop] at hj
      rw [List.getElem_drop, HT.ahd_by, decide_eq_true_eq]
      have := h2 (k + j) (by omega) (by omega)
      rw [hat (k + j) (by omega)] at this
      exact .inl this
    · obtain ⟨j, hj, rfl⟩ := List.mem_iff_getElem.1 ha
      rw [List.length_take] at hj
      rw [List.getElem_take]
      have h3 := h1 j (by omega) (by omega)
      rw [hat j (by omega)] at h3
      rcases List.mem_cons.1 hb with rfl | hb
      · rw [HT.ahd_by, decide_eq_true_eq]
        have := h.turns T[j] (List.getElem_mem _)
        show T[j].1.1 < x.1 ∨ T[j].1.1 = x.1 ∧ T[j].2 < n
        omega
      · obtain ⟨i, hi, rfl⟩ := List.mem_iff_getElem.1 hb
        rw [List.length_drop] at hi
        rw [List.getElem_drop]
        exact List.pairwise_iff_getElem.1 h.pw j (k + i) (by omega) (by omega) (by omega)
  · rw [sortR_snoc, insR_at hk h1 h2, List.map_append, List.map_cons, List.map_take, List.map_drop, h.things]
  · rcases List.mem_append.1 he with he | he
    · have := h.turns e (List.mem_of_mem_take he); omega
    · rcases List.mem_cons.1 he with rfl | he
      · exact Nat.lt_succ_self n
      · have := h.turns e (List.mem_of_mem_drop he); omega
/-- The first goes out. -/
theorem Srt.pop {T came came' : List HT.E} {n : Nat} {L : List (Int × Int)} {e : HT.E} (h : Srt T came n L) (hp : (e :: came').Perm came) (hl : ∀ c ∈ came, HT.ahd HT.byC c e = false) : ∃ T' L', L = e.1 :: L' ∧ Srt T' came' n L' := by
  cases T with
  | nil =>
    have := h.perm.length_eq.trans hp.length_eq.symm
    simp at this
  | cons t T' =>
    have hte : t = e := by
      have hmem : e ∈ t :: T' := h.perm.mem_iff.2 (hp.mem_iff.1 List.mem_cons_self)
      rcases List.mem_cons.1 hmem with e1 | e1
      · exact e1.symm
      · have h1 := (List.pairwise_cons.1 h.pw).1 e e1
        rw [hl t (h.perm.mem_iff.1 List.mem_cons_self)] at h1
        cases h1
    subst hte
    refine ⟨T', T'.map (fun e => e.1), ?_, ⟨(h.perm.trans hp.symm).cons_inv, (List.pairwise_cons.1 h.pw).2, rfl, fun e he => h.turns e (List.mem_cons_of_mem _ he)⟩⟩
    rw [← h.things]; rfl
abbrev byV : Value := .func (.func 9) #[] #[]
theorem fvT : HT.Fv byV HT.byC := .inl ⟨rfl, rfl⟩
/-- Between two rounds of the first loop: the heap of things, and the lists of one thing each. -/
structure Ag (B wr : World) (hb : Nat) (v : Value) (turns : Nat) (came : List HT.E) (v5 : Value) (X : List Ls) : Prop where
  stay : Stay B wr
  hp : HT.Hp wr hb byV v turns came
  heap : IsHeap (HT.ahd HT.byC) came
  far : ∀ k, HT.foot hb v k → B.heap.size ≤ k
  row : wr.ownsRow B.heap.size 23 1 v5 X.length (X.map Ls.val)
  off : ∀ k, v5.ownBlock = some k → ¬ HT.foot hb v k
  each : ∀ L ∈ X, L.In wr ∧ L.c = 1 ∧ L.ts.length = 1 ∧ ¬ HT.foot hb v L.b ∧ v5.ownBlock ≠ some L.b
section
variable {B wr V : World} {hb turns : Nat} {v v5 : Value} {came : List HT.E} {X : List Ls}
theorem Ag.first (B : World) : Ag B (B.alloc (.cells #[byV, .slice none 0 0, .int .i64 0] 67)) B.heap.size (.slice none 0 0) 0 [] (.slice none 0 0) [] := by
  have hH : HT.Held HT.byC B _ _ byV _ _ _ := HT.held_new byV B
  exact ⟨hH.stay, hH.hp, hH.heap, hH.far, World.ownsRow_nil _ _ _ _, fun k hk => by simp [Value.ownBlock] at hk, fun L h => by simp at h⟩
theorem Ag.go (h : Ag B wr hb v turns came v5 X) (hs : Stay wr V) : Ag B V hb v turns came v5 X :=
  ⟨h.stay.trans hs, h.hp.stay hs, h.heap, h.far, (Turn.of_stay (S := fun _ => False) hs).row h.row (fun _ _ h => h), h.off, fun L hL => ⟨(h.each L hL).1.stay hs, (h.each L hL).2⟩⟩
theorem Ag.push (h : Ag B wr hb v turns came v5 X) (x1 x2 : Int) (hsz : (came.length + 1) * 24 ≤ 140737488355328) (htn : turns ≤ 140737488355328) :
    Calls Try.prog 17 #[.pointer (some ⟨hb, 0, none⟩), .agg #[.int .i64 x1, .int .i64 x2]] wr fun e w' => e = .returned (.tuple #[]) ∧ ∃ v' came', came'.Perm (came ++ [((x1, x2), turns)]) ∧ Ag B w' hb v' (turns + 1) came' v5 X := by
  refine (HT.push_any fvT h.hp h.heap (x1, x2) hsz htn).mono fun e w' ⟨he, v', came', h1, h2, h3, hT, hF⟩ => ⟨he, v', came', h1, ⟨hT.stay h.stay (fun k hk hf => by have := h.far k hf; omega), h3, h2, fun k hk => ?_, hT.row h.row h.off, fun k hk hf => ?_, fun L hL => ?_⟩⟩
  · rcases hF k hk with e | e
    · exact h.far k e
    · exact Nat.le_trans h.stay.size e
  · rcases hF k hf with e | e
    · exact h.off k hk e
    · have := (World.ownsRow.lt h.row k hk).2; omega
  · obtain ⟨a1, a2, a3, a4, a5⟩ := h.each L hL
    refine ⟨a1.turn hT (fun _ => a4), a2, a3, fun hf => ?_, a5⟩
    rcases hF _ hf with e | e
    · exact a4 e
    · have := a1.lt (by omega); omega
theorem Ag.add (h : Ag B wr hb v turns came v5 X) (x1 x2 : Int) (hb2 : (X.length + 1) * 24 ≤ 140737488355328) :
    ∃ v' V', (Builtin.append_ #[22, 22] 22 #[v5, .slice (some ⟨wr.heap.size + 1, 0, none⟩) 1 1]).run Try.prog ((wr.alloc (.cells #[.int .i64 x1, .int .i64 x2] 26)).alloc (.cells #[.slice (some ⟨wr.heap.size, 0, none⟩) 1 1] 23)) = .ok v' V' ∧ ∃ L : Ls, L.ts = [(x1, x2)] ∧ Ag B V' hb v turns came v' (X ++ [L]) := by
  have hz := h.stay.size
  have g := h.go (Stay.new wr (.cells #[.int .i64 x1, .int .i64 x2] 26))
  have hr5 := g.row
  rw [← List.length_map (f := Ls.val)] at hr5
  have hcell := new_cells wr [.int .i64 x1, .int .i64 x2] 26
  have hin : Ls.In (wr.alloc (.cells #[.int .i64 x1, .int .i64 x2] 26)) ⟨some ⟨wr.heap.size, 0, none⟩, wr.heap.size, 0, 1, [(x1, x2)]⟩ := by
    refine ⟨⟨fun _ => rfl, fun j hj => ?_⟩, fun e => by cases e⟩
    have hj0 : j = 0 := by simpa using hj
    subst hj0
    have c0 := hcell 0 _ rfl
    have c1 := hcell 1 _ rfl
    rw [add_at] at c0 c1
    exact ⟨c0, c1⟩
  obtain ⟨v', V', hr, h2, h3, h4⟩ := rowL_push hr5 (.slice (some ⟨wr.heap.size, 0, none⟩) 1 1) rfl (by rw [List.length_map]; exact hb2) (by rw [World.size_alloc]; omega)
  rw [List.length_map] at h2
  rw [World.size_alloc] at hr h4
  have l5 := fun k e => World.ownsRow.lt h.row k e
  have hno : ∀ b, v5.ownBlock ≠ some b → b < wr.heap.size + 1 → v'.ownBlock ≠ some b := fun b hb hlt e => by
    rcases h4 b e with e | e
    · exact hb e
    · omega
  refine ⟨v', V', hr, ⟨some ⟨wr.heap.size, 0, none⟩, wr.heap.size, 0, 1, [(x1, x2)]⟩, rfl, ⟨h3.stay g.stay (fun k hk e => by have := (l5 k e).1; omega), g.hp.turn h3 (fun k hk e => h.off k e hk), h.heap, h.far, by rw [List.length_append, List.map_append]; exact h2, fun k hk hf => ?_, fun L hL => ?_⟩⟩
  · rcases h4 k hk with e | e
    · exact h.off k e hf
    · have := h.hp.lt k hf; omega
  · rcases List.mem_append.1 hL with hL | hL
    · obtain ⟨a1, a2, a3, a4, a5⟩ := g.each L hL
      have hlt := (h.each L hL).1.lt (by omega)
      exact ⟨a1.turn h3 (fun _ => a5), a2, a3, a4, hno _ a5 (by omega)⟩
    · rw [List.mem_singleton] at hL
      subst hL
      have hne : v5.ownBlock ≠ some wr.heap.size := fun e => by have := (l5 _ e).2; omega
      exact ⟨hin.turn h3 (fun _ => hne), rfl, rfl, fun hf => by have := h.hp.lt _ hf; exact absurd this (Nat.lt_irrefl _), hno _ hne (Nat.lt_succ_self _)⟩
/-- What a Pop leaves: the heap alone. -/
structure Ah (B wr : World) (hb : Nat) (v : Value) (turns : Nat) (came : List HT.E) : Prop where
  stay : Stay B wr
  hp : HT.Hp wr hb byV v turns came
  heap : IsHeap (HT.ahd HT.byC) came
  far : ∀ k, HT.foot hb v k → B.heap.size ≤ k
theorem Ag.heapOf (h : Ag B wr hb v turns came v5 X) : Ah B wr hb v turns came := ⟨h.stay, h.hp, h.heap, h.far⟩
theorem Ah.go (h : Ah B wr hb v turns came) (hs : Stay wr V) : Ah B V hb v turns came := ⟨h.stay.trans hs, h.hp.stay hs, h.heap, h.far⟩
/-- Peek and Pop of what is not empty. -/
theorem Ah.out (h : Ah B wr hb v turns came) {T : List HT.E} {n : Nat} {x : Int × Int} {L : List (Int × Int)} (hs : Srt T came n (x :: L)) (hsz : came.length ≤ 1152921504606846976) :
    (Calls Try.prog 19 #[.pointer (some ⟨hb, 0, none⟩)] wr fun e' w' => e' = .returned (.tuple #[.agg #[.int .i64 x.1, .int .i64 x.2], .bool true]) ∧ Stay wr w') ∧
    ∀ V, Stay wr V → Calls Try.prog 20 #[.pointer (some ⟨hb, 0, none⟩)] V fun e' w' => e' = .returned (.tuple #[.agg #[.int .i64 x.1, .int .i64 x.2], .bool true]) ∧ ∃ v' came' T', Ah B w' hb v' turns came' ∧ Srt T' came' n L ∧ came'.length + 1 = came.length ∧ Turn (HT.foot hb v) V w' := by
  have hne : came ≠ [] := fun e => by
    have h1 := hs.perm.length_eq
    rw [e] at h1
    have hT : T = [] := List.eq_nil_of_length_eq_zero h1
    have h2 := hs.things
    rw [hT] at h2
    simp at h2
  obtain ⟨e, he⟩ : ∃ e, came[0]? = some e := ⟨_, List.getElem?_eq_getElem (List.length_pos_iff.2 hne)⟩
  have hleast := heap_least (HT.ahd_ok fvT) h.heap he
  have hl : ∀ c ∈ came, HT.ahd HT.byC c e = false := fun c hc => by
    obtain ⟨k, hk, rfl⟩ := List.mem_iff_getElem.1 hc
    exact hleast k _ (List.getElem?_eq_getElem hk)
  have hx : e.1 = x := by
    have hmem : e ∈ came := List.mem_of_getElem? he
    obtain ⟨T', L', e1, _⟩ := hs.pop (came' := came.erase e) (e := e) (List.perm_cons_erase hmem).symm hl
    simp only [List.cons.injEq] at e1
    exact e1.1.symm
  refine ⟨?_, fun V hV => ?_⟩
  · rw [← hx]; exact HT.peek_some h.hp e he
  · refine (HT.pop_some fvT (h.hp.stay hV) h.heap e he hsz).mono fun e' w' ⟨h1, v', came', hp, hh, hH, hT, hF⟩ => ?_
    obtain ⟨T', L', e1, h9⟩ := hs.pop hp hl
    simp only [List.cons.injEq] at e1
    obtain ⟨_, rfl⟩ := e1
    refine ⟨by rw [← hx]; exact h1, v', came', T', ⟨hT.stay (h.stay.trans hV) (fun k hk hf => by have := h.far k hf; omega), hH, hh, fun k hk => h.far k (hF k hk)⟩, h9, by simpa using hp.length_eq, hT⟩
end
theorem flat_ones : ∀ l : List (Int × Int), (l.map fun x => [x]).flatten = l
  | [] => rfl
  | x :: l => by rw [List.map_cons, List.flatten_cons, flat_ones l]; rfl
theorem allL_ones {X : List Ls} {l : List (Int × Int)} (h : X.map Ls.ts = l.map fun x => [x]) : allL X = l := by
  unfold allL
  rw [h, flat_ones]
end Go.Proofs.Ytnmaldgmlkcliaa
