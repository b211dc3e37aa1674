/- Heaps: Push, Pop. -/
import Derived.Test.YtnmaldgmlkcliaaHDI
import Derived.Deep.RegionLaw
namespace Go.Proofs.Ytnmaldgmlkcliaa.HI
open Go.RowKit Go.Maps Go.Shelf Go.Sort Go.Proofs.Ytnmaldgmlkcliaa

theorem infoEnt : (Try.prog.info? 82).map (fun i => (i.zero, i.size, i.bytes)) = some (some (.agg #[.int .i64 0, .int .i64 0]), 2, 16) := by kernel_rfl

/-- An append to a list of one's own, as one step of a region that draws its order. -/
theorem step_append_own {P : Program} {ops : Array Oper} {o : Oper} {a : Act} {w : World} {K : Act → World → Prop} {Q : Exit → Act → World → Prop} {X : Prop}
    (hg : o.guard = none) (s x : Operand) (t : TypeId) (hop : o.op = Op.call { callee := Callee.builtin Builtin.append, args := #[s, x], argTypes := #[t, t] }) (base : Nat)
    (e : TypeId) (i : TypeInfo) (z : Value) (size bytes : Nat) (h1 : P.underlying t = some (.slice e)) (h2 : P.info? e = some i) (h3 : i.zero = some z) (h4 : i.size = size) (h5 : i.bytes = bytes) (h6 : z.cells.size = size) (h7 : 0 < size)
    (v : Value) (n : Nat) (xs : List Value) (hs : a.eval s = v) (hown : w.ownsRow base e size v n xs)
    (ad : Addr) (m c : Nat) (news : List Value) (hx : a.eval x = .slice (some ad) m c) (hn : news.length = m * size) (hc : ∀ j u, news[j]? = some u → w.cell? (ad.add j) = some u) (h1c : ∀ u ∈ news, u.oneCell' = true)
    (b1 : n + m ≤ maxLen) (b2 : (n + m) * bytes ≤ 140737488355328) (hbase : base ≤ w.heap.size)
    (hK : ∀ v' w', w'.ownsRow base e size v' (n + m) (xs ++ news) → w.grownBy w' v.ownBlock → (v' = .slice none 0 0 ↔ v = .slice none 0 0 ∧ m = 0) → (v'.ownBlock = v.ownBlock ∨ v'.ownBlock = some w.heap.size) → K (a.put o.dst v') w') :
    if Region.wanted o (yielded ops a.tmps) = true then Oper.wp P o a w K Q else X := by
  have hw : Region.wanted o (yielded ops a.tmps) = true := by simp [Region.wanted, hg]
  rw [if_pos hw]
  obtain ⟨v', w', hrun, r1, r2, r3, r4⟩ := run_append_own_at (P := P) w base t o.type e i z size bytes h1 h2 h3 h4 h5 h6 h7 v n xs hown ad m c news hn hc h1c b1 b2 hbase
  unfold Oper.wp
  simp [execOp, hop, resolve, invoke, builtin, hs, hx, hrun, Result.andThen]
  exact hK v' w' r1 r2 r3 r4

section
variable {w : World} {hb g cap turns : Nat} {came : List E} {fv v : Value} {cf : (Int) → (Int) → Int}

/-- Behind the append: the heap with one more at its end. -/
theorem app_hp (h : Hp w hb fv v turns came) (e0 : E) {W v' w2} (hs : Stay w W) (hown : World.ownsRow w2 0 82 2 v' (came.length + 1) (flat came ++ encE e0)) (hgrow : W.grownBy w2 v.ownBlock)
    (hnil : v' = .slice none 0 0 ↔ v = .slice none 0 0 ∧ 1 = 0) (hloc : v'.ownBlock = v.ownBlock ∨ v'.ownBlock = some W.heap.size) :
    ∃ g cap, v' = .slice (some ⟨g, 0, none⟩) (came.length + 1) cap ∧ w2.cell? ⟨hb, 1, none⟩ = some v ∧ w2.frozen? ⟨hb, 1, none⟩ = false ∧ Hp (w2.setCell ⟨hb, 1, none⟩ (.slice (some ⟨g, 0, none⟩) (came.length + 1) cap)) hb fv (.slice (some ⟨g, 0, none⟩) (came.length + 1) cap) turns (came ++ [e0]) ∧
      Came (w2.setCell ⟨hb, 1, none⟩ (.slice (some ⟨g, 0, none⟩) (came.length + 1) cap)) g cap (came ++ [e0]) ∧ Turn (foot hb v) w (w2.setCell ⟨hb, 1, none⟩ (.slice (some ⟨g, 0, none⟩) (came.length + 1) cap)) ∧ (v.ownBlock = some g ∨ w.heap.size ≤ g) := by
  have hfl : flat came ++ encE e0 = flat (came ++ [e0]) := by rw [flat_append]; simp [flat]
  rw [hfl, show came.length + 1 = (came ++ [e0]).length by simp] at hown
  obtain ⟨g, cap, rfl, hC⟩ := Row.of_owns hown (fun e => by have := (hnil.1 e).2; omega)
  have hT1 : Turn (foot hb v) w W := Turn.of_stay hs
  have hT2 : Turn (foot hb v) w w2 := ⟨hgrow.os.trans hT1.os, hgrow.tape.trans hT1.tape, hgrow.output.trans hT1.output, Nat.le_trans hT1.size hgrow.size, fun k hk hn =>
    (hgrow.block k (Nat.lt_of_lt_of_le hk hT1.size) (fun e => hn (.inr e.symm))).trans (hT1.block k hk hn)⟩
  have hblt := h.lt hb (.inl rfl)
  have hsz := hs.size
  have hbb : w2.heap[hb]? = w.heap[hb]? := (hgrow.block hb (by omega) (fun e => h.two e.symm)).trans (hs.block hb hblt)
  have hbox := hbb.trans h.box
  have hg : v.ownBlock = some g ∨ w.heap.size ≤ g := by
    rcases hloc with h1 | h1
    · exact .inl h1.symm
    · right; simp only [Value.ownBlock, Option.some.injEq] at h1; omega
  have hgb : g ≠ hb := by
    rintro rfl
    rcases hg with h1 | h1
    · exact h.two h1
    · omega
  have hC2 := hC.storeOther hb 1 (.slice (some ⟨g, 0, none⟩) (came.length + 1) cap) hgb
  refine ⟨g, cap, by simp, by simp [World.cell?, hbox], by simp [World.frozen?, hbox], ⟨?_, .inr ⟨g, cap, by simp, hC2⟩, by simp [Value.ownBlock, hgb]⟩, hC2, hT2.set (.inl rfl) _ _, hg⟩
  rw [heap_setCell_same _ _ _ _ _ _ hbox]
  simp

theorem Hp.count (h : Hp w hb fv v turns came) : Hp (w.setCell ⟨hb, 2, none⟩ (.int .i64 ((turns : Int) + 1))) hb fv v (turns + 1) came := by
  refine ⟨?_, ?_, h.two⟩
  · rw [heap_setCell_same _ _ _ _ _ _ h.box]; simp
  · rcases h.row with h1 | ⟨g, cap, hv, hC⟩
    · exact .inl h1
    · refine .inr ⟨g, cap, hv, hC.storeOther hb 2 _ ?_⟩
      have := h.two
      rw [hv] at this
      simpa [Value.ownBlock] using this

set_option maxRecDepth 100000 in
set_option maxHeartbeats 4000000 in
theorem push_any (hf : Fv fv cf) (h : Hp w hb fv v turns came) (hh : IsHeap (ahd cf) came) (x : Int) (hsz : (came.length + 1) * 16 ≤ 140737488355328) (htn : turns ≤ 140737488355328) :
    Calls Try.prog 31 #[.pointer (some ⟨hb, 0, none⟩), .int .i64 x] w fun e w' => e = .returned (.tuple #[]) ∧ ∃ v' came', came'.Perm (came ++ [(x, turns)]) ∧ IsHeap (ahd cf) came' ∧ Hp w' hb fv v' (turns + 1) came' ∧ Turn (foot hb v) w w' ∧ (∀ k, foot hb v' k → foot hb v k ∨ w.heap.size ≤ k) := by
  obtain ⟨i0, hi, hz0, hz1, hz2⟩ := info_parts infoEnt
  obtain ⟨va, vc, rfl⟩ := h.row.form
  have h63 : came.length + 1 ≤ maxLen := by unfold maxLen; omega
  have HF : Hid (IsHeap (ahd cf) came ∧ Fv fv cf) := ⟨hh, hf⟩
  have HW0 : Hid (Stay w w ∧ Hp w hb fv (.slice va came.length vc) turns came) := ⟨Stay.refl _, h⟩
  have k1 := h.c1
  have k2 := h.c2
  have hbl := h.lt hb (.inl rfl)
  clear h hh hf
  go_enter Try.func31, Try.ntmps31
  go_wp2_with fail
  go_region_law (refine step_append_own rfl (.tmp 10) (.tmp 17) 78 rfl 0 82 i0 _ 2 16 Try.underlying78 hi hz0 hz1 hz2 rfl (by decide) (.slice va came.length vc) came.length (flat came) (by simp [Act.eval]) (by first | exact ((HW0.out.2.row.turn (S := fun _ => False) (Turn.of_stay ((Stay.new _ _).trans (Stay.drew _))) (fun _ _ => id)).owns) | exact ((HW0.out.2.row.turn (S := fun _ => False) (Turn.of_stay ((Stay.drew _).alloc _)) (fun _ _ => id)).owns)) ⟨w.heap.size, 0, none⟩ 1 1 [.int .i64 x, .int .i64 (turns : Int)] (by simp [Act.eval]) rfl (by exact new_cells w [.int .i64 x, .int .i64 (turns : Int)] 82) (by simp [Value.oneCell']) h63 hsz (Nat.zero_le _) ?_; intro v' w2 hown2 hgrow hnil hloc; obtain ⟨g, cap, rfl, d1, f1, hH3, hC3, hT3, hg3⟩ := app_hp HW0.out.2 (x, turns) (by first | exact (Stay.new _ _).trans (Stay.drew _) | exact (Stay.drew _).alloc _) hown2 hgrow hnil hloc; have H3 : Hid _ := And.intro hH3 (And.intro hC3 (And.intro hT3 hg3)); clear hown2 hgrow hnil hloc hH3 hC3 hT3 hg3)
  all_goals
    have k3 := H3.out.1.c1
    have k4 := H3.out.1.c2
    have k5 := H3.out.1.free 2
    have hgb : g ≠ hb := by have := H3.out.1.two; simpa [Value.ownBlock] using this
    have HR : Hid (Hp ((w2.setCell ⟨hb, 1, none⟩ (.slice (some ⟨g, 0, none⟩) (came.length + 1) cap)).setCell ⟨hb, 2, none⟩ (.int .i64 ((turns : Int) + 1))) hb fv (.slice (some ⟨g, 0, none⟩) (came.length + 1) cap) (turns + 1) (came ++ [(x, turns)]) ∧ Came ((w2.setCell ⟨hb, 1, none⟩ (.slice (some ⟨g, 0, none⟩) (came.length + 1) cap)).setCell ⟨hb, 2, none⟩ (.int .i64 ((turns : Int) + 1))) g cap (came ++ [(x, turns)]) ∧ Turn (foot hb (.slice va came.length vc)) w ((w2.setCell ⟨hb, 1, none⟩ (.slice (some ⟨g, 0, none⟩) (came.length + 1) cap)).setCell ⟨hb, 2, none⟩ (.int .i64 ((turns : Int) + 1)))) :=
      ⟨H3.out.1.count, H3.out.2.1.storeOther hb 2 _ hgb, H3.out.2.2.1.set (.inl rfl) _ _⟩
    generalize w2.setCell ⟨hb, 1, none⟩ (.slice (some ⟨g, 0, none⟩) (came.length + 1) cap) = W3 at H3 HR k3 k4 k5 ⊢
    have hr := rise_any HF.out.2 (by rw [List.length_append, List.length_singleton]; exact HR.out.1) HR.out.2.1 came.length (by simp) (up_start HF.out.1)
    rw [List.length_append, List.length_singleton] at hr
    go_wp2_with fail
    refine hr.mono ?_
    rintro e9 w5 ⟨rfl, came', hp, hh, hH, hC, hT⟩
    have H5 : Hid _ := And.intro hp (And.intro hh (And.intro hH hT))
    clear hp hh hH hC hT hr
    go_wp2
    go_end0
    refine ⟨rfl, _, came', H5.out.1, H5.out.2.1, H5.out.2.2.1, ?_, ?_⟩
    · refine Turn.then (Turn.of_stay HW0.out.1) (HR.out.2.2.then H5.out.2.2.2 ?_) ?_
      · intro k hk e
        subst e
        rcases H3.out.2.2.2 with h1 | h1
        · exact .inr h1
        · omega
      · intro k _ hk
        exact hk
    · rintro k (rfl | hk)
      · exact .inl (.inl rfl)
      · simp only [Value.ownBlock, Option.some.injEq] at hk
        subst hk
        rcases H3.out.2.2.2 with h1 | h1
        · exact .inl (.inr h1)
        · exact .inr (Nat.le_trans HW0.out.1.size h1)
end
end Go.Proofs.Ytnmaldgmlkcliaa.HI
