/- The document's heap: Peek, Push, Pop. -/
import Derived.Test.YtjbglpeikhpieaaTH
import Derived.Test.YtjbglpeikhpieaaHGT
namespace Go.Proofs.Ytjbglpeikhpieaa
open Go.RowKit Go.Maps Go.Sort

section
variable {w : World} {rb : Nat} {v : Value} {L : List (Int × Int)}
theorem rpeek_none (h : RHp w rb v []) : Calls Try.prog 68 #[.pointer (some ⟨rb, 0, none⟩)] w fun e w' => e = .returned (.tuple #[.agg #[.int .i64 0, .int .i64 0], .bool false]) ∧ Stay w w' := by
  have hf := first_none (h.stay (Stay.new w (.cells #[.int .i64 0, .int .i64 0] 33)))
  go_enter Try.func68, Try.ntmps68
  go_wp2_with fail
  refine hf.mono ?_
  rintro e w9 ⟨rfl, hw⟩
  have hw' := hw.symm; subst hw'
  go_wp2
  exact bodyPost_ret (v := .tuple #[.agg #[.int .i64 0, .int .i64 0], .bool false]) (by simp [results, Try.results68, go_sem]) rfl ⟨rfl, Stay.new _ _⟩

theorem cellB {w : World} {B : Nat} {x1 x2 : Int} {t : TypeId} (h : w.heap[B]? = some (.cells #[.int .i64 x1, .int .i64 x2] t (0, 0))) : w.cell? ⟨B, 0, none⟩ = some (.int .i64 x1) ∧ w.cell? ⟨B, 1, none⟩ = some (.int .i64 x2) ∧ (∀ k, w.frozen? ⟨B, k, none⟩ = false) ∧ B < w.heap.size :=
  ⟨by simp [World.cell?, h], by simp [World.cell?, h], fun k => by simp [World.frozen?, h], (Array.getElem?_eq_some_iff.1 h).1⟩
theorem stayB {w W : World} {B : Nat} (hs : Stay w W) (hB : w.heap.size ≤ B) (x y : Value) : Stay w ((W.setCell ⟨B, 0, none⟩ x).setCell ⟨B, 1, none⟩ y) :=
  Turn.stay ((Turn.set (S := fun k => k = B) (Turn.refl _ W) rfl 0 _).set rfl 1 _) hs (fun k hk e => by omega)

set_option maxRecDepth 100000 in
theorem rpeek_some (h : RHp w rb v L) (hl : 0 < L.length) (hl2 : L.length ≤ 1152921504606846976) : Calls Try.prog 68 #[.pointer (some ⟨rb, 0, none⟩)] w fun e w' => ∃ b, ∃ hb : b < L.length, Best L L.length b ∧ e = .returned (.tuple #[.agg #[.int .i64 L[b].1, .int .i64 L[b].2], .bool true]) ∧ Stay w w' := by
  have hf := first_some (h.stay (Stay.new w (.cells #[.int .i64 0, .int .i64 0] 33))) hl hl2
  obtain ⟨a, b0, c, rfl, hT, _, _, _⟩ := h.row.form
  obtain rfl := hT.1 hl
  have HH : Hid (RHp w rb (.slice (some ⟨b0, 0, none⟩) L.length c) L ∧ ThS w (some ⟨b0, 0, none⟩) b0 0 L) := ⟨h, hT⟩
  clear h hT
  go_enter Try.func68, Try.ntmps68
  go_wp2_with fail
  refine hf.mono ?_
  rintro e w1 ⟨b, rfl, hB, hst⟩
  have hBk : w1.heap[w.heap.size]? = some (.cells #[.int .i64 0, .int .i64 0] 33 (0, 0)) := (hst.block w.heap.size (by simp)).trans (heap_alloc_new _ _)
  obtain ⟨B, hBe⟩ : ∃ B, B = w.heap.size := ⟨_, rfl⟩
  rw [← hBe] at hBk ⊢
  obtain ⟨q0, q1, qf, ql⟩ := cellB hBk
  have hs1 : Stay w w1 := (Stay.new _ _).trans hst
  have c0 := (HH.out.1.stay hs1).c0
  have hc := (HH.out.2.stay hs1).2 b hB.2.1
  rw [Nat.zero_add] at hc
  obtain ⟨hc1, hc2⟩ := hc
  have HB : Hid (Best L L.length b ∧ Stay w w1 ∧ w.heap.size ≤ B) := ⟨hB, hs1, by omega⟩
  have lb : (b : Int) < (L.length : Int) := by have := hB.2.1; omega
  have nb : ¬ (b : Int) < 0 := by omega
  obtain ⟨x1, hx1⟩ : ∃ x1, x1 = (L[b]'hB.2.1).1 := ⟨_, rfl⟩
  obtain ⟨x2, hx2⟩ : ∃ x2, x2 = (L[b]'hB.2.1).2 := ⟨_, rfl⟩
  rw [← hx1] at hc1
  rw [← hx2] at hc2
  have HX : Hid (x1 = (L[b]'HB.out.1.2.1).1 ∧ x2 = (L[b]'HB.out.1.2.1).2) := ⟨hx1, hx2⟩
  clear hst hBk hs1 hB hx1 hx2 hBe hf
  go_wp2
  refine bodyPost_ret (v := .tuple #[.agg #[.int .i64 x1, .int .i64 x2], .bool true]) (by simp [results, Try.results68, go_sem, q0, q1]) rfl ⟨b, HB.out.1.2.1, HB.out.1, by rw [← HX.out.1, ← HX.out.2], stayB HB.out.2.1 HB.out.2.2 _ _⟩

/-- Behind the append: one more. -/
theorem rapp (h : RHp w rb v L) (x1 x2 : Int) {W v' w2} (hs : Stay w W) (hown : World.ownsRow w2 0 33 2 v' (L.length + 1) (cellsT L ++ [.int .i64 x1, .int .i64 x2])) (hgrow : W.grownBy w2 v.ownBlock) (hloc : v'.ownBlock = v.ownBlock ∨ v'.ownBlock = some W.heap.size) :
    ∃ g cap, v' = .slice (some ⟨g, 0, none⟩) (L.length + 1) cap ∧ w2.cell? ⟨rb, 0, none⟩ = some v ∧ w2.frozen? ⟨rb, 0, none⟩ = false ∧ RHp (w2.setCell ⟨rb, 0, none⟩ (.slice (some ⟨g, 0, none⟩) (L.length + 1) cap)) rb (.slice (some ⟨g, 0, none⟩) (L.length + 1) cap) (L ++ [(x1, x2)]) ∧
      Turn (rfoot rb v) w (w2.setCell ⟨rb, 0, none⟩ (.slice (some ⟨g, 0, none⟩) (L.length + 1) cap)) ∧ (v.ownBlock = some g ∨ w.heap.size ≤ g) := by
  have ho : OwnT 0 w2 v' (L ++ [(x1, x2)]) := by
    unfold OwnT
    rw [List.length_append, cellsT_append]
    exact hown
  have hne : v' ≠ .slice none 0 0 := fun e => by
    rcases ho.2 with ⟨_, h⟩ | ⟨b, c, cur, hv, _⟩
    · simp at h
    · rw [e] at hv; simp at hv
  obtain ⟨g, cap, hv, hR, _⟩ := ho.row hne
  rw [List.length_append] at hv
  subst hv
  have hT1 : Turn (rfoot rb v) w W := Turn.of_stay hs
  have hT2 : Turn (rfoot rb v) w w2 := ⟨hgrow.os.trans hT1.os, hgrow.tape.trans hT1.tape, hgrow.output.trans hT1.output, Nat.le_trans hT1.size hgrow.size, fun k hk hn =>
    (hgrow.block k (Nat.lt_of_lt_of_le hk hT1.size) (fun e => hn (.inr e.symm))).trans (hT1.block k hk hn)⟩
  have hblt := h.lt rb (.inl rfl)
  have hsz := hs.size
  have hbox := ((hgrow.block rb (by omega) (fun e => h.two e.symm)).trans (hs.block rb hblt)).trans h.box
  have hg : v.ownBlock = some g ∨ w.heap.size ≤ g := by
    rcases hloc with h1 | h1
    · exact .inl h1.symm
    · right; simp only [Value.ownBlock, Option.some.injEq] at h1; omega
  have hgb : g ≠ rb := by
    rintro rfl
    rcases hg with h1 | h1
    · exact h.two h1
    · omega
  have hR2 : RowT (w2.setCell ⟨rb, 0, none⟩ (.slice (some ⟨g, 0, none⟩) (L.length + 1) cap)) g cap (L ++ [(x1, x2)]) := hR.block (Below.heap_setCell _ _ _ _ (by show g ≠ rb; exact hgb))
  have ho2 := hR2.own (base := 0) (Nat.zero_le _)
  rw [List.length_append] at ho2
  refine ⟨g, cap, rfl, by simp [World.cell?, hbox], by simp [World.frozen?, hbox], ⟨?_, ho2, by simp [Value.ownBlock, hgb]⟩, hT2.set (.inl rfl) _ _, hg⟩
  rw [heap_setCell_same _ _ _ _ _ _ hbox]
  simp

set_option maxRecDepth 100000 in
set_option maxHeartbeats 4000000 in
theorem rpush_any (h : RHp w rb v L) (x1 x2 : Int) (hsz : (L.length + 1) * 16 ≤ 140737488355328) :
    Calls Try.prog 69 #[.pointer (some ⟨rb, 0, none⟩), .agg #[.int .i64 x1, .int .i64 x2]] w fun e w' => e = .returned (.tuple #[]) ∧ ∃ v', RHp w' rb v' (L ++ [(x1, x2)]) ∧ Turn (rfoot rb v) w w' ∧ (∀ k, rfoot rb v' k → rfoot rb v k ∨ w.heap.size ≤ k) := by
  obtain ⟨i0, hi, hz0, hz1, hz2⟩ := info_parts infoTh
  obtain ⟨va, vb, vc, rfl, _, _, _, _⟩ := h.row.form
  have h63 : L.length + 1 ≤ maxLen := by unfold maxLen; omega
  have HW0' : Hid (Stay w (w.alloc (.cells #[.int .i64 x1, .int .i64 x2] 33)) ∧ RHp (w.alloc (.cells #[.int .i64 x1, .int .i64 x2] 33)) rb (.slice va L.length vc) L ∧ RHp w rb (.slice va L.length vc) L) := ⟨Stay.new _ _, h.stay (Stay.new _ _), h⟩
  have b0 : (w.alloc (.cells #[.int .i64 x1, .int .i64 x2] 33)).cell? ⟨w.heap.size, 0, none⟩ = some (.int .i64 x1) := by simp
  have b1 : (w.alloc (.cells #[.int .i64 x1, .int .i64 x2] 33)).cell? ⟨w.heap.size, 1, none⟩ = some (.int .i64 x2) := by simp
  clear h
  go_enter Try.func69, Try.ntmps69
  go_wp2_with fail
  generalize w.alloc (.cells #[.int .i64 x1, .int .i64 x2] 33) = W0 at HW0' b0 b1 ⊢
  have HW0 : Hid (Stay w W0 ∧ RHp W0 rb (.slice va L.length vc) L) := ⟨HW0'.out.1, HW0'.out.2.1⟩
  have k1 := HW0'.out.2.1.c0
  have hbl := HW0'.out.2.1.lt rb (.inl rfl)
  clear HW0'
  go_region_law (refine HT.step_append_own rfl (.tmp 8) (.tmp 10) 29 rfl 0 33 i0 _ 2 16 Try.underlying29 hi hz0 hz1 hz2 rfl (by decide) (.slice va L.length vc) L.length (cellsT L) (by simp [Act.eval]) (by first | exact (HW0.out.2.row.stay ((Stay.new _ _).trans (Stay.drew _))) | exact (HW0.out.2.row.stay ((Stay.drew _).alloc _))) ⟨W0.heap.size, 0, none⟩ 1 1 [.int .i64 x1, .int .i64 x2] (by simp [Act.eval]) rfl (by exact new_cells W0 [.int .i64 x1, .int .i64 x2] 33) (by simp [Value.oneCell']) h63 hsz (Nat.zero_le _) ?_; intro v' w2 hown2 hgrow hnil hloc; obtain ⟨g, cap, rfl, d1, f1, hH3, hT3, hg3⟩ := rapp HW0.out.2 x1 x2 (by first | exact (Stay.new _ _).trans (Stay.drew _) | exact (Stay.drew _).alloc _) hown2 hgrow hloc; have H3 : Hid _ := And.intro hH3 (And.intro hT3 hg3); clear hown2 hgrow hnil hloc hH3 hT3 hg3)
  all_goals
    go_wp2
    go_end0
    refine ⟨rfl, _, H3.out.1, Turn.then (Turn.of_stay HW0.out.1) H3.out.2.1 (fun k _ hk => hk), ?_⟩
    rintro k (rfl | hk)
    · exact .inl (.inl rfl)
    · simp only [Value.ownBlock, Option.some.injEq] at hk
      subst hk
      rcases H3.out.2.2 with h1 | h1
      · exact .inl (.inr h1)
      · exact .inr (Nat.le_trans HW0.out.1.size h1)
end
end Go.Proofs.Ytjbglpeikhpieaa
