/- The document's heap: Pop. -/
import Derived.Test.YtjbglpeikhpieaaTI
namespace Go.Proofs.Ytjbglpeikhpieaa
open Go.RowKit Go.Maps Go.Sort

section
variable {w : World} {rb : Nat} {v : Value} {L : List (Int × Int)}
theorem rpop_none (h : RHp w rb v []) : Calls Try.prog 67 #[.pointer (some ⟨rb, 0, none⟩)] w fun e w' => e = .returned (.tuple #[.agg #[.int .i64 0, .int .i64 0], .bool false]) ∧ Stay w w' := by
  have hf := first_none (h.stay (Stay.new w (.cells #[.int .i64 0, .int .i64 0] 33)))
  go_enter Try.func67, Try.ntmps67
  go_wp2_with fail
  refine hf.mono ?_
  rintro e w9 ⟨rfl, hw⟩
  have hw' := hw.symm; subst hw'
  go_wp2
  exact bodyPost_ret (v := .tuple #[.agg #[.int .i64 0, .int .i64 0], .bool false]) (by simp [results, Try.results67, go_sem]) rfl ⟨rfl, Stay.new _ _⟩

theorem erase_take_ne {α : Type} (L : List α) (k b : Nat) (h : k < L.length) (hne : k ≠ b) : (L.take (k + 1)).eraseIdx b = (L.take k).eraseIdx b ++ [L[k]] := by
  rw [List.take_succ_eq_append_getElem h]
  by_cases hb : b < k
  · rw [List.eraseIdx_append_of_lt_length (by simp; omega)]
  · rw [List.eraseIdx_append_of_length_le (by simp; omega), List.eraseIdx_of_length_le (l := L.take k) (by simp; omega), List.eraseIdx_of_length_le (l := [L[k]]) (by simp; omega)]
theorem erase_take_eq {α : Type} (L : List α) (b : Nat) (h : b < L.length) : (L.take (b + 1)).eraseIdx b = (L.take b).eraseIdx b := by
  rw [List.take_succ_eq_append_getElem h, List.eraseIdx_append_of_length_le (by simp; omega), List.eraseIdx_of_length_le (l := L.take b) (by simp; omega)]
  simp [Nat.min_eq_left (Nat.le_of_lt h)]
theorem RHp.set (h : RHp w rb v L) {v' : Value} {L' : List (Int × Int)} (hv : OwnT 0 w v' L') (hn : v'.ownBlock ≠ some rb) : RHp (w.setCell ⟨rb, 0, none⟩ v') rb v' L' := by
  refine ⟨?_, ?_, hn⟩
  · rw [heap_setCell_same _ _ _ _ _ _ h.box]; simp
  · exact hv.turn (S := fun k => k = rb) (Turn.set (S := fun k => k = rb) (Turn.refl _ _) rfl 0 _) (fun k hk e => hn (by rw [hk, e]))

set_option maxRecDepth 100000 in
set_option maxHeartbeats 4000000 in
theorem rpop_some (h : RHp w rb v L) (hl : 0 < L.length) (hl2 : L.length * 16 ≤ 140737488355328) : Calls Try.prog 67 #[.pointer (some ⟨rb, 0, none⟩)] w fun e w' => ∃ (b : Nat) (x1 x2 : Int), L[b]? = some (x1, x2) ∧ Best L L.length b ∧ e = .returned (.tuple #[.agg #[.int .i64 x1, .int .i64 x2], .bool true]) ∧
    ∃ v', RHp w' rb v' (L.eraseIdx b) ∧ Turn (rfoot rb v) w w' ∧ (∀ k, rfoot rb v' k → rfoot rb v k ∨ w.heap.size ≤ k) := by
  have hf := first_some (h.stay (Stay.new w (.cells #[.int .i64 0, .int .i64 0] 33))) hl (by omega)
  obtain ⟨a, b0, c, rfl, hT, _, _, _⟩ := h.row.form
  obtain rfl := hT.1 hl
  have hrl := h.lt rb (.inl rfl)
  have HH : Hid (RHp w rb (.slice (some ⟨b0, 0, none⟩) L.length c) L ∧ ThS w (some ⟨b0, 0, none⟩) b0 0 L) := ⟨h, hT⟩
  clear h hT
  go_enter Try.func67, Try.ntmps67
  go_wp2_with fail
  refine hf.mono ?_
  rintro e w1 ⟨b, rfl, hB, hst⟩
  have hBk : w1.heap[w.heap.size]? = some (.cells #[.int .i64 0, .int .i64 0] 33 (0, 0)) := (hst.block w.heap.size (by simp)).trans (heap_alloc_new _ _)
  have hz1 : w.heap.size + 1 ≤ w1.heap.size := by have := hst.size; simpa using this
  have hs1 : Stay w w1 := (Stay.new _ _).trans hst
  have c0 := (HH.out.1.stay hs1).c0
  have hc := (HH.out.2.stay hs1).2 b hB.2.1
  rw [Nat.zero_add] at hc
  obtain ⟨hc1, hc2⟩ := hc
  have lb : (b : Int) < (L.length : Int) := by have := hB.2.1; omega
  have nb : ¬ (b : Int) < 0 := by omega
  have hrl1 : rb < w1.heap.size := by omega
  have hb01 : b0 < w1.heap.size := World.block_lt_of_cell? w1 _ hc1
  obtain ⟨x1, hx1⟩ : ∃ x1, x1 = (L[b]'hB.2.1).1 := ⟨_, rfl⟩
  obtain ⟨x2, hx2⟩ : ∃ x2, x2 = (L[b]'hB.2.1).2 := ⟨_, rfl⟩
  rw [← hx1] at hc1
  rw [← hx2] at hc2
  obtain ⟨X1, hX1⟩ : ∃ X1, X1 = w1.alloc (.cells #[.int .i64 x1, .int .i64 x2] 33) := ⟨_, rfl⟩
  obtain ⟨B, hBe⟩ : ∃ B, B = w.heap.size := ⟨_, rfl⟩
  obtain ⟨B5, hB5⟩ : ∃ B5, B5 = w1.heap.size := ⟨_, rfl⟩
  have HB : Hid (Best L L.length b) := hB
  have HX : Hid (x1 = (L[b]'HB.out.2.1).1 ∧ x2 = (L[b]'HB.out.2.1).2) := ⟨hx1, hx2⟩
  have HS : Hid (Stay w X1 ∧ X1.heap[B]? = some (.cells #[.int .i64 0, .int .i64 0] 33 (0, 0)) ∧ X1.heap[B5]? = some (.cells #[.int .i64 x1, .int .i64 x2] 33 (0, 0)) ∧ w.heap.size ≤ B ∧ w.heap.size ≤ B5 ∧ B < X1.heap.size ∧ B5 < X1.heap.size) := by
    rw [hX1, hBe, hB5]
    exact ⟨hs1.alloc _, (Below.heap_alloc w1 _ _ (by omega)).trans hBk, heap_alloc_new _ _, Nat.le_refl _, by omega, by rw [World.size_alloc]; omega, by rw [World.size_alloc]; omega⟩
  clear hst hBk hz1 hs1 hB hx1 hx2 hf
  go_wp2
  rw [← hX1, ← hBe, ← hB5]
  clear hX1 hBe hB5 c0 hc1 hc2 hrl1 hb01
  go_loopw [6, 7] (fun vr vk wr => ∃ k : Nat, k ≤ L.length ∧ vk = .int .i64 k ∧ OwnT X1.heap.size wr vr ((L.take k).eraseIdx b) ∧ Stay X1 wr) (fun _ vk _ => L.length - (intOf vk).toNat)
  case atStart => exact ⟨0, Nat.zero_le _, rfl, by simpa using OwnT.nil, Stay.refl _⟩
  case round =>
    obtain ⟨k, hk, rfl, hown, hst⟩ := hrel
    have hsw : Stay w wr := HS.out.1.trans hst
    have c0 := (HH.out.1.stay hsw).c0
    have HW : Hid (Stay X1 wr ∧ Stay w wr ∧ OwnT X1.heap.size wr u6 ((L.take k).eraseIdx b)) := ⟨hst, hsw, hown⟩
    by_cases hlt : k < L.length
    · have hi1 : (k : Int) < (L.length : Int) := by omega
      by_cases e : k = b
      · have eb : ((k : Int) != (b : Int)) = false := by simp [e]
        have HN : Hid (OwnT X1.heap.size wr u6 ((L.take (k + 1)).eraseIdx b)) := by
          subst e
          show OwnT _ _ _ _
          rw [erase_take_eq L k hlt]; exact hown
        clear hst hsw hown e
        go_wp2
        go_roundw
        case rel => exact ⟨k + 1, by omega, by go_num, HN.out, HW.out.1⟩
        case measure => simp [intOf]; omega
      · have eb : ((k : Int) != (b : Int)) = true := by rw [bne_iff_ne]; omega
        have hc := (HH.out.2.stay hsw).2 k hlt
        rw [Nat.zero_add] at hc
        obtain ⟨hc1, hc2⟩ := hc
        have he : (L.take (k + 1)).eraseIdx b = (L.take k).eraseIdx b ++ [L[k]] := erase_take_ne L k b hlt e
        obtain ⟨y, hy⟩ : ∃ y, y = L[k] := ⟨_, rfl⟩
        rw [← hy] at hc1 hc2 he
        obtain ⟨y1, y2⟩ := y
        have hel : ((L.take k).eraseIdx b).length ≤ k := by
          have := List.length_eraseIdx_le (L.take k) b
          have : (L.take k).length ≤ k := List.length_take_le _ _
          omega
        obtain ⟨v3, w3, hr, h2, h3, h4, _⟩ := append_thing 29 hown y1 y2 (by omega) hst.size
        have HR : Hid ((Builtin.append_ #[29, 29] 29 #[u6, .slice (some ⟨wr.heap.size, 0, none⟩) 1 1]).run Try.prog (wr.alloc (.cells #[.int .i64 y1, .int .i64 y2] 33)) = .ok v3 w3 ∧ OwnT X1.heap.size w3 v3 ((L.take (k + 1)).eraseIdx b) ∧ Stay X1 w3) := ⟨hr, by rw [he]; exact h2, own_grow (hst.alloc _) (Nat.le_refl _) (hown.alloc _) h3⟩
        have hrlw : rb < wr.heap.size := by have := hsw.size; omega
        clear hst hsw hown e hr h2 h3 h4 he hy hel HW
        go_wp2_with (at_builtin; refine wpList_append_by rfl (.tmp 32) (.tmp 40) 29 29 rfl _ _ rfl rfl HR.out.1 ?_)
        go_roundw
        case rel => exact ⟨k + 1, by omega, by go_num, HR.out.2.1, HR.out.2.2⟩
        case measure => simp [intOf]; omega
    · have hi1 : ¬ (k : Int) < (L.length : Int) := by omega
      rw [List.take_of_length_le (by omega)] at hown
      obtain ⟨va, vb, vc, rfl, _, _, _, hob⟩ := hown.form
      obtain ⟨m, hm⟩ : ∃ m, m = (L.eraseIdx b).length := ⟨_, rfl⟩
      rw [← hm] at hown hob ⊢
      have fr := (HH.out.1.stay hsw).free 0
      have hBk : wr.heap[B]? = some (.cells #[.int .i64 0, .int .i64 0] 33 (0, 0)) := (hst.block B HS.out.2.2.2.2.2.1).trans HS.out.2.1
      have hB5k : wr.heap[B5]? = some (.cells #[.int .i64 x1, .int .i64 x2] 33 (0, 0)) := (hst.block B5 HS.out.2.2.2.2.2.2).trans HS.out.2.2.1
      obtain ⟨q0, q1, qf, ql⟩ := cellB hBk
      obtain ⟨p0, p1, pf, pl⟩ := cellB hB5k
      have hBr : B ≠ rb := by have := HS.out.2.2.2.1; omega
      have hB5r : B5 ≠ rb := by have := HS.out.2.2.2.2.1; omega
      have hXw := HS.out.1.size
      have HR : Hid (RHp (((wr.setCell ⟨rb, 0, none⟩ (.slice va m vc)).setCell ⟨B, 0, none⟩ (.int .i64 x1)).setCell ⟨B, 1, none⟩ (.int .i64 x2)) rb (.slice va m vc) (L.eraseIdx b) ∧ Turn (rfoot rb (.slice (some ⟨b0, 0, none⟩) L.length c)) w (((wr.setCell ⟨rb, 0, none⟩ (.slice va m vc)).setCell ⟨B, 0, none⟩ (.int .i64 x1)).setCell ⟨B, 1, none⟩ (.int .i64 x2)) ∧ (∀ k, rfoot rb (.slice va m vc) k → rfoot rb (.slice (some ⟨b0, 0, none⟩) L.length c) k ∨ w.heap.size ≤ k)) := by
        have hn : (Value.slice va m vc).ownBlock ≠ some rb := fun e => by have := (hob rb e).1; omega
        have hne : ∀ k, rfoot rb (.slice va m vc) k → k ≠ B := by
          rintro k (rfl | hk) e
          · exact hBr e.symm
          · have h1 := (hob k hk).1; have := HS.out.2.2.2.2.2.1; omega
        have h1 := (HH.out.1.stay hsw).set (hown.mono (Nat.zero_le _)) hn
        have hTB : Turn (fun k => k = B) (wr.setCell ⟨rb, 0, none⟩ (.slice va m vc)) (((wr.setCell ⟨rb, 0, none⟩ (.slice va m vc)).setCell ⟨B, 0, none⟩ (.int .i64 x1)).setCell ⟨B, 1, none⟩ (.int .i64 x2)) := (Turn.set (S := fun k => k = B) (Turn.refl _ _) rfl 0 _).set rfl 1 _
        refine ⟨h1.turn hTB (fun k hk e => hne k hk e), ((Turn.of_stay hsw).set (.inl rfl) 0 _).then hTB (fun k hk e => by have := HS.out.2.2.2.1; omega), ?_⟩
        rintro k (rfl | hk)
        · exact .inl (.inl rfl)
        · exact .inr (by have := (hob k hk).1; omega)
      clear hst hsw hown hBk hB5k hob hm HW
      go_wp2
      refine bodyPost_ret (v := .tuple #[.agg #[.int .i64 x1, .int .i64 x2], .bool true]) (by simp [results, Try.results67, go_sem, q0, q1]) rfl ⟨b, x1, x2, by rw [List.getElem?_eq_getElem HB.out.2.1, HX.out.1, HX.out.2], HB.out, rfl, _, HR.out.1, HR.out.2.1, HR.out.2.2⟩
end
end Go.Proofs.Ytjbglpeikhpieaa
