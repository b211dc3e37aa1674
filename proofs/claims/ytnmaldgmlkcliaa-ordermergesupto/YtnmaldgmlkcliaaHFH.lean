/- Heaps: Pop. -/
import Derived.Test.YtnmaldgmlkcliaaHEH
namespace Go.Proofs.Ytnmaldgmlkcliaa.HH
open Go.RowKit Go.Maps Go.Shelf Go.Sort Go.Proofs.Ytnmaldgmlkcliaa

section
variable {w : World} {hb g cap turns : Nat} {came : List E} {fv v : Value} {cf : (Hd) → (Hd) → Int}

theorem pop_none (h : Hp w hb fv v turns []) : Calls Try.prog 27 #[.pointer (some ⟨hb, 0, none⟩)] w fun e w' => e = .returned (.tuple #[.agg #[.slice none 0 0, .int .i64 0], .bool false]) ∧ Stay w w' := by
  have hl := fun (W : World) (hW : Stay w W) => peek_none (h.stay hW)
  go_enter Try.func27, Try.ntmps27
  go_wp2_with fail
  have hz := hl _ (Stay.new w (.cells #[.slice none 0 0, .int .i64 0] 47))
  refine hz.mono ?_
  rintro e w9 ⟨rfl, hw⟩
  have HW : Hid (Stay w w9) := (Stay.new _ _).trans hw
  have hBk : w9.heap[w.heap.size]? = some (.cells #[.slice none 0 0, .int .i64 0] 47 (0, 0)) := (hw.block w.heap.size (by simp)).trans (heap_alloc_new _ _)
  obtain ⟨B, hB⟩ : ∃ B, B = w.heap.size := ⟨_, rfl⟩
  rw [← hB] at hBk ⊢
  have q0 : w9.cell? ⟨B, 0, none⟩ = some (.slice none 0 0) := by simp [World.cell?, hBk]
  have q1 : w9.cell? ⟨B, 1, none⟩ = some (.int .i64 0) := by simp [World.cell?, hBk]
  have f0 : w9.frozen? ⟨B, 0, none⟩ = false := by simp [World.frozen?, hBk]
  have f1 : w9.frozen? ⟨B, 1, none⟩ = false := by simp [World.frozen?, hBk]
  have hlt : B < w9.heap.size := (Array.getElem?_eq_some_iff.1 hBk).1
  have HB : Hid (w.heap.size ≤ B) := by show w.heap.size ≤ B; omega
  clear hw hz hBk hB
  go_wp2
  refine bodyPost_ret (v := .tuple #[.agg #[.slice none 0 0, .int .i64 0], .bool false]) (by simp [results, Try.results27, go_sem, q0, q1, hlt]) rfl ⟨rfl, ?_⟩
  exact Stay.alloc (Turn.stay ((Turn.set (S := fun k => k = B) (Turn.refl _ w9) rfl 0 _).set rfl 1 _) HW.out (fun k hk e => by have := HB.out; omega)) _

/-- The first goes out, the last comes in its place. -/
theorem pop_perm {α : Type} {l : List α} {a b : α} {n : Nat} (hn : l.length = n + 1) (ha : l[0]? = some a) (hb : l[n]? = some b) : (a :: (l.set 0 b).take n).Perm l := by
  cases l with
  | nil => simp at hn
  | cons x t =>
    simp at ha hn
    subst ha
    cases n with
    | zero =>
      have : t = [] := List.eq_nil_of_length_eq_zero hn
      subst this
      simp
    | succ n =>
      simp only [List.set_cons_zero, List.take_succ_cons]
      have e : t = t.take n ++ [b] := by
        conv => lhs; rw [← List.take_append_drop n t]
        congr 1
        have h1 : n < t.length := by omega
        rw [List.drop_eq_getElem_cons h1, List.drop_of_length_le (by omega)]
        simp at hb
        rw [List.getElem?_eq_getElem h1] at hb
        simpa using hb
      conv => rhs; rw [e]
      exact List.Perm.cons _ ((List.perm_append_comm (l₁ := [b]) (l₂ := t.take n)))
theorem Hp.len {n c : Nat} {a : Option Addr} (h : Hp w hb fv (.slice a n c) turns came) : n = came.length := by
  rcases h.row with ⟨h1, h2⟩ | ⟨g', c', h1, _⟩
  · simp at h1; simp [h1, h2]
  · simp at h1; exact h1.2.1

theorem cut_hp {c2 : List E} {n : Nat} {z : E} (h : Hp w hb fv (.slice (some ⟨g, 0, none⟩) (n + 1) cap) turns c2) (hC : Came w g cap c2) (hn : c2.length = n + 1) (hz : c2[n]? = some z) :
    Hp ((stored w g n (⟨none, 0, 0, 0, (0, 0)⟩, 0)).setCell ⟨hb, 1, none⟩ (.slice (some ⟨g, 0, none⟩) n cap)) hb fv (.slice (some ⟨g, 0, none⟩) n cap) turns (c2.take n) ∧ Came ((stored w g n (⟨none, 0, 0, 0, (0, 0)⟩, 0)).setCell ⟨hb, 1, none⟩ (.slice (some ⟨g, 0, none⟩) n cap)) g cap (c2.take n) ∧
      Turn (foot hb (.slice (some ⟨g, 0, none⟩) (n + 1) cap)) w ((stored w g n (⟨none, 0, 0, 0, (0, 0)⟩, 0)).setCell ⟨hb, 1, none⟩ (.slice (some ⟨g, 0, none⟩) n cap)) := by
  have hgb : g ≠ hb := by have := h.two; simpa [Value.ownBlock] using this
  have hC1 := hC.store n z (⟨none, 0, 0, 0, (0, 0)⟩, 0) hz
  have T1 : Turn (fun k => k = g) w (stored w g n (⟨none, 0, 0, 0, (0, 0)⟩, 0)) := stored_turn (S := fun k => k = g) (Turn.refl _ _) rfl _ _
  have hbox := T1.heap h.box (fun e => hgb e.symm)
  have hC2 := hC1.cut n (by simp [hn])
  rw [List.take_set_of_le (Nat.le_refl _)] at hC2
  have hC3 := hC2.storeOther hb 1 (.slice (some ⟨g, 0, none⟩) n cap) hgb
  have hl : (c2.take n).length = n := by simp [hn]
  have hTT : Turn (foot hb (.slice (some ⟨g, 0, none⟩) (n + 1) cap)) w ((stored w g n (⟨none, 0, 0, 0, (0, 0)⟩, 0)).setCell ⟨hb, 1, none⟩ (.slice (some ⟨g, 0, none⟩) n cap)) := (stored_turn (Turn.refl _ _) (.inr rfl) _ _).set (.inl rfl) _ _
  refine ⟨⟨?_, .inr ⟨g, cap, by rw [hl], hC3⟩, by simp [Value.ownBlock, hgb], ?_⟩, hC3, hTT⟩
  · rw [heap_setCell_same _ _ _ _ _ _ hbox]
    simp
  · obtain ⟨xb, h1, h2, h3, h4, h5⟩ := h.lies
    have hn' : ∀ k, k ≤ xb → ¬ foot hb (.slice (some ⟨g, 0, none⟩) (n + 1) cap) k := fun k hk e => by
      rcases e with e | e
      · omega
      · have := h5 k e; omega
    exact ⟨xb, h1, hTT.cell h2 (hn' xb (Nat.le_refl _)), fun e he => (h3 e (List.mem_of_mem_take he)).turn hTT hn', h4, h5⟩

set_option maxRecDepth 100000 in
set_option maxHeartbeats 4000000 in
theorem pop_some (hf : Fv fv cf) (h : Hp w hb fv v turns came) (hh : IsHeap (ahd cf) came) (e : E) (he : came[0]? = some e) (hsz : came.length ≤ 1152921504606846976) :
    Calls Try.prog 27 #[.pointer (some ⟨hb, 0, none⟩)] w fun e' w' => e' = .returned (.tuple #[.agg #[.slice e.1.a e.1.n e.1.c, .int .i64 (e.1.i : Int)], .bool true]) ∧ ∃ v' came', (e :: came').Perm came ∧ IsHeap (ahd cf) came' ∧ Hp w' hb fv v' turns came' ∧ Turn (foot hb v) w w' ∧ (∀ k, foot hb v' k → foot hb v k) := by
  have hpk := fun (W : World) (hW : Stay w W) => peek_some (h.stay hW) e he
  obtain ⟨g, cap, hv, hC⟩ := h.row.at he
  obtain ⟨n, hn⟩ : ∃ n, came.length = n + 1 := ⟨came.length - 1, by have := (List.getElem?_eq_some_iff.1 he).1; omega⟩
  obtain ⟨b, hb'⟩ : ∃ b, came[n]? = some b := ⟨_, List.getElem?_eq_getElem (by omega)⟩
  rw [hn] at hv
  subst hv
  have hgb : g ≠ hb := by have := h.two; simpa [Value.ownBlock] using this
  have hbl := h.lt hb (.inl rfl)
  have hgl := hC.lt
  have lc := hC.len
  rw [hn] at lc hsz
  unfold maxLen at lc
  have ln : (n : Int) < (n : Int) + 1 := by omega
  have lz : (0 : Int) < (n : Int) + 1 := by omega
  have ncap : (n : Int) ≤ (cap : Int) := by omega
  have HH : Hid (Hp w hb fv (.slice (some ⟨g, 0, none⟩) (n + 1) cap) turns came ∧ Came w g cap came ∧ IsHeap (ahd cf) came ∧ Fv fv cf ∧ came[0]? = some e ∧ came[n]? = some b ∧ came.length = n + 1) := ⟨h, hC, hh, hf, he, hb', hn⟩
  clear h hC hh hf he hb' hn
  go_enter Try.func27, Try.ntmps27
  go_wp2_with fail
  have hpk1 := hpk _ (Stay.new w (.cells #[.slice none 0 0, .int .i64 0] 47))
  refine hpk1.mono ?_
  rintro e9 w1 ⟨rfl, hst⟩
  obtain ⟨⟨ea, en, ec, ei, ex⟩, e3⟩ := e
  dsimp only at HH ⊢
  have hBk : w1.heap[w.heap.size]? = some (.cells #[.slice none 0 0, .int .i64 0] 47 (0, 0)) := (hst.block w.heap.size (by simp)).trans (heap_alloc_new _ _)
  have hz1 : w.heap.size + 1 ≤ w1.heap.size := by have := hst.size; simpa using this
  have HS0 : Hid (Stay w w1) := (Stay.new _ _).trans hst
  obtain ⟨X1, hX1⟩ : ∃ X1, X1 = w1.alloc (.cells #[.slice ea en ec, .int .i64 (ei : Int)] 47) := ⟨_, rfl⟩
  obtain ⟨B, hB⟩ : ∃ B, B = w.heap.size := ⟨_, rfl⟩
  obtain ⟨B4, hB4⟩ : ∃ B4, B4 = w1.heap.size := ⟨_, rfl⟩
  have HS : Hid (Stay w X1) := by rw [hX1]; exact HS0.out.alloc _
  have HBX : Hid (X1.heap[B]? = some (.cells #[.slice none 0 0, .int .i64 0] 47 (0, 0)) ∧ X1.heap[B4]? = some (.cells #[.slice ea en ec, .int .i64 (ei : Int)] 47 (0, 0)) ∧ w.heap.size ≤ B ∧ w.heap.size ≤ B4 ∧ B ≠ B4) := by
    rw [hX1, hB, hB4]
    exact ⟨(Below.heap_alloc w1 _ _ (by omega)).trans hBk, heap_alloc_new _ _, Nat.le_refl _, by omega, by omega⟩
  have HH1 : Hid (Hp X1 hb fv (.slice (some ⟨g, 0, none⟩) (n + 1) cap) turns came ∧ Came X1 g cap came) := ⟨HH.out.1.stay HS.out, HH.out.2.1.stay HS.out⟩
  have k1 := HH1.out.1.c1
  have fz := HH1.out.2.free
  have fb := HH1.out.1.free 1
  have hbl1 : hb < X1.heap.size := HH1.out.1.lt hb (.inl rfl)
  have hgl1 := HH1.out.2.lt
  obtain ⟨⟨ba, bn, bc, bi, bx⟩, b3⟩ := b
  have d0 : X1.cell? ⟨g, n * 3, none⟩ = some (.slice ba bn bc) := HH1.out.2.cell n _ HH.out.2.2.2.2.2.1 0 (by decide)
  have d1 : X1.cell? ⟨g, n * 3 + 1, none⟩ = some (.int .i64 (bi : Int)) := HH1.out.2.cell n _ HH.out.2.2.2.2.2.1 1 (by decide)
  have d2 : X1.cell? ⟨g, n * 3 + 2, none⟩ = some (.int .i64 (b3 : Int)) := HH1.out.2.cell n _ HH.out.2.2.2.2.2.1 2 (by decide)
  have c0 : X1.cell? ⟨g, 0, none⟩ = some (.slice ea en ec) := HH1.out.2.cell 0 _ HH.out.2.2.2.2.1 0 (by decide)
  have c1 : X1.cell? ⟨g, 1, none⟩ = some (.int .i64 (ei : Int)) := HH1.out.2.cell 0 _ HH.out.2.2.2.2.1 1 (by decide)
  have c2 : X1.cell? ⟨g, 2, none⟩ = some (.int .i64 (e3 : Int)) := HH1.out.2.cell 0 _ HH.out.2.2.2.2.1 2 (by decide)
  have k1w := (HH.out.1.stay HS0.out).c1
  have hblw : hb < w1.heap.size := (HH.out.1.stay HS0.out).lt hb (.inl rfl)
  clear hpk hpk1 hst hBk hz1 HS0
  go_wp2_with fail
  rw [← hX1, ← hB, ← hB4]
  clear hX1 hB hB4 k1w hblw
  go_region
  obtain ⟨X2, hX2⟩ : ∃ X, X = (stored X1 g 0 (⟨ba, bn, bc, bi, bx⟩, b3)).drew := ⟨_, rfl⟩
  change Exit.then _ _ Exit.normal _ (stored X1 g 0 (⟨ba, bn, bc, bi, bx⟩, b3)).drew
  rw [← hX2]
  have hC2 : Came X2 g cap (came.set 0 (⟨ba, bn, bc, bi, bx⟩, b3)) := by rw [hX2]; exact (HH1.out.2.store 0 _ (⟨ba, bn, bc, bi, bx⟩, b3) HH.out.2.2.2.2.1).stay (Stay.drew _)
  have hH2 : Hp X2 hb fv (.slice (some ⟨g, 0, none⟩) (n + 1) cap) turns (came.set 0 (⟨ba, bn, bc, bi, bx⟩, b3)) := by rw [hX2] at hC2 ⊢; exact (Hp.store HH1.out.1 (by simp [HH.out.2.2.2.2.2.2]) 0 _ (HH1.out.2.store 0 _ (⟨ba, bn, bc, bi, bx⟩, b3) HH.out.2.2.2.2.1) (mem_set_of (List.mem_of_getElem? HH.out.2.2.2.2.2.1))).stay (Stay.drew _)
  have hT2 : Turn (foot hb (.slice (some ⟨g, 0, none⟩) (n + 1) cap)) X1 X2 := by rw [hX2]; exact (stored_turn (Turn.refl _ _) (.inr rfl) 0 _).trans (Turn.of_stay (Stay.drew _))
  have hnn : (came.set 0 (⟨ba, bn, bc, bi, bx⟩, b3))[n]? = some (⟨ba, bn, bc, bi, bx⟩, b3) := by
    rw [List.getElem?_set]
    split
    · rename_i h0; rw [if_pos (by have := HH.out.2.2.2.2.2.2; omega)]
    · exact HH.out.2.2.2.2.2.1
  clear hX2 k1 fz fb d0 d1 d2 c0 c1 c2
  have k1 := hH2.c1
  have fz := hC2.free
  have fb := hH2.free 1
  have d0 : X2.cell? ⟨g, n * 3, none⟩ = some (.slice ba bn bc) := hC2.cell n _ hnn 0 (by decide)
  have d1 : X2.cell? ⟨g, n * 3 + 1, none⟩ = some (.int .i64 (bi : Int)) := hC2.cell n _ hnn 1 (by decide)
  have d2 : X2.cell? ⟨g, n * 3 + 2, none⟩ = some (.int .i64 (b3 : Int)) := hC2.cell n _ hnn 2 (by decide)
  have HX : Hid _ := And.intro hC2 (And.intro hH2 (And.intro hT2 hnn))
  clear hC2 hH2 hT2 hnn
  have hl2 : (came.set 0 (⟨ba, bn, bc, bi, bx⟩, b3)).length = n + 1 := by simp [HH.out.2.2.2.2.2.2]
  obtain ⟨q1, q2, q3⟩ := cut_hp HX.out.2.1 HX.out.1 hl2 HX.out.2.2.2
  have htl : ((came.set 0 (⟨ba, bn, bc, bi, bx⟩, b3)).take n).length = n := by simp [HH.out.2.2.2.2.2.2]
  have hdn : Down (ahd cf) ((came.set 0 (⟨ba, bn, bc, bi, bx⟩, b3)).take n) 0 := down_start HH.out.2.2.1 (fun k hk hkl => by
    rw [htl] at hkl
    rw [List.getElem?_take_of_lt hkl, List.getElem?_set_ne (by omega)])
  have hsk := sink_any HH.out.2.2.2.1 (by rw [htl]; exact q1) q2 hdn (by rw [htl]; omega)
  rw [htl] at hsk
  have HQ : Hid _ := And.intro q1 (And.intro q2 q3)
  have HP : Hid ((((⟨ea, en, ec, ei, ex⟩, e3) : E) :: (came.set 0 (⟨ba, bn, bc, bi, bx⟩, b3)).take n).Perm came) := pop_perm HH.out.2.2.2.2.2.2 HH.out.2.2.2.2.1 HH.out.2.2.2.2.2.1
  clear q1 q2 q3 hdn hl2 htl
  go_wp2_with fail
  refine hsk.mono ?_
  rintro e9 w5 ⟨rfl, came', hp, hhp, hH, hC, hT⟩
  have hTX : Turn (foot hb (.slice (some ⟨g, 0, none⟩) (n + 1) cap)) X1 w5 := (HX.out.2.2.1.trans HQ.out.2.2).then hT (fun k _ e => .inr (by rw [e]; rfl))
  have hfar : ∀ k, foot hb (.slice (some ⟨g, 0, none⟩) (n + 1) cap) k → k < w.heap.size := fun k hk => HH.out.1.lt k hk
  have hBk : w5.heap[B]? = some (.cells #[.slice none 0 0, .int .i64 0] 47 (0, 0)) := hTX.heap HBX.out.1 (fun h => by have := hfar _ h; have := HBX.out.2.2.1; omega)
  have hB4k : w5.heap[B4]? = some (.cells #[.slice ea en ec, .int .i64 (ei : Int)] 47 (0, 0)) := hTX.heap HBX.out.2.1 (fun h => by have := hfar _ h; have := HBX.out.2.2.2.1; omega)
  have r0 : w5.cell? ⟨B, 0, none⟩ = some (.slice none 0 0) := by simp [World.cell?, hBk]
  have r1 : w5.cell? ⟨B, 1, none⟩ = some (.int .i64 0) := by simp [World.cell?, hBk]
  have rf : ∀ k, w5.frozen? ⟨B, k, none⟩ = false := fun k => by simp [World.frozen?, hBk]
  have s0 : w5.cell? ⟨B4, 0, none⟩ = some (.slice ea en ec) := by simp [World.cell?, hB4k]
  have s1 : w5.cell? ⟨B4, 1, none⟩ = some (.int .i64 (ei : Int)) := by simp [World.cell?, hB4k]
  have hBb : B ≠ hb := fun h => by have := hbl; have := HBX.out.2.2.1; omega
  have hBg : B ≠ g := fun h => by have := hgl; have := HBX.out.2.2.1; omega
  have HF5 : Hid (Hp ((w5.setCell ⟨B, 0, none⟩ (.slice ea en ec)).setCell ⟨B, 1, none⟩ (.int .i64 (ei : Int))) hb fv (.slice (some ⟨g, 0, none⟩) n cap) turns came' ∧ Turn (foot hb (.slice (some ⟨g, 0, none⟩) (n + 1) cap)) w ((w5.setCell ⟨B, 0, none⟩ (.slice ea en ec)).setCell ⟨B, 1, none⟩ (.int .i64 (ei : Int)))) := by
    have hTB : Turn (fun k => k = B) w5 ((w5.setCell ⟨B, 0, none⟩ (.slice ea en ec)).setCell ⟨B, 1, none⟩ (.int .i64 (ei : Int))) := (Turn.set (S := fun k => k = B) (Turn.refl _ w5) rfl 0 _).set rfl 1 _
    refine ⟨hH.turn hTB (fun k hk e => ?_) (fun xb hx k hk e => by obtain ⟨xb', h1, _, _, h4, _⟩ := hH.lies; obtain rfl := headV_inj (hx.symm.trans h1); have := HBX.out.2.2.1; omega), ((Turn.of_stay HS.out).trans hTX).then hTB (fun k hk e => by have := HBX.out.2.2.1; omega)⟩
    rcases hk with hk | hk
    · exact hBb (e.symm.trans hk)
    · simp only [Value.ownBlock, Option.some.injEq] at hk
      exact hBg (e.symm.trans hk.symm)
  have H5 : Hid _ := And.intro hp hhp
  clear hp hhp hH hC hT hsk hTX hfar hBk hB4k hBb hBg
  go_wp2
  refine bodyPost_ret (v := .tuple #[.agg #[.slice ea en ec, .int .i64 (ei : Int)], .bool true]) (by simp [results, Try.results27, go_sem, r0, r1]) rfl ⟨rfl, _, came', (List.Perm.cons _ H5.out.1).trans HP.out, H5.out.2, HF5.out.1, HF5.out.2, ?_⟩
  rintro k (rfl | hk)
  · exact .inl rfl
  · exact .inr hk
end
end Go.Proofs.Ytnmaldgmlkcliaa.HH
