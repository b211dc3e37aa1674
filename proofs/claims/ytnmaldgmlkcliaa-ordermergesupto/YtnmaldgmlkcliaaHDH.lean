/- Heaps: sink. -/
import Derived.Test.YtnmaldgmlkcliaaHCH
namespace Go.Proofs.Ytnmaldgmlkcliaa.HH
open Go.RowKit Go.Maps Go.Shelf Go.Sort Go.Proofs.Ytnmaldgmlkcliaa

section
variable {w : World} {hb g cap turns : Nat} {came : List E} {fv v : Value} {cf : (Hd) → (Hd) → Int}

set_option maxRecDepth 100000 in
set_option maxHeartbeats 4000000 in
theorem sink_any (hf : Fv fv cf) (h : Hp w hb fv (.slice (some ⟨g, 0, none⟩) came.length cap) turns came) (hC : Came w g cap came) (hD : Down (ahd cf) came 0) (hsz : came.length ≤ 1152921504606846976) :
    Calls Try.prog 43 #[.pointer (some ⟨hb, 0, none⟩), .int .i64 0] w fun e w' => e = .returned (.tuple #[]) ∧ ∃ came', came'.Perm came ∧ IsHeap (ahd cf) came' ∧ Hp w' hb fv (.slice (some ⟨g, 0, none⟩) came.length cap) turns came' ∧ Came w' g cap came' ∧ Turn (fun k => k = g) w w' := by
  have hgb : g ≠ hb := by have := h.two; simpa [Value.ownBlock] using this
  have HF : Hid (Fv fv cf) := hf
  have H0 : Hid (Hp w hb fv (.slice (some ⟨g, 0, none⟩) came.length cap) turns came ∧ Came w g cap came ∧ Down (ahd cf) came 0) := ⟨h, hC, hD⟩
  clear hf h hC hD
  go_enter Try.func43, Try.ntmps43
  go_wp2
  go_loopw [1] (fun vi wr => ∃ (i : Nat) (c1 : List E), vi = .int .i64 (i : Int) ∧ (i < came.length ∨ i = 0) ∧ c1.Perm came ∧ Down (ahd cf) c1 i ∧ Hp wr hb fv (.slice (some ⟨g, 0, none⟩) came.length cap) turns c1 ∧ Came wr g cap c1 ∧ Turn (fun k => k = g) w wr) (fun vi _ => came.length - (intOf vi).toNat)
  case atStart => exact ⟨0, came, rfl, .inr rfl, List.Perm.refl _, H0.out.2.2, H0.out.1, H0.out.2.1, Turn.refl _ _⟩
  case round =>
    obtain ⟨i, c1, rfl, hil, hp, hD, hH, hC, hT⟩ := hrel
    have hlen : c1.length = came.length := hp.length_eq
    have HR : Hid (c1.Perm came ∧ Down (ahd cf) c1 i ∧ Hp wr hb fv (.slice (some ⟨g, 0, none⟩) came.length cap) turns c1 ∧ Came wr g cap c1 ∧ Turn (fun k => k = g) w wr ∧ c1.length = came.length) := ⟨hp, hD, hH, hC, hT, hlen⟩
    have hi60 : (i : Int) ≤ 1152921504606846976 := by omega
    clear hp hD hH hC hT hlen
    rename World => W1
    go_wp2
    go_loopw [4, 5] (fun vf vu wr => ∃ (f u : Nat), vf = .int .i64 (f : Int) ∧ vu = .int .i64 (u : Int) ∧ 2 * i + 1 ≤ u ∧ u ≤ 2 * i + 3 ∧ (f = i ∨ f < came.length ∧ f ≤ 2 * i + 2) ∧ Least3 (ahd cf) c1 i u f ∧ Stay W1 wr) (fun _ vu _ => 2 * i + 3 - (intOf vu).toNat)
    case atStart => exact ⟨i, 2 * i + 1, rfl, by go_num, Nat.le_refl _, by omega, .inl rfl, least_start (ahd_ok HF.out) c1 i, Stay.refl _⟩
    case round =>
      obtain ⟨f, u, rfl, rfl, hu1, hu2, hfl, hL3, hst⟩ := hrel
      have HS : Hid (Stay W1 wr) := hst
      have HH2 : Hid (Hp wr hb fv (.slice (some ⟨g, 0, none⟩) came.length cap) turns c1) := HR.out.2.2.1.stay hst
      have HC2 : Hid (Came wr g cap c1) := HR.out.2.2.2.1.stay hst
      have HL3 : Hid (Least3 (ahd cf) c1 i u f) := hL3
      have k1 := HH2.out.c1
      clear hst hL3
      by_cases hc : u ≤ 2 * i + 2 ∧ u < came.length
      · have q1 : (u : Int) ≤ 2 * (i : Int) + 2 := by omega
        have q2 : (u : Int) < (came.length : Int) := by omega
        have hpu : (u - 1) / 2 = i := by omega
        obtain ⟨x, hx⟩ : ∃ x, c1[u]? = some x := ⟨_, List.getElem?_eq_getElem (by rw [HR.out.2.2.2.2.2]; exact hc.2)⟩
        obtain ⟨y, hy⟩ : ∃ y, c1[f]? = some y := ⟨_, List.getElem?_eq_getElem (by rw [HR.out.2.2.2.2.2]; omega)⟩
        have hah := ahead_any HF.out (by rw [HR.out.2.2.2.2.2]; exact HH2.out) HC2.out u f x y hx hy
        have HXY : Hid (c1[u]? = some x ∧ c1[f]? = some y) := ⟨hx, hy⟩
        clear hx hy
        go_wp2_with fail
        refine hah.mono ?_
        rintro e9 w2 ⟨rfl, hst⟩
        have HS2 : Hid (Stay wr w2) := hst
        clear hah hst
        cases hlt : ahd cf x y with
        | false =>
          have HL : Hid (ahd cf x y = false) := hlt
          clear hlt
          go_wp2
          go_roundw
          case rel => exact ⟨f, u + 1, rfl, by go_num, by omega, by omega, hfl, least_same HL3.out hpu (by omega) HXY.out.1 HXY.out.2 HL.out, HS.out.trans HS2.out⟩
          case measure => simp [intOf]; omega
        | true =>
          have HL : Hid (ahd cf x y = true) := hlt
          clear hlt
          go_wp2
          go_roundw
          case rel => exact ⟨u, u + 1, rfl, by go_num, by omega, by omega, .inr ⟨hc.2, hc.1⟩, least_less (ahd_ok HF.out) HL3.out hpu (by omega) HXY.out.1 HXY.out.2 HL.out, HS.out.trans HS2.out⟩
          case measure => simp [intOf]; omega
      · have hlast : ∀ k, (k - 1) / 2 = i → 0 < k → k < c1.length → k < u := fun k h1 h2 h3 => by rw [HR.out.2.2.2.2.2] at h3; omega
        have HLA : Hid (∀ k, (k - 1) / 2 = i → 0 < k → k < c1.length → k < u) := hlast
        clear hlast
        by_cases hfi : f = i
        · obtain rfl : f = i := hfi
          by_cases q1 : (u : Int) ≤ 2 * (f : Int) + 2
          all_goals
            try have q2 : ¬ (u : Int) < (came.length : Int) := by omega
            go_wp2
            (try simp only [Exit.inBlock, Exit.then]); refine bodyPost_ret (results_none rfl _ _ _) rfl ?_
            exact ⟨rfl, c1, HR.out.1, down_done HR.out.2.1 HL3.out HLA.out, HH2.out, HC2.out, HR.out.2.2.2.2.1.trans (Turn.of_stay HS.out)⟩
        · have hfb : ((f : Int) == (i : Int)) = false := by rw [beq_eq_false_iff_ne]; omega
          have hfl2 : f < came.length ∧ f ≤ 2 * i + 2 := by omega
          have hfgt : i < f := by rcases HL3.out.1 with h | h <;> omega
          have hil2 : i < came.length := by omega
          have li : (i : Int) < (came.length : Int) := by omega
          have lf : (f : Int) < (came.length : Int) := by omega
          obtain ⟨x, hx⟩ : ∃ x, c1[i]? = some x := ⟨_, List.getElem?_eq_getElem (by rw [HR.out.2.2.2.2.2]; exact hil2)⟩
          obtain ⟨y, hy⟩ : ∃ y, c1[f]? = some y := ⟨_, List.getElem?_eq_getElem (by rw [HR.out.2.2.2.2.2]; exact hfl2.1)⟩
          have HXY : Hid (c1[i]? = some x ∧ c1[f]? = some y) := ⟨hx, hy⟩
          clear hx hy
          have fz := HC2.out.free
          have lc := HC2.out.len
          unfold maxLen at lc
          obtain ⟨⟨xa, xn, xc, xi, xx⟩, x3⟩ := x
          obtain ⟨⟨ya, yn, yc, yi, yx⟩, y3⟩ := y
          have d0 : wr.cell? ⟨g, i * 3, none⟩ = some (.slice xa xn xc) := HC2.out.cell i _ HXY.out.1 0 (by decide)
          have d1 : wr.cell? ⟨g, i * 3 + 1, none⟩ = some (.int .i64 (xi : Int)) := HC2.out.cell i _ HXY.out.1 1 (by decide)
          have d2 : wr.cell? ⟨g, i * 3 + 2, none⟩ = some (.int .i64 (x3 : Int)) := HC2.out.cell i _ HXY.out.1 2 (by decide)
          have e0 : wr.cell? ⟨g, f * 3, none⟩ = some (.slice ya yn yc) := HC2.out.cell f _ HXY.out.2 0 (by decide)
          have e1 : wr.cell? ⟨g, f * 3 + 1, none⟩ = some (.int .i64 (yi : Int)) := HC2.out.cell f _ HXY.out.2 1 (by decide)
          have e2 : wr.cell? ⟨g, f * 3 + 2, none⟩ = some (.int .i64 (y3 : Int)) := HC2.out.cell f _ HXY.out.2 2 (by decide)
          have n00 : ¬ f * 3 = i * 3 := by omega
          have n01 : ¬ f * 3 = i * 3 + 1 := by omega
          have n02 : ¬ f * 3 = i * 3 + 2 := by omega
          have n10 : ¬ f * 3 + 1 = i * 3 := by omega
          have n11 : ¬ f * 3 + 1 = i * 3 + 1 := by omega
          have n12 : ¬ f * 3 + 1 = i * 3 + 2 := by omega
          have n20 : ¬ f * 3 + 2 = i * 3 := by omega
          have n21 : ¬ f * 3 + 2 = i * 3 + 1 := by omega
          have n22 : ¬ f * 3 + 2 = i * 3 + 2 := by omega
          by_cases q1 : (u : Int) ≤ 2 * (i : Int) + 2
          all_goals
            try have q2 : ¬ (u : Int) < (came.length : Int) := by omega
            go_wp2_with fail
            go_region
            go_wp2
            obtain ⟨s1, s2, s3⟩ := swap_hp HH2.out HC2.out HXY.out.1 HXY.out.2 hfi
            exact ⟨⟨f, swapL c1 i f _ _, rfl, .inl hfl2.1, (swap_perm HXY.out.1 HXY.out.2).trans HR.out.1, down_step HR.out.2.1 HL3.out hfi HLA.out HXY.out.1 HXY.out.2, s1, s2, (HR.out.2.2.2.2.1.trans (Turn.of_stay HS.out)).trans s3⟩, by simp [intOf]; omega⟩
end
end Go.Proofs.Ytnmaldgmlkcliaa.HH
