/- Heaps: Len, Peek, rise. Heaps: sink. Heaps: Push, Pop. Heaps: Pop. Heaps: New; a heap that lies behind a world. -/
import Derived.Test.YtnmaldgmlkcliaaHBT
import Derived.Deep.RegionLaw
namespace Go.Proofs.Ytnmaldgmlkcliaa.HT
open Go.RowKit Go.Maps Go.Shelf Go.Sort Go.Proofs.Ytnmaldgmlkcliaa

section
variable {w : World} {hb g cap turns : Nat} {came : List E} {fv v : Value} {cf : (Int × Int) → (Int × Int) → Int}

theorem Row.form (h : Row w v came) : ∃ a c, v = .slice a came.length c := by
  rcases h with ⟨rfl, rfl⟩ | ⟨g, cap, rfl, _⟩
  · exact ⟨_, _, rfl⟩
  · exact ⟨_, _, rfl⟩
theorem len_any (h : Hp w hb fv v turns came) : Calls Try.prog 18 #[.pointer (some ⟨hb, 0, none⟩)] w fun e w' => e = .returned (.int .i64 (came.length : Int)) ∧ w' = w := by
  obtain ⟨a, c, rfl⟩ := h.row.form
  have c1 := h.c1
  clear h
  go_enter Try.func18, Try.ntmps18
  go_wp2
  go_ret
  exact ⟨rfl, rfl⟩
theorem peek_none (h : Hp w hb fv v turns []) : Calls Try.prog 19 #[.pointer (some ⟨hb, 0, none⟩)] w fun e w' => e = .returned (.tuple #[.agg #[.int .i64 0, .int .i64 0], .bool false]) ∧ Stay w w' := by
  have hl := fun (W : World) (hW : Stay w W) => len_any (h.stay hW)
  go_enter Try.func19, Try.ntmps19
  go_wp2_with fail
  refine (hl _ (by first | exact Stay.refl _ | exact Stay.new _ _)).mono ?_
  rintro e w9 ⟨rfl, hw⟩
  have hw' := hw.symm; subst hw'
  go_wp2
  exact bodyPost_ret (v := .tuple #[.agg #[.int .i64 0, .int .i64 0], .bool false]) (by simp [results, Try.results19, go_sem]) rfl ⟨rfl, by repeat (first | exact Stay.refl _ | refine Stay.alloc ?_ _)⟩
theorem peek_some (h : Hp w hb fv v turns came) (e : E) (he : came[0]? = some e) : Calls Try.prog 19 #[.pointer (some ⟨hb, 0, none⟩)] w fun e' w' => e' = .returned (.tuple #[.agg #[.int .i64 e.1.1, .int .i64 e.1.2], .bool true]) ∧ Stay w w' := by
  have hl := fun (W : World) (hW : Stay w W) => len_any (h.stay hW)
  obtain ⟨g, cap, rfl, hC⟩ := h.row.at he
  have h0 := (List.getElem?_eq_some_iff.1 he).1
  have hz : ((came.length : Int) == 0) = false := by rw [beq_eq_false_iff_ne]; omega
  have hz2 : (0 : Int) < (came.length : Int) := by omega
  have lc := hC.len
  unfold maxLen at lc
  have c1 := h.c1
  obtain ⟨⟨e1, e2⟩, e3⟩ := e
  have d0 : w.cell? ⟨g, 0, none⟩ = some (.int .i64 e1) := hC.cell 0 _ he 0 (by decide)
  have d1 : w.cell? ⟨g, 1, none⟩ = some (.int .i64 e2) := hC.cell 0 _ he 1 (by decide)
  have hlb := h.lt hb (.inl rfl)
  have hlg := hC.lt
  clear hC he
  go_enter Try.func19, Try.ntmps19
  go_wp2_with fail
  refine (hl _ (by first | exact Stay.refl _ | exact Stay.new _ _)).mono ?_
  rintro e w9 ⟨rfl, hw⟩
  have hw' := hw.symm; subst hw'
  go_wp2
  exact bodyPost_ret (v := .tuple #[.agg #[.int .i64 e1, .int .i64 e2], .bool true]) (by simp [results, Try.results19, go_sem]) rfl ⟨rfl, by repeat (first | exact Stay.refl _ | refine Stay.alloc ?_ _)⟩

theorem Hp.store {c : List E} (h : Hp w hb fv v turns c) {c' : List E} (hv : v = .slice (some ⟨g, 0, none⟩) c'.length cap) (t : Nat) (e : E) (hC : Came (stored w g t e) g cap c') : Hp (stored w g t e) hb fv v turns c' := by
  have two := h.two
  refine ⟨?_, .inr ⟨g, cap, hv, hC⟩, two⟩
  rw [hv] at two
  simp only [Value.ownBlock, ne_eq, Option.some.injEq] at two
  have : Turn (fun k => k = g) w (stored w g t e) := stored_turn (S := fun k => k = g) (Turn.refl _ _) rfl t e
  exact this.heap h.box (fun e => two e.symm)
theorem swap_hp {c1 : List E} {n : Nat} {x y : E} {i o : Nat} (h : Hp w hb fv (.slice (some ⟨g, 0, none⟩) n cap) turns c1) (hC : Came w g cap c1) (hx : c1[i]? = some x) (hy : c1[o]? = some y) (hne : o ≠ i) :
    Hp (stored (stored w g i y) g o x).drew hb fv (.slice (some ⟨g, 0, none⟩) n cap) turns (swapL c1 i o x y) ∧ Came (stored (stored w g i y) g o x).drew g cap (swapL c1 i o x y) ∧ Turn (fun k => k = g) w (stored (stored w g i y) g o x).drew := by
  have hn : n = c1.length := by
    rcases h.row with ⟨h1, _⟩ | ⟨g', c', h1, _⟩
    · simp at h1
    · simp at h1; exact h1.2.1
  have C1 := hC.store i x y hx
  have C2 := C1.store o y x (by rw [List.getElem?_set_ne (Ne.symm hne)]; exact hy)
  have H1 := Hp.store (c' := c1.set i y) h (by simp [hn]) i y C1
  have H2 := Hp.store (c' := (c1.set i y).set o x) H1 (by simp [hn]) o x C2
  exact ⟨H2.stay (Stay.drew _), C2.stay (Stay.drew _), (stored_turn (S := fun k => k = g) (stored_turn (S := fun k => k = g) (Turn.refl _ _) rfl _ _) rfl _ _).trans (Turn.of_stay (Stay.drew _))⟩

set_option maxRecDepth 100000 in
set_option maxHeartbeats 4000000 in
theorem rise_any (hf : Fv fv cf) (h : Hp w hb fv (.slice (some ⟨g, 0, none⟩) came.length cap) turns came) (hC : Came w g cap came) (i0 : Nat) (hi : i0 < came.length) (hU : Up (ahd cf) came i0) :
    Calls Try.prog 37 #[.pointer (some ⟨hb, 0, none⟩), .int .i64 (i0 : Int)] w fun e w' => e = .returned (.tuple #[]) ∧ ∃ came', came'.Perm came ∧ IsHeap (ahd cf) came' ∧ Hp w' hb fv (.slice (some ⟨g, 0, none⟩) came.length cap) turns came' ∧ Came w' g cap came' ∧ Turn (fun k => k = g) w w' := by
  have lc := hC.len
  unfold maxLen at lc
  have hgb : g ≠ hb := by have := h.two; simpa [Value.ownBlock] using this
  have HF : Hid (Fv fv cf) := hf
  have H0 : Hid (Hp w hb fv (.slice (some ⟨g, 0, none⟩) came.length cap) turns came ∧ Came w g cap came ∧ Up (ahd cf) came i0) := ⟨h, hC, hU⟩
  clear hf h hC hU
  go_enter Try.func37, Try.ntmps37
  go_wp2
  go_loopw [1] (fun vi wr => ∃ (i : Nat) (c1 : List E), vi = .int .i64 (i : Int) ∧ i < came.length ∧ c1.Perm came ∧ Up (ahd cf) c1 i ∧ Hp wr hb fv (.slice (some ⟨g, 0, none⟩) came.length cap) turns c1 ∧ Came wr g cap c1 ∧ Turn (fun k => k = g) w wr) (fun vi _ => (intOf vi).toNat)
  case atStart => exact ⟨i0, came, rfl, hi, List.Perm.refl _, H0.out.2.2, H0.out.1, H0.out.2.1, Turn.refl _ _⟩
  case round =>
    obtain ⟨i, c1, rfl, hil, hp, hU, hH, hC, hT⟩ := hrel
    have hlen : c1.length = came.length := hp.length_eq
    have HR : Hid (c1.Perm came ∧ Up (ahd cf) c1 i ∧ Hp wr hb fv (.slice (some ⟨g, 0, none⟩) came.length cap) turns c1 ∧ Came wr g cap c1 ∧ Turn (fun k => k = g) w wr ∧ c1.length = came.length) := ⟨hp, hU, hH, hC, hT, hlen⟩
    clear hp hU hH hC hT hlen
    by_cases hi0 : 0 < i
    · have hi1 : (0 : Int) < (i : Int) := by omega
      obtain ⟨o, ho⟩ : ∃ o, o = (i - 1) / 2 := ⟨_, rfl⟩
      have hol : o < i := by omega
      have hoe : ((i : Int) - 1) / 2 = (o : Int) := by omega
      obtain ⟨x, hx⟩ : ∃ x, c1[i]? = some x := ⟨_, List.getElem?_eq_getElem (by rw [HR.out.2.2.2.2.2]; exact hil)⟩
      obtain ⟨y, hy⟩ : ∃ y, c1[o]? = some y := ⟨_, List.getElem?_eq_getElem (by rw [HR.out.2.2.2.2.2]; omega)⟩
      have hah := ahead_any HF.out (by rw [HR.out.2.2.2.2.2]; exact HR.out.2.2.1) HR.out.2.2.2.1 i o x y hx hy
      have HXY : Hid (c1[i]? = some x ∧ c1[o]? = some y ∧ o = (i - 1) / 2) := ⟨hx, hy, ho⟩
      clear hx hy ho
      go_wp2_with fail
      refine hah.mono ?_
      rintro e9 w1 ⟨rfl, hst⟩
      have HS : Hid (Stay wr w1) := hst
      clear hah hst
      cases hlt : ahd cf x y with
      | false =>
        have HL : Hid (ahd cf x y = false) := hlt
        clear hlt
        go_wp2
        (try simp only [Exit.inBlock, Exit.then]); refine bodyPost_ret (results_none rfl _ _ _) rfl ?_
        exact ⟨rfl, c1, HR.out.1, up_done HR.out.2.1 HXY.out.1 (HXY.out.2.2 ▸ HXY.out.2.1) HL.out, HR.out.2.2.1.stay HS.out, HR.out.2.2.2.1.stay HS.out, HR.out.2.2.2.2.1.trans (Turn.of_stay HS.out)⟩
      | true =>
        have HL : Hid (ahd cf x y = true) := hlt
        clear hlt
        have hio : o ≠ i := by omega
        have HC1 : Hid (Came w1 g cap c1) := HR.out.2.2.2.1.stay HS.out
        have k1 := (HR.out.2.2.1.stay HS.out).c1
        have li : (i : Int) < (came.length : Int) := by omega
        have lo : (o : Int) < (came.length : Int) := by omega
        have fz := HC1.out.free
        obtain ⟨⟨x1, x2⟩, x3⟩ := x
        obtain ⟨⟨y1, y2⟩, y3⟩ := y
        have d0 : w1.cell? ⟨g, i * 3, none⟩ = some (.int .i64 x1) := HC1.out.cell i _ HXY.out.1 0 (by decide)
        have d1 : w1.cell? ⟨g, i * 3 + 1, none⟩ = some (.int .i64 x2) := HC1.out.cell i _ HXY.out.1 1 (by decide)
        have d2 : w1.cell? ⟨g, i * 3 + 2, none⟩ = some (.int .i64 (x3 : Int)) := HC1.out.cell i _ HXY.out.1 2 (by decide)
        have e0 : w1.cell? ⟨g, o * 3, none⟩ = some (.int .i64 y1) := HC1.out.cell o _ HXY.out.2.1 0 (by decide)
        have e1 : w1.cell? ⟨g, o * 3 + 1, none⟩ = some (.int .i64 y2) := HC1.out.cell o _ HXY.out.2.1 1 (by decide)
        have e2 : w1.cell? ⟨g, o * 3 + 2, none⟩ = some (.int .i64 (y3 : Int)) := HC1.out.cell o _ HXY.out.2.1 2 (by decide)
        have n1 : ¬ o * 3 = i * 3 := by omega
        have n2 : ¬ o * 3 = i * 3 + 1 := by omega
        have n3 : ¬ o * 3 = i * 3 + 2 := by omega
        have n4 : ¬ o * 3 + 1 = i * 3 := by omega
        have n5 : ¬ o * 3 + 1 = i * 3 + 1 := by omega
        have n6 : ¬ o * 3 + 1 = i * 3 + 2 := by omega
        have n7 : ¬ o * 3 + 2 = i * 3 := by omega
        have n8 : ¬ o * 3 + 2 = i * 3 + 1 := by omega
        have n9 : ¬ o * 3 + 2 = i * 3 + 2 := by omega
        go_wp2_with fail
        go_region
        go_wp2
        obtain ⟨s1, s2, s3⟩ := swap_hp (HR.out.2.2.1.stay HS.out) HC1.out HXY.out.1 HXY.out.2.1 hio
        exact ⟨⟨o, swapL c1 i o _ _, rfl, by omega, (swap_perm HXY.out.1 HXY.out.2.1).trans HR.out.1, HXY.out.2.2 ▸ up_step (ahd_ok HF.out) HR.out.2.1 hi0 HXY.out.1 (HXY.out.2.2 ▸ HXY.out.2.1) HL.out, s1, s2, (HR.out.2.2.2.2.1.trans (Turn.of_stay HS.out)).trans s3⟩, by simp [intOf]; omega⟩
    · have hi1 : ¬ (0 : Int) < (i : Int) := by omega
      obtain rfl : i = 0 := by omega
      go_wp2
      go_end0
      exact ⟨rfl, c1, HR.out.1, up_zero HR.out.2.1, HR.out.2.2.1, HR.out.2.2.2.1, HR.out.2.2.2.2.1⟩
end
end Go.Proofs.Ytnmaldgmlkcliaa.HT
namespace Go.Proofs.Ytnmaldgmlkcliaa.HT
open Go.RowKit Go.Maps Go.Shelf Go.Sort Go.Proofs.Ytnmaldgmlkcliaa

section
variable {w : World} {hb g cap turns : Nat} {came : List E} {fv v : Value} {cf : (Int × Int) → (Int × Int) → Int}

set_option maxRecDepth 100000 in
set_option maxHeartbeats 4000000 in
theorem sink_any (hf : Fv fv cf) (h : Hp w hb fv (.slice (some ⟨g, 0, none⟩) came.length cap) turns came) (hC : Came w g cap came) (hD : Down (ahd cf) came 0) (hsz : came.length ≤ 1152921504606846976) :
    Calls Try.prog 38 #[.pointer (some ⟨hb, 0, none⟩), .int .i64 0] w fun e w' => e = .returned (.tuple #[]) ∧ ∃ came', came'.Perm came ∧ IsHeap (ahd cf) came' ∧ Hp w' hb fv (.slice (some ⟨g, 0, none⟩) came.length cap) turns came' ∧ Came w' g cap came' ∧ Turn (fun k => k = g) w w' := by
  have hgb : g ≠ hb := by have := h.two; simpa [Value.ownBlock] using this
  have HF : Hid (Fv fv cf) := hf
  have H0 : Hid (Hp w hb fv (.slice (some ⟨g, 0, none⟩) came.length cap) turns came ∧ Came w g cap came ∧ Down (ahd cf) came 0) := ⟨h, hC, hD⟩
  clear hf h hC hD
  go_enter Try.func38, Try.ntmps38
  go_wp2
  go_loopw [1] (fun vi wr => ∃ (i : Nat) (c1 : List E), vi = .int .i64 (i : Int) ∧ (i < came.length ∨ i = 0) ∧ c1.Perm came ∧ Down (ahd cf) c1 i ∧ Hp wr hb fv (.slice (some ⟨g, 0, none⟩) came.length cap) turns c1 ∧ Came wr g cap c1 ∧ Turn (fun k => k = g) w wr) (fun vi _ => came.length - (intOf vi).toNat)
  case atStart => exact ⟨0, came, rfl, .inr rfl, List.Perm.refl _, H0.out.2.2, H0.out.1, H0.out.2.1, Turn.refl _ _⟩
  case round =>
    obtain ⟨i, c1, rfl, hil, hp, hD, hH, hC, hT⟩ := hrel
    have hlen : c1.length = came.length := hp.length_eq
    have HR : Hid (c1.Perm came ∧ Down (ahd cf) c1 i ∧ Hp wr hb fv (.slice (some ⟨g, 0, none⟩) came.length cap) turns c1 ∧ Came wr g cap c1 ∧ Turn (fun k => k = g) w wr ∧ c1.length = came.length) := ⟨hp, hD, hH, hC, hT, hlen⟩
    have hi60 : (i : Int) ≤ 1152921504606846976 := by omega
    clear hp hD hH hC hT hlen
    rename World => W1
    go_wp2
    go_loopw [4, 5] (fun vf vu wr => ∃ (f u : Nat), vf = .int .i64 (f : Int) ∧ vu = .int .i64 (u : Int) ∧ 2 * i + 1 ≤ u ∧ u ≤ 2 * i + 3 ∧ (f = i ∨ f < came.length ∧ f ≤ 2 * i + 2) ∧ Least3 (ahd cf) c1 i u f ∧ Stay W1 wr) (fun _ vu _ => 2 * i + 3 - (intOf vu).toNat)
    case atStart => exact ⟨i, 2 * i + 1, rfl, by go_num, Nat.le_refl _, by omega, .inl rfl, least_start (ahd_ok HF.out) c1 i, Stay.refl _⟩
    case round =>
      obtain ⟨f, u, rfl, rfl, hu1, hu2, hfl, hL3, hst⟩ := hrel
      have HS : Hid (Stay W1 wr) := hst
      have HH2 : Hid (Hp wr hb fv (.slice (some ⟨g, 0, none⟩) came.length cap) turns c1) := HR.out.2.2.1.stay hst
      have HC2 : Hid (Came wr g cap c1) := HR.out.2.2.2.1.stay hst
      have HL3 : Hid (Least3 (ahd cf) c1 i u f) := hL3
      have k1 := HH2.out.c1
      clear hst hL3
      by_cases hc : u ≤ 2 * i + 2 ∧ u < came.length
      · have q1 : (u : Int) ≤ 2 * (i : Int) + 2 := by omega
        have q2 : (u : Int) < (came.length : Int) := by omega
        have hpu : (u - 1) / 2 = i := by omega
        obtain ⟨x, hx⟩ : ∃ x, c1[u]? = some x := ⟨_, List.getElem?_eq_getElem (by rw [HR.out.2.2.2.2.2]; exact hc.2)⟩
        obtain ⟨y, hy⟩ : ∃ y, c1[f]? = some y := ⟨_, List.getElem?_eq_getElem (by rw [HR.out.2.2.2.2.2]; omega)⟩
        have hah := ahead_any HF.out (by rw [HR.out.2.2.2.2.2]; exact HH2.out) HC2.out u f x y hx hy
        have HXY : Hid (c1[u]? = some x ∧ c1[f]? = some y) := ⟨hx, hy⟩
        clear hx hy
        go_wp2_with fail
        refine hah.mono ?_
        rintro e9 w2 ⟨rfl, hst⟩
        have HS2 : Hid (Stay wr w2) := hst
        clear hah hst
        cases hlt : ahd cf x y with
        | false =>
          have HL : Hid (ahd cf x y = false) := hlt
          clear hlt
          go_wp2
          go_roundw
          case rel => exact ⟨f, u + 1, rfl, by go_num, by omega, by omega, hfl, least_same HL3.out hpu (by omega) HXY.out.1 HXY.out.2 HL.out, HS.out.trans HS2.out⟩
          case measure => simp [intOf]; omega
        | true =>
          have HL : Hid (ahd cf x y = true) := hlt
          clear hlt
          go_wp2
          go_roundw
          case rel => exact ⟨u, u + 1, rfl, by go_num, by omega, by omega, .inr ⟨hc.2, hc.1⟩, least_less (ahd_ok HF.out) HL3.out hpu (by omega) HXY.out.1 HXY.out.2 HL.out, HS.out.trans HS2.out⟩
          case measure => simp [intOf]; omega
      · have hlast : ∀ k, (k - 1) / 2 = i → 0 < k → k < c1.length → k < u := fun k h1 h2 h3 => by rw [HR.out.2.2.2.2.2] at h3; omega
        have HLA : Hid (∀ k, (k - 1) / 2 = i → 0 < k → k < c1.length → k < u) := hlast
        clear hlast
        by_cases hfi : f = i
        · obtain rfl : f = i := hfi
          by_cases q1 : (u : Int) ≤ 2 * (f : Int) + 2
          all_goals
            try have q2 : ¬ (u : Int) < (came.length : Int) := by omega
            go_wp2
            (try simp only [Exit.inBlock, Exit.then]); refine bodyPost_ret (results_none rfl _ _ _) rfl ?_
            exact ⟨rfl, c1, HR.out.1, down_done HR.out.2.1 HL3.out HLA.out, HH2.out, HC2.out, HR.out.2.2.2.2.1.trans (Turn.of_stay HS.out)⟩
        · have hfb : ((f : Int) == (i : Int)) = false := by rw [beq_eq_false_iff_ne]; omega
          have hfl2 : f < came.length ∧ f ≤ 2 * i + 2 := by omega
          have hfgt : i < f := by rcases HL3.out.1 with h | h <;> omega
          have hil2 : i < came.length := by omega
          have li : (i : Int) < (came.length : Int) := by omega
          have lf : (f : Int) < (came.length : Int) := by omega
          obtain ⟨x, hx⟩ : ∃ x, c1[i]? = some x := ⟨_, List.getElem?_eq_getElem (by rw [HR.out.2.2.2.2.2]; exact hil2)⟩
          obtain ⟨y, hy⟩ : ∃ y, c1[f]? = some y := ⟨_, List.getElem?_eq_getElem (by rw [HR.out.2.2.2.2.2]; exact hfl2.1)⟩
          have HXY : Hid (c1[i]? = some x ∧ c1[f]? = some y) := ⟨hx, hy⟩
          clear hx hy
          have fz := HC2.out.free
          have lc := HC2.out.len
          unfold maxLen at lc
          obtain ⟨⟨x1, x2⟩, x3⟩ := x
          obtain ⟨⟨y1, y2⟩, y3⟩ := y
          have d0 : wr.cell? ⟨g, i * 3, none⟩ = some (.int .i64 x1) := HC2.out.cell i _ HXY.out.1 0 (by decide)
          have d1 : wr.cell? ⟨g, i * 3 + 1, none⟩ = some (.int .i64 x2) := HC2.out.cell i _ HXY.out.1 1 (by decide)
          have d2 : wr.cell? ⟨g, i * 3 + 2, none⟩ = some (.int .i64 (x3 : Int)) := HC2.out.cell i _ HXY.out.1 2 (by decide)
          have e0 : wr.cell? ⟨g, f * 3, none⟩ = some (.int .i64 y1) := HC2.out.cell f _ HXY.out.2 0 (by decide)
          have e1 : wr.cell? ⟨g, f * 3 + 1, none⟩ = some (.int .i64 y2) := HC2.out.cell f _ HXY.out.2 1 (by decide)
          have e2 : wr.cell? ⟨g, f * 3 + 2, none⟩ = some (.int .i64 (y3 : Int)) := HC2.out.cell f _ HXY.out.2 2 (by decide)
          have n00 : ¬ f * 3 = i * 3 := by omega
          have n01 : ¬ f * 3 = i * 3 + 1 := by omega
          have n02 : ¬ f * 3 = i * 3 + 2 := by omega
          have n10 : ¬ f * 3 + 1 = i * 3 := by omega
          have n11 : ¬ f * 3 + 1 = i * 3 + 1 := by omega
          have n12 : ¬ f * 3 + 1 = i * 3 + 2 := by omega
          have n20 : ¬ f * 3 + 2 = i * 3 := by omega
          have n21 : ¬ f * 3 + 2 = i * 3 + 1 := by omega
          have n22 : ¬ f * 3 + 2 = i * 3 + 2 := by omega
          by_cases q1 : (u : Int) ≤ 2 * (i : Int) + 2
          all_goals
            try have q2 : ¬ (u : Int) < (came.length : Int) := by omega
            go_wp2_with fail
            go_region
            go_wp2
            obtain ⟨s1, s2, s3⟩ := swap_hp HH2.out HC2.out HXY.out.1 HXY.out.2 hfi
            exact ⟨⟨f, swapL c1 i f _ _, rfl, .inl hfl2.1, (swap_perm HXY.out.1 HXY.out.2).trans HR.out.1, down_step HR.out.2.1 HL3.out hfi HLA.out HXY.out.1 HXY.out.2, s1, s2, (HR.out.2.2.2.2.1.trans (Turn.of_stay HS.out)).trans s3⟩, by simp [intOf]; omega⟩
end
end Go.Proofs.Ytnmaldgmlkcliaa.HT
namespace Go.Proofs.Ytnmaldgmlkcliaa.HT
open Go.RowKit Go.Maps Go.Shelf Go.Sort Go.Proofs.Ytnmaldgmlkcliaa

theorem infoEnt : (Try.prog.info? 69).map (fun i => (i.zero, i.size, i.bytes)) = some (some (.agg #[.int .i64 0, .int .i64 0, .int .i64 0]), 3, 24) := by kernel_rfl

/-- An append to a list of one's own, as one step of a region that draws its order. -/
theorem step_append_own {P : Program} {ops : Array Oper} {o : Oper} {a : Act} {w : World} {K : Act → World → Prop} {Q : Exit → Act → World → Prop} {X : Prop}
    (hg : o.guard = none) (s x : Operand) (t : TypeId) (hop : o.op = Op.call { callee := Callee.builtin Builtin.append, args := #[s, x], argTypes := #[t, t] }) (base : Nat)
    (e : TypeId) (i : TypeInfo) (z : Value) (size bytes : Nat) (h1 : P.underlying t = some (.slice e)) (h2 : P.info? e = some i) (h3 : i.zero = some z) (h4 : i.size = size) (h5 : i.bytes = bytes) (h6 : z.cells.size = size) (h7 : 0 < size)
    (v : Value) (n : Nat) (xs : List Value) (hs : a.eval s = v) (hown : w.ownsRow base e size v n xs)
    (ad : Addr) (m c : Nat) (news : List Value) (hx : a.eval x = .slice (some ad) m c) (hn : news.length = m * size) (hc : ∀ j u, news[j]? = some u → w.cell? (ad.add j) = some u) (h1c : ∀ u ∈ news, u.oneCell' = true)
    (b1 : n + m ≤ maxLen) (b2 : (n + m) * bytes ≤ 140737488355328) (hbase : base ≤ w.heap.size)
    (hK : ∀ v' w', w'.ownsRow base e size v' (n + m) (xs ++ news) → w.grownBy w' v.ownBlock → (v' = .slice none 0 0 ↔ v = .slice none 0 0 ∧ m = 0) → (v'.ownBlock = v.ownBlock ∨ v'.ownBlock = some w.heap.size) → K (a.put o.dst v') w') :
    if Region.wanted o (yielded ops a.tmps) = true then Oper.wp P o a w K Q else X := by
  have hw : Region.wanted o (yielded ops a.tmps) = true := by simp [Region.wanted, hg]
  rw [if_pos hw]
  obtain ⟨v', w', hrun, r1, r2, r3, r4⟩ := run_append_own_at (P := P) w base t o.type e i z size bytes h1 h2 h3 h4 h5 h6 h7 v n xs hown ad m c news hn hc h1c b1 b2 hbase
  unfold Oper.wp
  simp [execOp, hop, resolve, invoke, builtin, hs, hx, hrun, Result.andThen]
  exact hK v' w' r1 r2 r3 r4

section
variable {w : World} {hb g cap turns : Nat} {came : List E} {fv v : Value} {cf : (Int × Int) → (Int × Int) → Int}

/-- Behind the append: the heap with one more at its end. -/
theorem app_hp (h : Hp w hb fv v turns came) (e0 : E) {W v' w2} (hs : Stay w W) (hown : World.ownsRow w2 0 69 3 v' (came.length + 1) (flat came ++ encE e0)) (hgrow : W.grownBy w2 v.ownBlock)
    (hnil : v' = .slice none 0 0 ↔ v = .slice none 0 0 ∧ 1 = 0) (hloc : v'.ownBlock = v.ownBlock ∨ v'.ownBlock = some W.heap.size) :
    ∃ g cap, v' = .slice (some ⟨g, 0, none⟩) (came.length + 1) cap ∧ w2.cell? ⟨hb, 1, none⟩ = some v ∧ w2.frozen? ⟨hb, 1, none⟩ = false ∧ Hp (w2.setCell ⟨hb, 1, none⟩ (.slice (some ⟨g, 0, none⟩) (came.length + 1) cap)) hb fv (.slice (some ⟨g, 0, none⟩) (came.length + 1) cap) turns (came ++ [e0]) ∧
      Came (w2.setCell ⟨hb, 1, none⟩ (.slice (some ⟨g, 0, none⟩) (came.length + 1) cap)) g cap (came ++ [e0]) ∧ Turn (foot hb v) w (w2.setCell ⟨hb, 1, none⟩ (.slice (some ⟨g, 0, none⟩) (came.length + 1) cap)) ∧ (v.ownBlock = some g ∨ w.heap.size ≤ g) := by
  have hfl : flat came ++ encE e0 = flat (came ++ [e0]) := by rw [flat_append]; simp [flat]
  rw [hfl, show came.length + 1 = (came ++ [e0]).length by simp] at hown
  obtain ⟨g, cap, rfl, hC⟩ := Row.of_owns hown (fun e => by have := (hnil.1 e).2; omega)
  have hT1 : Turn (foot hb v) w W := Turn.of_stay hs
  have hT2 : Turn (foot hb v) w w2 := ⟨hgrow.os.trans hT1.os, hgrow.tape.trans hT1.tape, hgrow.output.trans hT1.output, Nat.le_trans hT1.size hgrow.size, fun k hk hn =>
    (hgrow.block k (Nat.lt_of_lt_of_le hk hT1.size) (fun e => hn (.inr e.symm))).trans (hT1.block k hk hn)⟩
  have hblt := h.lt hb (.inl rfl)
  have hsz := hs.size
  have hbb : w2.heap[hb]? = w.heap[hb]? := (hgrow.block hb (by omega) (fun e => h.two e.symm)).trans (hs.block hb hblt)
  have hbox := hbb.trans h.box
  have hg : v.ownBlock = some g ∨ w.heap.size ≤ g := by
    rcases hloc with h1 | h1
    · exact .inl h1.symm
    · right; simp only [Value.ownBlock, Option.some.injEq] at h1; omega
  have hgb : g ≠ hb := by
    rintro rfl
    rcases hg with h1 | h1
    · exact h.two h1
    · omega
  have hC2 := hC.storeOther hb 1 (.slice (some ⟨g, 0, none⟩) (came.length + 1) cap) hgb
  refine ⟨g, cap, by simp, by simp [World.cell?, hbox], by simp [World.frozen?, hbox], ⟨?_, .inr ⟨g, cap, by simp, hC2⟩, by simp [Value.ownBlock, hgb]⟩, hC2, hT2.set (.inl rfl) _ _, hg⟩
  rw [heap_setCell_same _ _ _ _ _ _ hbox]
  simp

theorem Hp.count (h : Hp w hb fv v turns came) : Hp (w.setCell ⟨hb, 2, none⟩ (.int .i64 ((turns : Int) + 1))) hb fv v (turns + 1) came := by
  refine ⟨?_, ?_, h.two⟩
  · rw [heap_setCell_same _ _ _ _ _ _ h.box]; simp
  · rcases h.row with h1 | ⟨g, cap, hv, hC⟩
    · exact .inl h1
    · refine .inr ⟨g, cap, hv, hC.storeOther hb 2 _ ?_⟩
      have := h.two
      rw [hv] at this
      simpa [Value.ownBlock] using this

set_option maxRecDepth 100000 in
set_option maxHeartbeats 4000000 in
theorem push_any (hf : Fv fv cf) (h : Hp w hb fv v turns came) (hh : IsHeap (ahd cf) came) (x : Int × Int) (hsz : (came.length + 1) * 24 ≤ 140737488355328) (htn : turns ≤ 140737488355328) :
    Calls Try.prog 17 #[.pointer (some ⟨hb, 0, none⟩), .agg #[.int .i64 x.1, .int .i64 x.2]] w fun e w' => e = .returned (.tuple #[]) ∧ ∃ v' came', came'.Perm (came ++ [(x, turns)]) ∧ IsHeap (ahd cf) came' ∧ Hp w' hb fv v' (turns + 1) came' ∧ Turn (foot hb v) w w' ∧ (∀ k, foot hb v' k → foot hb v k ∨ w.heap.size ≤ k) := by
  obtain ⟨x1, x2⟩ := x
  dsimp only
  obtain ⟨i0, hi, hz0, hz1, hz2⟩ := info_parts infoEnt
  obtain ⟨va, vc, rfl⟩ := h.row.form
  have h63 : came.length + 1 ≤ maxLen := by unfold maxLen; omega
  have HF : Hid (IsHeap (ahd cf) came ∧ Fv fv cf) := ⟨hh, hf⟩
  have HW0' : Hid (Stay w (w.alloc (.cells #[.int .i64 x1, .int .i64 x2] 26)) ∧ Hp (w.alloc (.cells #[.int .i64 x1, .int .i64 x2] 26)) hb fv (.slice va came.length vc) turns came) := ⟨Stay.new _ _, h.stay (Stay.new _ _)⟩
  have b0 : (w.alloc (.cells #[.int .i64 x1, .int .i64 x2] 26)).cell? ⟨w.heap.size, 0, none⟩ = some (.int .i64 x1) := by simp
  have b1 : (w.alloc (.cells #[.int .i64 x1, .int .i64 x2] 26)).cell? ⟨w.heap.size, 1, none⟩ = some (.int .i64 x2) := by simp
  clear h hh hf
  go_enter Try.func17, Try.ntmps17
  go_wp2_with fail
  generalize hWW : w.alloc (.cells #[.int .i64 x1, .int .i64 x2] 26) = W0 at HW0' b0 b1 ⊢
  have HW0 : Hid (Stay w W0 ∧ Hp W0 hb fv (.slice va came.length vc) turns came ∧ w.alloc (.cells #[.int .i64 x1, .int .i64 x2] 26) = W0) := ⟨HW0'.out.1, HW0'.out.2, hWW⟩
  have k1 := HW0'.out.2.c1
  have k2 := HW0'.out.2.c2
  have hbl := HW0'.out.2.lt hb (.inl rfl)
  clear hWW HW0'
  go_region_law (refine step_append_own rfl (.tmp 10) (.tmp 17) 65 rfl 0 69 i0 _ 3 24 Try.underlying65 hi hz0 hz1 hz2 rfl (by decide) (.slice va came.length vc) came.length (flat came) (by simp [Act.eval]) (by first | exact ((HW0.out.2.1.row.turn (S := fun _ => False) (Turn.of_stay ((Stay.new _ _).trans (Stay.drew _))) (fun _ _ => id)).owns) | exact ((HW0.out.2.1.row.turn (S := fun _ => False) (Turn.of_stay ((Stay.drew _).alloc _)) (fun _ _ => id)).owns)) ⟨W0.heap.size, 0, none⟩ 1 1 [.int .i64 x1, .int .i64 x2, .int .i64 (turns : Int)] (by simp [Act.eval]) rfl (by exact new_cells W0 [.int .i64 x1, .int .i64 x2, .int .i64 (turns : Int)] 69) (by simp [Value.oneCell']) h63 hsz (Nat.zero_le _) ?_; intro v' w2 hown2 hgrow hnil hloc; obtain ⟨g, cap, rfl, d1, f1, hH3, hC3, hT3, hg3⟩ := app_hp HW0.out.2.1 ((x1, x2), turns) (by first | exact (Stay.new _ _).trans (Stay.drew _) | exact (Stay.drew _).alloc _) hown2 hgrow hnil hloc; have H3 : Hid _ := And.intro hH3 (And.intro hC3 (And.intro hT3 hg3)); clear hown2 hgrow hnil hloc hH3 hC3 hT3 hg3)
  all_goals
    have k3 := H3.out.1.c1
    have k4 := H3.out.1.c2
    have k5 := H3.out.1.free 2
    have hgb : g ≠ hb := by have := H3.out.1.two; simpa [Value.ownBlock] using this
    have HR : Hid (Hp ((w2.setCell ⟨hb, 1, none⟩ (.slice (some ⟨g, 0, none⟩) (came.length + 1) cap)).setCell ⟨hb, 2, none⟩ (.int .i64 ((turns : Int) + 1))) hb fv (.slice (some ⟨g, 0, none⟩) (came.length + 1) cap) (turns + 1) (came ++ [((x1, x2), turns)]) ∧ Came ((w2.setCell ⟨hb, 1, none⟩ (.slice (some ⟨g, 0, none⟩) (came.length + 1) cap)).setCell ⟨hb, 2, none⟩ (.int .i64 ((turns : Int) + 1))) g cap (came ++ [((x1, x2), turns)]) ∧ Turn (foot hb (.slice va came.length vc)) W0 ((w2.setCell ⟨hb, 1, none⟩ (.slice (some ⟨g, 0, none⟩) (came.length + 1) cap)).setCell ⟨hb, 2, none⟩ (.int .i64 ((turns : Int) + 1)))) :=
      ⟨H3.out.1.count, H3.out.2.1.storeOther hb 2 _ hgb, H3.out.2.2.1.set (.inl rfl) _ _⟩
    generalize w2.setCell ⟨hb, 1, none⟩ (.slice (some ⟨g, 0, none⟩) (came.length + 1) cap) = W3 at H3 HR k3 k4 k5 ⊢
    have hr := rise_any HF.out.2 (by rw [List.length_append, List.length_singleton]; exact HR.out.1) HR.out.2.1 came.length (by simp) (up_start HF.out.1)
    rw [List.length_append, List.length_singleton] at hr
    go_wp2_with fail
    refine hr.mono ?_
    rintro e9 w5 ⟨rfl, came', hp, hh, hH, hC, hT⟩
    have H5 : Hid _ := And.intro hp (And.intro hh (And.intro hH hT))
    clear hp hh hH hC hT hr
    go_wp2
    go_end0
    refine ⟨rfl, _, came', H5.out.1, H5.out.2.1, H5.out.2.2.1, ?_, ?_⟩
    · refine Turn.then (Turn.of_stay HW0.out.1) (HR.out.2.2.then H5.out.2.2.2 ?_) ?_
      · intro k hk e
        subst e
        rcases H3.out.2.2.2 with h1 | h1
        · exact .inr h1
        · omega
      · intro k _ hk
        exact hk
    · rintro k (rfl | hk)
      · exact .inl (.inl rfl)
      · simp only [Value.ownBlock, Option.some.injEq] at hk
        subst hk
        rcases H3.out.2.2.2 with h1 | h1
        · exact .inl (.inr h1)
        · exact .inr (Nat.le_trans HW0.out.1.size h1)
end
end Go.Proofs.Ytnmaldgmlkcliaa.HT
namespace Go.Proofs.Ytnmaldgmlkcliaa.HT
open Go.RowKit Go.Maps Go.Shelf Go.Sort Go.Proofs.Ytnmaldgmlkcliaa

section
variable {w : World} {hb g cap turns : Nat} {came : List E} {fv v : Value} {cf : (Int × Int) → (Int × Int) → Int}

theorem pop_none (h : Hp w hb fv v turns []) : Calls Try.prog 20 #[.pointer (some ⟨hb, 0, none⟩)] w fun e w' => e = .returned (.tuple #[.agg #[.int .i64 0, .int .i64 0], .bool false]) ∧ Stay w w' := by
  have hl := fun (W : World) (hW : Stay w W) => peek_none (h.stay hW)
  go_enter Try.func20, Try.ntmps20
  go_wp2_with fail
  have hz := hl _ (Stay.new w (.cells #[.int .i64 0, .int .i64 0] 26))
  refine hz.mono ?_
  rintro e w9 ⟨rfl, hw⟩
  have HW : Hid (Stay w w9) := (Stay.new _ _).trans hw
  have hBk : w9.heap[w.heap.size]? = some (.cells #[.int .i64 0, .int .i64 0] 26 (0, 0)) := (hw.block w.heap.size (by simp)).trans (heap_alloc_new _ _)
  obtain ⟨B, hB⟩ : ∃ B, B = w.heap.size := ⟨_, rfl⟩
  rw [← hB] at hBk ⊢
  have q0 : w9.cell? ⟨B, 0, none⟩ = some (.int .i64 0) := by simp [World.cell?, hBk]
  have q1 : w9.cell? ⟨B, 1, none⟩ = some (.int .i64 0) := by simp [World.cell?, hBk]
  have f0 : w9.frozen? ⟨B, 0, none⟩ = false := by simp [World.frozen?, hBk]
  have f1 : w9.frozen? ⟨B, 1, none⟩ = false := by simp [World.frozen?, hBk]
  have hlt : B < w9.heap.size := (Array.getElem?_eq_some_iff.1 hBk).1
  have HB : Hid (w.heap.size ≤ B) := by show w.heap.size ≤ B; omega
  clear hw hz hBk hB
  go_wp2
  refine bodyPost_ret (v := .tuple #[.agg #[.int .i64 0, .int .i64 0], .bool false]) (by simp [results, Try.results20, go_sem, q0, q1, hlt]) rfl ⟨rfl, ?_⟩
  exact Stay.alloc (Turn.stay ((Turn.set (S := fun k => k = B) (Turn.refl _ w9) rfl 0 _).set rfl 1 _) HW.out (fun k hk e => by have := HB.out; omega)) _

/-- The first goes out, the last comes in its place. -/
theorem pop_perm {α : Type} {l : List α} {a b : α} {n : Nat} (hn : l.length = n + 1) (ha : l[0]? = some a) (hb : l[n]? = some b) : (a :: (l.set 0 b).take n).Perm l := by
  cases l with
  | nil => simp at hn
  | cons x t =>
    simp at ha hn
    subst ha
    cases n with
    | zero =>
      have : t = [] := List.eq_nil_of_length_eq_zero hn
      subst this
      simp
    | succ n =>
      simp only [List.set_cons_zero, List.take_succ_cons]
      have e : t = t.take n ++ [b] := by
        conv => lhs; rw [← List.take_append_drop n t]
        congr 1
        have h1 : n < t.length := by omega
        rw [List.drop_eq_getElem_cons h1, List.drop_of_length_le (by omega)]
        simp at hb
        rw [List.getElem?_eq_getElem h1] at hb
        simpa using hb
      conv => rhs; rw [e]
      exact List.Perm.cons _ ((List.perm_append_comm (l₁ := [b]) (l₂ := t.take n)))
theorem Hp.len {n c : Nat} {a : Option Addr} (h : Hp w hb fv (.slice a n c) turns came) : n = came.length := by
  rcases h.row with ⟨h1, h2⟩ | ⟨g', c', h1, _⟩
  · simp at h1; simp [h1, h2]
  · simp at h1; exact h1.2.1

theorem cut_hp {c2 : List E} {n : Nat} {z : E} (h : Hp w hb fv (.slice (some ⟨g, 0, none⟩) (n + 1) cap) turns c2) (hC : Came w g cap c2) (hn : c2.length = n + 1) (hz : c2[n]? = some z) :
    Hp ((stored w g n ((0, 0), 0)).setCell ⟨hb, 1, none⟩ (.slice (some ⟨g, 0, none⟩) n cap)) hb fv (.slice (some ⟨g, 0, none⟩) n cap) turns (c2.take n) ∧ Came ((stored w g n ((0, 0), 0)).setCell ⟨hb, 1, none⟩ (.slice (some ⟨g, 0, none⟩) n cap)) g cap (c2.take n) ∧
      Turn (foot hb (.slice (some ⟨g, 0, none⟩) (n + 1) cap)) w ((stored w g n ((0, 0), 0)).setCell ⟨hb, 1, none⟩ (.slice (some ⟨g, 0, none⟩) n cap)) := by
  have hgb : g ≠ hb := by have := h.two; simpa [Value.ownBlock] using this
  have hC1 := hC.store n z ((0, 0), 0) hz
  have hH1 := Hp.store h (by simp [hn]) n ((0, 0), 0) hC1
  have hC2 := hC1.cut n (by simp [hn])
  rw [List.take_set_of_le (Nat.le_refl _)] at hC2
  have hC3 := hC2.storeOther hb 1 (.slice (some ⟨g, 0, none⟩) n cap) hgb
  have hl : (c2.take n).length = n := by simp [hn]
  refine ⟨⟨?_, .inr ⟨g, cap, by rw [hl], hC3⟩, by simp [Value.ownBlock, hgb]⟩, hC3, (stored_turn (Turn.refl _ _) (.inr rfl) _ _).set (.inl rfl) _ _⟩
  rw [heap_setCell_same _ _ _ _ _ _ hH1.box]
  simp

set_option maxRecDepth 100000 in
set_option maxHeartbeats 4000000 in
theorem pop_some (hf : Fv fv cf) (h : Hp w hb fv v turns came) (hh : IsHeap (ahd cf) came) (e : E) (he : came[0]? = some e) (hsz : came.length ≤ 1152921504606846976) :
    Calls Try.prog 20 #[.pointer (some ⟨hb, 0, none⟩)] w fun e' w' => e' = .returned (.tuple #[.agg #[.int .i64 e.1.1, .int .i64 e.1.2], .bool true]) ∧ ∃ v' came', (e :: came').Perm came ∧ IsHeap (ahd cf) came' ∧ Hp w' hb fv v' turns came' ∧ Turn (foot hb v) w w' ∧ (∀ k, foot hb v' k → foot hb v k) := by
  have hpk := fun (W : World) (hW : Stay w W) => peek_some (h.stay hW) e he
  obtain ⟨g, cap, hv, hC⟩ := h.row.at he
  obtain ⟨n, hn⟩ : ∃ n, came.length = n + 1 := ⟨came.length - 1, by have := (List.getElem?_eq_some_iff.1 he).1; omega⟩
  obtain ⟨b, hb'⟩ : ∃ b, came[n]? = some b := ⟨_, List.getElem?_eq_getElem (by omega)⟩
  rw [hn] at hv
  subst hv
  have hgb : g ≠ hb := by have := h.two; simpa [Value.ownBlock] using this
  have hbl := h.lt hb (.inl rfl)
  have hgl := hC.lt
  have lc := hC.len
  rw [hn] at lc hsz
  unfold maxLen at lc
  have ln : (n : Int) < (n : Int) + 1 := by omega
  have lz : (0 : Int) < (n : Int) + 1 := by omega
  have ncap : (n : Int) ≤ (cap : Int) := by omega
  have HH : Hid (Hp w hb fv (.slice (some ⟨g, 0, none⟩) (n + 1) cap) turns came ∧ Came w g cap came ∧ IsHeap (ahd cf) came ∧ Fv fv cf ∧ came[0]? = some e ∧ came[n]? = some b ∧ came.length = n + 1) := ⟨h, hC, hh, hf, he, hb', hn⟩
  clear h hC hh hf he hb' hn
  go_enter Try.func20, Try.ntmps20
  go_wp2_with fail
  have hpk1 := hpk _ (Stay.new w (.cells #[.int .i64 0, .int .i64 0] 26))
  refine hpk1.mono ?_
  rintro e9 w1 ⟨rfl, hst⟩
  obtain ⟨⟨e1, e2⟩, e3⟩ := e
  dsimp only at HH ⊢
  have hBk : w1.heap[w.heap.size]? = some (.cells #[.int .i64 0, .int .i64 0] 26 (0, 0)) := (hst.block w.heap.size (by simp)).trans (heap_alloc_new _ _)
  have hz1 : w.heap.size + 1 ≤ w1.heap.size := by have := hst.size; simpa using this
  have HS0 : Hid (Stay w w1) := (Stay.new _ _).trans hst
  obtain ⟨X1, hX1⟩ : ∃ X1, X1 = w1.alloc (.cells #[.int .i64 e1, .int .i64 e2] 26) := ⟨_, rfl⟩
  obtain ⟨B, hB⟩ : ∃ B, B = w.heap.size := ⟨_, rfl⟩
  obtain ⟨B4, hB4⟩ : ∃ B4, B4 = w1.heap.size := ⟨_, rfl⟩
  have HS : Hid (Stay w X1) := by rw [hX1]; exact HS0.out.alloc _
  have HBX : Hid (X1.heap[B]? = some (.cells #[.int .i64 0, .int .i64 0] 26 (0, 0)) ∧ X1.heap[B4]? = some (.cells #[.int .i64 e1, .int .i64 e2] 26 (0, 0)) ∧ w.heap.size ≤ B ∧ w.heap.size ≤ B4 ∧ B ≠ B4) := by
    rw [hX1, hB, hB4]
    exact ⟨(Below.heap_alloc w1 _ _ (by omega)).trans hBk, heap_alloc_new _ _, Nat.le_refl _, by omega, by omega⟩
  have HH1 : Hid (Hp X1 hb fv (.slice (some ⟨g, 0, none⟩) (n + 1) cap) turns came ∧ Came X1 g cap came) := ⟨HH.out.1.stay HS.out, HH.out.2.1.stay HS.out⟩
  have k1 := HH1.out.1.c1
  have fz := HH1.out.2.free
  have fb := HH1.out.1.free 1
  have hbl1 : hb < X1.heap.size := HH1.out.1.lt hb (.inl rfl)
  have hgl1 := HH1.out.2.lt
  obtain ⟨⟨b1, b2⟩, b3⟩ := b
  have d0 : X1.cell? ⟨g, n * 3, none⟩ = some (.int .i64 b1) := HH1.out.2.cell n _ HH.out.2.2.2.2.2.1 0 (by decide)
  have d1 : X1.cell? ⟨g, n * 3 + 1, none⟩ = some (.int .i64 b2) := HH1.out.2.cell n _ HH.out.2.2.2.2.2.1 1 (by decide)
  have d2 : X1.cell? ⟨g, n * 3 + 2, none⟩ = some (.int .i64 (b3 : Int)) := HH1.out.2.cell n _ HH.out.2.2.2.2.2.1 2 (by decide)
  have c0 : X1.cell? ⟨g, 0, none⟩ = some (.int .i64 e1) := HH1.out.2.cell 0 _ HH.out.2.2.2.2.1 0 (by decide)
  have c1 : X1.cell? ⟨g, 1, none⟩ = some (.int .i64 e2) := HH1.out.2.cell 0 _ HH.out.2.2.2.2.1 1 (by decide)
  have c2 : X1.cell? ⟨g, 2, none⟩ = some (.int .i64 (e3 : Int)) := HH1.out.2.cell 0 _ HH.out.2.2.2.2.1 2 (by decide)
  have k1w := (HH.out.1.stay HS0.out).c1
  have hblw : hb < w1.heap.size := (HH.out.1.stay HS0.out).lt hb (.inl rfl)
  clear hpk hpk1 hst hBk hz1 HS0
  go_wp2_with fail
  rw [← hX1, ← hB, ← hB4]
  clear hX1 hB hB4 k1w hblw
  go_region
  obtain ⟨X2, hX2⟩ : ∃ X, X = (stored X1 g 0 ((b1, b2), b3)).drew := ⟨_, rfl⟩
  change Exit.then _ _ Exit.normal _ (stored X1 g 0 ((b1, b2), b3)).drew
  rw [← hX2]
  have hC2 : Came X2 g cap (came.set 0 ((b1, b2), b3)) := by rw [hX2]; exact (HH1.out.2.store 0 _ ((b1, b2), b3) HH.out.2.2.2.2.1).stay (Stay.drew _)
  have hH2 : Hp X2 hb fv (.slice (some ⟨g, 0, none⟩) (n + 1) cap) turns (came.set 0 ((b1, b2), b3)) := by rw [hX2] at hC2 ⊢; exact (Hp.store HH1.out.1 (by simp [HH.out.2.2.2.2.2.2]) 0 _ (HH1.out.2.store 0 _ ((b1, b2), b3) HH.out.2.2.2.2.1)).stay (Stay.drew _)
  have hT2 : Turn (foot hb (.slice (some ⟨g, 0, none⟩) (n + 1) cap)) X1 X2 := by rw [hX2]; exact (stored_turn (Turn.refl _ _) (.inr rfl) 0 _).trans (Turn.of_stay (Stay.drew _))
  have hnn : (came.set 0 ((b1, b2), b3))[n]? = some ((b1, b2), b3) := by
    rw [List.getElem?_set]
    split
    · rename_i h0; rw [if_pos (by have := HH.out.2.2.2.2.2.2; omega)]
    · exact HH.out.2.2.2.2.2.1
  clear hX2 k1 fz fb d0 d1 d2 c0 c1 c2
  have k1 := hH2.c1
  have fz := hC2.free
  have fb := hH2.free 1
  have d0 : X2.cell? ⟨g, n * 3, none⟩ = some (.int .i64 b1) := hC2.cell n _ hnn 0 (by decide)
  have d1 : X2.cell? ⟨g, n * 3 + 1, none⟩ = some (.int .i64 b2) := hC2.cell n _ hnn 1 (by decide)
  have d2 : X2.cell? ⟨g, n * 3 + 2, none⟩ = some (.int .i64 (b3 : Int)) := hC2.cell n _ hnn 2 (by decide)
  have HX : Hid _ := And.intro hC2 (And.intro hH2 (And.intro hT2 hnn))
  clear hC2 hH2 hT2 hnn
  have hl2 : (came.set 0 ((b1, b2), b3)).length = n + 1 := by simp [HH.out.2.2.2.2.2.2]
  obtain ⟨q1, q2, q3⟩ := cut_hp HX.out.2.1 HX.out.1 hl2 HX.out.2.2.2
  have htl : ((came.set 0 ((b1, b2), b3)).take n).length = n := by simp [HH.out.2.2.2.2.2.2]
  have hdn : Down (ahd cf) ((came.set 0 ((b1, b2), b3)).take n) 0 := down_start HH.out.2.2.1 (fun k hk hkl => by
    rw [htl] at hkl
    rw [List.getElem?_take_of_lt hkl, List.getElem?_set_ne (by omega)])
  have hsk := sink_any HH.out.2.2.2.1 (by rw [htl]; exact q1) q2 hdn (by rw [htl]; omega)
  rw [htl] at hsk
  have HQ : Hid _ := And.intro q1 (And.intro q2 q3)
  have HP : Hid (((((e1, e2), e3) : E) :: (came.set 0 ((b1, b2), b3)).take n).Perm came) := pop_perm HH.out.2.2.2.2.2.2 HH.out.2.2.2.2.1 HH.out.2.2.2.2.2.1
  clear q1 q2 q3 hdn hl2 htl
  go_wp2_with fail
  refine hsk.mono ?_
  rintro e9 w5 ⟨rfl, came', hp, hhp, hH, hC, hT⟩
  have hTX : Turn (foot hb (.slice (some ⟨g, 0, none⟩) (n + 1) cap)) X1 w5 := (HX.out.2.2.1.trans HQ.out.2.2).then hT (fun k _ e => .inr (by rw [e]; rfl))
  have hfar : ∀ k, foot hb (.slice (some ⟨g, 0, none⟩) (n + 1) cap) k → k < w.heap.size := fun k hk => HH.out.1.lt k hk
  have hBk : w5.heap[B]? = some (.cells #[.int .i64 0, .int .i64 0] 26 (0, 0)) := hTX.heap HBX.out.1 (fun h => by have := hfar _ h; have := HBX.out.2.2.1; omega)
  have hB4k : w5.heap[B4]? = some (.cells #[.int .i64 e1, .int .i64 e2] 26 (0, 0)) := hTX.heap HBX.out.2.1 (fun h => by have := hfar _ h; have := HBX.out.2.2.2.1; omega)
  have r0 : w5.cell? ⟨B, 0, none⟩ = some (.int .i64 0) := by simp [World.cell?, hBk]
  have r1 : w5.cell? ⟨B, 1, none⟩ = some (.int .i64 0) := by simp [World.cell?, hBk]
  have rf : ∀ k, w5.frozen? ⟨B, k, none⟩ = false := fun k => by simp [World.frozen?, hBk]
  have s0 : w5.cell? ⟨B4, 0, none⟩ = some (.int .i64 e1) := by simp [World.cell?, hB4k]
  have s1 : w5.cell? ⟨B4, 1, none⟩ = some (.int .i64 e2) := by simp [World.cell?, hB4k]
  have hBb : B ≠ hb := fun h => by have := hbl; have := HBX.out.2.2.1; omega
  have hBg : B ≠ g := fun h => by have := hgl; have := HBX.out.2.2.1; omega
  have HF5 : Hid (Hp ((w5.setCell ⟨B, 0, none⟩ (.int .i64 e1)).setCell ⟨B, 1, none⟩ (.int .i64 e2)) hb fv (.slice (some ⟨g, 0, none⟩) n cap) turns came' ∧ Turn (foot hb (.slice (some ⟨g, 0, none⟩) (n + 1) cap)) w ((w5.setCell ⟨B, 0, none⟩ (.int .i64 e1)).setCell ⟨B, 1, none⟩ (.int .i64 e2))) := by
    have hTB : Turn (fun k => k = B) w5 ((w5.setCell ⟨B, 0, none⟩ (.int .i64 e1)).setCell ⟨B, 1, none⟩ (.int .i64 e2)) := (Turn.set (S := fun k => k = B) (Turn.refl _ w5) rfl 0 _).set rfl 1 _
    refine ⟨hH.turn hTB (fun k hk e => ?_), ((Turn.of_stay HS.out).trans hTX).then hTB (fun k hk e => by have := HBX.out.2.2.1; omega)⟩
    rcases hk with hk | hk
    · exact hBb (e.symm.trans hk)
    · simp only [Value.ownBlock, Option.some.injEq] at hk
      exact hBg (e.symm.trans hk.symm)
  have H5 : Hid _ := And.intro hp hhp
  clear hp hhp hH hC hT hsk hTX hfar hBk hB4k hBb hBg
  go_wp2
  refine bodyPost_ret (v := .tuple #[.agg #[.int .i64 e1, .int .i64 e2], .bool true]) (by simp [results, Try.results20, go_sem, r0, r1]) rfl ⟨rfl, _, came', (List.Perm.cons _ H5.out.1).trans HP.out, H5.out.2, HF5.out.1, HF5.out.2, ?_⟩
  rintro k (rfl | hk)
  · exact .inl rfl
  · exact .inr hk
end
end Go.Proofs.Ytnmaldgmlkcliaa.HT
namespace Go.Proofs.Ytnmaldgmlkcliaa.HT
open Go.RowKit Go.Maps Go.Shelf Go.Sort Go.Proofs.Ytnmaldgmlkcliaa

theorem new_any (g : Nat) (w : World) : Calls Try.prog 16 #[.func (.func g) #[] #[]] w fun e w' => e = .returned (.pointer (some ⟨w.heap.size, 0, none⟩)) ∧ w' = w.alloc (.cells #[.func (.func g) #[] #[], .slice none 0 0, .int .i64 0] 67) := by
  go_enter Try.func16, Try.ntmps16
  go_wp2
  go_ret
  exact ⟨rfl, rfl⟩
theorem new_hp (fv : Value) (w : World) : Hp (w.alloc (.cells #[fv, .slice none 0 0, .int .i64 0] 67)) w.heap.size fv (.slice none 0 0) 0 [] :=
  ⟨heap_alloc_new _ _, .inl ⟨rfl, rfl⟩, by simp [Value.ownBlock]⟩

/-- Behind B a heap lies, in memory that B did not have. -/
structure Held (cf : (Int × Int) → (Int × Int) → Int) (B w : World) (hb : Nat) (fv v : Value) (turns : Nat) (came : List E) : Prop where
  stay : Stay B w
  hp : Hp w hb fv v turns came
  heap : IsHeap (ahd cf) came
  far : ∀ k, foot hb v k → B.heap.size ≤ k

section
variable {B w : World} {hb turns : Nat} {fv v : Value} {came : List E} {cf : (Int × Int) → (Int × Int) → Int}
theorem Held.go {w' : World} (h : Held cf B w hb fv v turns came) (hs : Stay w w') : Held cf B w' hb fv v turns came := ⟨h.stay.trans hs, h.hp.stay hs, h.heap, h.far⟩
theorem held_new (fv : Value) (w : World) : Held cf w (w.alloc (.cells #[fv, .slice none 0 0, .int .i64 0] 67)) w.heap.size fv (.slice none 0 0) 0 [] :=
  ⟨Stay.new _ _, new_hp fv w, fun k x y _ hx => by simp at hx, fun k hk => by rcases hk with rfl | hk; exact Nat.le_refl _; simp [Value.ownBlock] at hk⟩
theorem Held.push (hf : Fv fv cf) (h : Held cf B w hb fv v turns came) (x : Int × Int) (hsz : (came.length + 1) * 24 ≤ 140737488355328) (htn : turns ≤ 140737488355328) :
    Calls Try.prog 17 #[.pointer (some ⟨hb, 0, none⟩), .agg #[.int .i64 x.1, .int .i64 x.2]] w fun e w' => e = .returned (.tuple #[]) ∧ ∃ v' came', came'.Perm (came ++ [(x, turns)]) ∧ Held cf B w' hb fv v' (turns + 1) came' :=
  (push_any hf h.hp h.heap x hsz htn).mono fun _ _ ⟨he, v', came', hp, hh, hH, hT, hF⟩ => ⟨he, v', came', hp, hT.stay h.stay (fun k hk hf => by have := h.far k hf; omega), hH, hh, fun k hk => by
    rcases hF k hk with h1 | h1
    · exact h.far k h1
    · exact Nat.le_trans h.stay.size h1⟩
theorem Held.pop (hf : Fv fv cf) (h : Held cf B w hb fv v turns came) (e : E) (he : came[0]? = some e) (hsz : came.length ≤ 1152921504606846976) :
    Calls Try.prog 20 #[.pointer (some ⟨hb, 0, none⟩)] w fun e' w' => e' = .returned (.tuple #[.agg #[.int .i64 e.1.1, .int .i64 e.1.2], .bool true]) ∧ ∃ v' came', (e :: came').Perm came ∧ Held cf B w' hb fv v' turns came' :=
  (pop_some hf h.hp h.heap e he hsz).mono fun _ _ ⟨he, v', came', hp, hh, hH, hT, hF⟩ => ⟨he, v', came', hp, hT.stay h.stay (fun k hk hf => by have := h.far k hf; omega), hH, hh, fun k hk => h.far k (hF k hk)⟩
end
end Go.Proofs.Ytnmaldgmlkcliaa.HT
