/- Heaps: Len, Peek, rise. -/
import Derived.Test.YtnmaldgmlkcliaaHBH
namespace Go.Proofs.Ytnmaldgmlkcliaa.HH
open Go.RowKit Go.Maps Go.Shelf Go.Sort Go.Proofs.Ytnmaldgmlkcliaa

section
variable {w : World} {hb g cap turns : Nat} {came : List E} {fv v : Value} {cf : (Hd) → (Hd) → Int}

theorem Row.form (h : Row w v came) : ∃ a c, v = .slice a came.length c := by
  rcases h with ⟨rfl, rfl⟩ | ⟨g, cap, rfl, _⟩
  · exact ⟨_, _, rfl⟩
  · exact ⟨_, _, rfl⟩
theorem len_any (h : Hp w hb fv v turns came) : Calls Try.prog 53 #[.pointer (some ⟨hb, 0, none⟩)] w fun e w' => e = .returned (.int .i64 (came.length : Int)) ∧ w' = w := by
  obtain ⟨a, c, rfl⟩ := h.row.form
  have c1 := h.c1
  clear h
  go_enter Try.func53, Try.ntmps53
  go_wp2
  go_ret
  exact ⟨rfl, rfl⟩
theorem peek_none (h : Hp w hb fv v turns []) : Calls Try.prog 42 #[.pointer (some ⟨hb, 0, none⟩)] w fun e w' => e = .returned (.tuple #[.agg #[.slice none 0 0, .int .i64 0], .bool false]) ∧ Stay w w' := by
  have hl := fun (W : World) (hW : Stay w W) => len_any (h.stay hW)
  go_enter Try.func42, Try.ntmps42
  go_wp2_with fail
  refine (hl _ (by first | exact Stay.refl _ | exact Stay.new _ _)).mono ?_
  rintro e w9 ⟨rfl, hw⟩
  have hw' := hw.symm; subst hw'
  go_wp2
  exact bodyPost_ret (v := .tuple #[.agg #[.slice none 0 0, .int .i64 0], .bool false]) (by simp [results, Try.results42, go_sem]) rfl ⟨rfl, by repeat (first | exact Stay.refl _ | refine Stay.alloc ?_ _)⟩
theorem peek_some (h : Hp w hb fv v turns came) (e : E) (he : came[0]? = some e) : Calls Try.prog 42 #[.pointer (some ⟨hb, 0, none⟩)] w fun e' w' => e' = .returned (.tuple #[.agg #[.slice e.1.a e.1.n e.1.c, .int .i64 (e.1.i : Int)], .bool true]) ∧ Stay w w' := by
  have hl := fun (W : World) (hW : Stay w W) => len_any (h.stay hW)
  obtain ⟨g, cap, rfl, hC⟩ := h.row.at he
  have h0 := (List.getElem?_eq_some_iff.1 he).1
  have hz : ((came.length : Int) == 0) = false := by rw [beq_eq_false_iff_ne]; omega
  have hz2 : (0 : Int) < (came.length : Int) := by omega
  have lc := hC.len
  unfold maxLen at lc
  have c1 := h.c1
  obtain ⟨⟨ea, en, ec, ei, ex⟩, e3⟩ := e
  have d0 : w.cell? ⟨g, 0, none⟩ = some (.slice ea en ec) := hC.cell 0 _ he 0 (by decide)
  have d1 : w.cell? ⟨g, 1, none⟩ = some (.int .i64 (ei : Int)) := hC.cell 0 _ he 1 (by decide)
  have hlb := h.lt hb (.inl rfl)
  have hlg := hC.lt
  clear hC he
  go_enter Try.func42, Try.ntmps42
  go_wp2_with fail
  refine (hl _ (by first | exact Stay.refl _ | exact Stay.new _ _)).mono ?_
  rintro e w9 ⟨rfl, hw⟩
  have hw' := hw.symm; subst hw'
  go_wp2
  exact bodyPost_ret (v := .tuple #[.agg #[.slice ea en ec, .int .i64 (ei : Int)], .bool true]) (by simp [results, Try.results42, go_sem]) rfl ⟨rfl, by repeat (first | exact Stay.refl _ | refine Stay.alloc ?_ _)⟩

theorem Hp.store {c : List E} (h : Hp w hb fv v turns c) {c' : List E} (hv : v = .slice (some ⟨g, 0, none⟩) c'.length cap) (t : Nat) (e : E) (hC : Came (stored w g t e) g cap c') (hin : ∀ x ∈ c', x ∈ c) : Hp (stored w g t e) hb fv v turns c' := by
  have two := h.two
  refine ⟨?_, .inr ⟨g, cap, hv, hC⟩, two, ?_⟩
  · rw [hv] at two
    simp only [Value.ownBlock, ne_eq, Option.some.injEq] at two
    have : Turn (fun k => k = g) w (stored w g t e) := stored_turn (S := fun k => k = g) (Turn.refl _ _) rfl t e
    exact this.heap h.box (fun e => two e.symm)
  · obtain ⟨xb, h1, h2, h3, h4, h5⟩ := h.lies
    have : Turn (fun k => k = g) w (stored w g t e) := stored_turn (S := fun k => k = g) (Turn.refl _ _) rfl t e
    have hg : xb < g := h5 g (by rw [hv]; rfl)
    have hn : ∀ k, k ≤ xb → ¬ k = g := fun k hk e => by omega
    exact ⟨xb, h1, this.cell h2 (hn xb (Nat.le_refl _)), fun x hx => (h3 x (hin x hx)).turn this hn, h4, h5⟩
theorem mem_set_of {α : Type} {l : List α} {i : Nat} {x : α} (hx : x ∈ l) : ∀ y ∈ l.set i x, y ∈ l := fun y hy => by
  rcases List.mem_or_eq_of_mem_set hy with h | h
  · exact h
  · exact h ▸ hx
theorem swap_hp {c1 : List E} {n : Nat} {x y : E} {i o : Nat} (h : Hp w hb fv (.slice (some ⟨g, 0, none⟩) n cap) turns c1) (hC : Came w g cap c1) (hx : c1[i]? = some x) (hy : c1[o]? = some y) (hne : o ≠ i) :
    Hp (stored (stored w g i y) g o x).drew hb fv (.slice (some ⟨g, 0, none⟩) n cap) turns (swapL c1 i o x y) ∧ Came (stored (stored w g i y) g o x).drew g cap (swapL c1 i o x y) ∧ Turn (fun k => k = g) w (stored (stored w g i y) g o x).drew := by
  have hn : n = c1.length := by
    rcases h.row with ⟨h1, _⟩ | ⟨g', c', h1, _⟩
    · simp at h1
    · simp at h1; exact h1.2.1
  have C1 := hC.store i x y hx
  have C2 := C1.store o y x (by rw [List.getElem?_set_ne (Ne.symm hne)]; exact hy)
  have H1 := Hp.store (c' := c1.set i y) h (by simp [hn]) i y C1 (mem_set_of (List.mem_of_getElem? hy))
  have hLs := H1.lies
  have H2 : Hp (stored (stored w g i y) g o x) hb fv (.slice (some ⟨g, 0, none⟩) n cap) turns ((c1.set i y).set o x) := by
    have T1 : Turn (fun k => k = g) w (stored w g i y) := stored_turn (S := fun k => k = g) (Turn.refl _ _) rfl i y
    have T2 : Turn (fun k => k = g) (stored w g i y) (stored (stored w g i y) g o x) := stored_turn (S := fun k => k = g) (Turn.refl _ _) rfl o x
    have two := h.two
    simp only [Value.ownBlock, ne_eq, Option.some.injEq] at two
    refine ⟨T2.heap H1.box (fun e => two e.symm), .inr ⟨g, cap, by simp [hn], C2⟩, h.two, ?_⟩
    obtain ⟨xb, h1, h2, h3, h4, h5⟩ := h.lies
    have hg : xb < g := h5 g rfl
    have hn' : ∀ k, k ≤ xb → ¬ k = g := fun k hk e => by omega
    have T := T1.trans T2
    refine ⟨xb, h1, T.cell h2 (hn' xb (Nat.le_refl _)), fun z hz => ?_, h4, h5⟩
    rcases List.mem_or_eq_of_mem_set hz with hz | rfl
    · exact (h3 z (mem_set_of (List.mem_of_getElem? hy) z hz)).turn T hn'
    · exact (h3 _ (List.mem_of_getElem? hx)).turn T hn'
  exact ⟨H2.stay (Stay.drew _), C2.stay (Stay.drew _), (stored_turn (S := fun k => k = g) (stored_turn (S := fun k => k = g) (Turn.refl _ _) rfl _ _) rfl _ _).trans (Turn.of_stay (Stay.drew _))⟩

set_option maxRecDepth 100000 in
set_option maxHeartbeats 4000000 in
theorem rise_any (hf : Fv fv cf) (h : Hp w hb fv (.slice (some ⟨g, 0, none⟩) came.length cap) turns came) (hC : Came w g cap came) (i0 : Nat) (hi : i0 < came.length) (hU : Up (ahd cf) came i0) :
    Calls Try.prog 52 #[.pointer (some ⟨hb, 0, none⟩), .int .i64 (i0 : Int)] w fun e w' => e = .returned (.tuple #[]) ∧ ∃ came', came'.Perm came ∧ IsHeap (ahd cf) came' ∧ Hp w' hb fv (.slice (some ⟨g, 0, none⟩) came.length cap) turns came' ∧ Came w' g cap came' ∧ Turn (fun k => k = g) w w' := by
  have lc := hC.len
  unfold maxLen at lc
  have hgb : g ≠ hb := by have := h.two; simpa [Value.ownBlock] using this
  have HF : Hid (Fv fv cf) := hf
  have H0 : Hid (Hp w hb fv (.slice (some ⟨g, 0, none⟩) came.length cap) turns came ∧ Came w g cap came ∧ Up (ahd cf) came i0) := ⟨h, hC, hU⟩
  clear hf h hC hU
  go_enter Try.func52, Try.ntmps52
  go_wp2
  go_loopw [1] (fun vi wr => ∃ (i : Nat) (c1 : List E), vi = .int .i64 (i : Int) ∧ i < came.length ∧ c1.Perm came ∧ Up (ahd cf) c1 i ∧ Hp wr hb fv (.slice (some ⟨g, 0, none⟩) came.length cap) turns c1 ∧ Came wr g cap c1 ∧ Turn (fun k => k = g) w wr) (fun vi _ => (intOf vi).toNat)
  case atStart => exact ⟨i0, came, rfl, hi, List.Perm.refl _, H0.out.2.2, H0.out.1, H0.out.2.1, Turn.refl _ _⟩
  case round =>
    obtain ⟨i, c1, rfl, hil, hp, hU, hH, hC, hT⟩ := hrel
    have hlen : c1.length = came.length := hp.length_eq
    have HR : Hid (c1.Perm came ∧ Up (ahd cf) c1 i ∧ Hp wr hb fv (.slice (some ⟨g, 0, none⟩) came.length cap) turns c1 ∧ Came wr g cap c1 ∧ Turn (fun k => k = g) w wr ∧ c1.length = came.length) := ⟨hp, hU, hH, hC, hT, hlen⟩
    clear hp hU hH hC hT hlen
    by_cases hi0 : 0 < i
    · have hi1 : (0 : Int) < (i : Int) := by omega
      obtain ⟨o, ho⟩ : ∃ o, o = (i - 1) / 2 := ⟨_, rfl⟩
      have hol : o < i := by omega
      have hoe : ((i : Int) - 1) / 2 = (o : Int) := by omega
      obtain ⟨x, hx⟩ : ∃ x, c1[i]? = some x := ⟨_, List.getElem?_eq_getElem (by rw [HR.out.2.2.2.2.2]; exact hil)⟩
      obtain ⟨y, hy⟩ : ∃ y, c1[o]? = some y := ⟨_, List.getElem?_eq_getElem (by rw [HR.out.2.2.2.2.2]; omega)⟩
      have hah := ahead_any HF.out (by rw [HR.out.2.2.2.2.2]; exact HR.out.2.2.1) HR.out.2.2.2.1 i o x y hx hy
      have HXY : Hid (c1[i]? = some x ∧ c1[o]? = some y ∧ o = (i - 1) / 2) := ⟨hx, hy, ho⟩
      clear hx hy ho
      go_wp2_with fail
      refine hah.mono ?_
      rintro e9 w1 ⟨rfl, hst⟩
      have HS : Hid (Stay wr w1) := hst
      clear hah hst
      cases hlt : ahd cf x y with
      | false =>
        have HL : Hid (ahd cf x y = false) := hlt
        clear hlt
        go_wp2
        (try simp only [Exit.inBlock, Exit.then]); refine bodyPost_ret (results_none rfl _ _ _) rfl ?_
        exact ⟨rfl, c1, HR.out.1, up_done HR.out.2.1 HXY.out.1 (HXY.out.2.2 ▸ HXY.out.2.1) HL.out, HR.out.2.2.1.stay HS.out, HR.out.2.2.2.1.stay HS.out, HR.out.2.2.2.2.1.trans (Turn.of_stay HS.out)⟩
      | true =>
        have HL : Hid (ahd cf x y = true) := hlt
        clear hlt
        have hio : o ≠ i := by omega
        have HC1 : Hid (Came w1 g cap c1) := HR.out.2.2.2.1.stay HS.out
        have k1 := (HR.out.2.2.1.stay HS.out).c1
        have li : (i : Int) < (came.length : Int) := by omega
        have lo : (o : Int) < (came.length : Int) := by omega
        have fz := HC1.out.free
        obtain ⟨⟨xa, xn, xc, xi, xx⟩, x3⟩ := x
        obtain ⟨⟨ya, yn, yc, yi, yx⟩, y3⟩ := y
        have d0 : w1.cell? ⟨g, i * 3, none⟩ = some (.slice xa xn xc) := HC1.out.cell i _ HXY.out.1 0 (by decide)
        have d1 : w1.cell? ⟨g, i * 3 + 1, none⟩ = some (.int .i64 (xi : Int)) := HC1.out.cell i _ HXY.out.1 1 (by decide)
        have d2 : w1.cell? ⟨g, i * 3 + 2, none⟩ = some (.int .i64 (x3 : Int)) := HC1.out.cell i _ HXY.out.1 2 (by decide)
        have e0 : w1.cell? ⟨g, o * 3, none⟩ = some (.slice ya yn yc) := HC1.out.cell o _ HXY.out.2.1 0 (by decide)
        have e1 : w1.cell? ⟨g, o * 3 + 1, none⟩ = some (.int .i64 (yi : Int)) := HC1.out.cell o _ HXY.out.2.1 1 (by decide)
        have e2 : w1.cell? ⟨g, o * 3 + 2, none⟩ = some (.int .i64 (y3 : Int)) := HC1.out.cell o _ HXY.out.2.1 2 (by decide)
        have n1 : ¬ o * 3 = i * 3 := by omega
        have n2 : ¬ o * 3 = i * 3 + 1 := by omega
        have n3 : ¬ o * 3 = i * 3 + 2 := by omega
        have n4 : ¬ o * 3 + 1 = i * 3 := by omega
        have n5 : ¬ o * 3 + 1 = i * 3 + 1 := by omega
        have n6 : ¬ o * 3 + 1 = i * 3 + 2 := by omega
        have n7 : ¬ o * 3 + 2 = i * 3 := by omega
        have n8 : ¬ o * 3 + 2 = i * 3 + 1 := by omega
        have n9 : ¬ o * 3 + 2 = i * 3 + 2 := by omega
        go_wp2_with fail
        go_region
        go_wp2
        obtain ⟨s1, s2, s3⟩ := swap_hp (HR.out.2.2.1.stay HS.out) HC1.out HXY.out.1 HXY.out.2.1 hio
        exact ⟨⟨o, swapL c1 i o _ _, rfl, by omega, (swap_perm HXY.out.1 HXY.out.2.1).trans HR.out.1, HXY.out.2.2 ▸ up_step (ahd_ok HF.out) HR.out.2.1 hi0 HXY.out.1 (HXY.out.2.2 ▸ HXY.out.2.1) HL.out, s1, s2, (HR.out.2.2.2.2.1.trans (Turn.of_stay HS.out)).trans s3⟩, by simp [intOf]; omega⟩
    · have hi1 : ¬ (0 : Int) < (i : Int) := by omega
      obtain rfl : i = 0 := by omega
      go_wp2
      go_end0
      exact ⟨rfl, c1, HR.out.1, up_zero HR.out.2.1, HR.out.2.2.1, HR.out.2.2.2.1, HR.out.2.2.2.2.1⟩
end
end Go.Proofs.Ytnmaldgmlkcliaa.HH
