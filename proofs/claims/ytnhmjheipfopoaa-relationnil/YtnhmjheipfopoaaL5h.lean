/- lookup, Place, takes. -/
import Derived.Test.YtnhmjheipfopoaaL5f
namespace Go.Proofs.Ytnhmjheipfopoaa.L
open Go.RowKit Go.Maps Go.Shelf Go.Proofs.Ytnhmjheipfopoaa

theorem cols_whole (ar : Nat) (h : ar ≤ 16) : cols (2 ^ ar - 1) 16 = (List.range ar).map Int.ofNat := by
  have h2 : ar = 0 ∨ ar = 1 ∨ ar = 2 ∨ ar = 3 ∨ ar = 4 ∨ ar = 5 ∨ ar = 6 ∨ ar = 7 ∨ ar = 8 ∨ ar = 9 ∨ ar = 10 ∨ ar = 11 ∨ ar = 12 ∨ ar = 13 ∨ ar = 14 ∨ ar = 15 ∨ ar = 16 := by omega
  rcases h2 with rfl | rfl | rfl | rfl | rfl | rfl | rfl | rfl | rfl | rfl | rfl | rfl | rfl | rfl | rfl | rfl | rfl <;> decide
theorem cut_whole {t : List Int} {ar : Nat} (h : ar ≤ 16) (ht : t.length = ar) : cutL t (2 ^ ar - 1) = t := by
  unfold cutL
  rw [cols_whole ar h, List.map_map]
  apply List.ext_getElem
  · simp [ht]
  · intro i h1 h2
    simp [h2]

/-- Where a tuple stands. -/
def posL (T : List (List Int)) (t : List Int) : List Nat := (List.range T.length).filter fun p => decide (T.getD p [] = t)
theorem plc_whole {T : List (List Int)} {ar : Nat} (h : ar ≤ 16) (hr : ∀ t ∈ T, t.length = ar) (t : List Int) : plc (2 ^ ar - 1) T t = posL T t := by
  unfold plc posL
  apply List.filter_congr
  intro p hp
  rw [List.mem_range] at hp
  have : T.getD p [] = T[p] := by simp [hp]
  rw [this, cut_whole h (hr _ (List.getElem_mem hp))]
theorem posL_few {T : List (List Int)} (h : T.Nodup) (t : List Int) : posL T t = [] ∨ ∃ p, posL T t = [p] ∧ T[p]? = some t := by
  have hm : ∀ p, p ∈ posL T t → T[p]? = some t := by
    intro p hp
    unfold posL at hp
    obtain ⟨h1, h2⟩ := List.mem_filter.1 hp
    rw [List.mem_range] at h1
    have h3 : T.getD p [] = t := by simpa using h2
    rw [List.getElem?_eq_getElem h1]
    simpa [h1] using h3
  have hn : (posL T t).Nodup := List.nodup_range.filter _
  cases hl : posL T t with
  | nil => exact .inl rfl
  | cons p l =>
    rw [hl] at hm hn
    have hp := hm p (List.mem_cons_self ..)
    refine .inr ⟨p, ?_, hp⟩
    cases l with
    | nil => rfl
    | cons q l =>
      exfalso
      have hq := hm q (by simp)
      have hpq : p ≠ q := by
        have := (List.nodup_cons.1 hn).1
        intro e; subst e; simp at this
      obtain ⟨h1, h2⟩ := List.getElem?_eq_some_iff.1 hp
      obtain ⟨h3, h4⟩ := List.getElem?_eq_some_iff.1 hq
      rcases Nat.lt_or_gt_of_ne hpq with hlt | hlt
      · exact List.pairwise_iff_getElem.1 h p q h1 h3 hlt (h2.trans h4.symm)
      · exact List.pairwise_iff_getElem.1 h q p h3 h1 hlt (h4.trans h2.symm)

section
variable {W W' : World} {F : Nat → Prop} {rb ar : Nat} {T : List (List Int)} {vv : Value} {mb : Nat} {L : List (Nat × Nat)} {Fs : Nat → Nat → Prop}

theorem lookup_any (h : Rl W F rb ar T vv mb L Fs) (hT : T.length ≤ 68719476736) {c : Nat} (hc : c < 2 ^ ar) :
    Calls Try.prog 32 #[.pointer (some ⟨rb, 0, none⟩), .agg (rowV c)] W fun e w' => ∃ x L' Fs', e = .returned (.pointer (some ⟨x, 0, none⟩)) ∧ Rl w' (Grow F W.heap.size w') rb ar T vv mb L' Fs' ∧ lkp L' c = some x ∧ Turn F W w' := by
  cases hx : lkp L c with
  | none => exact lookup_no h hT hc hx
  | some x =>
    refine (lookup_yes h (pow_ar hc h.arle) hx).mono ?_
    rintro e w' ⟨rfl, hs⟩
    refine ⟨x, L, Fs, rfl, (h.stay hs).grow (fun k hk => .inl hk) (fun k hk => ?_), hx, Turn.of_stay hs⟩
    rcases hk with hk | hk
    · have := h.lt k hk; have := hs.size; omega
    · exact hk.2

theorem RelS.grow_to {base : Nat} {w1 w2 : World} (h : RelS w1 (Grow F base w1) rb ar T) (hs : Stay w1 w2) : RelS w2 (Grow F base w2) rb ar T := by
  obtain ⟨vv, mb, L, Fs, h⟩ := h
  refine ⟨_, _, _, _, (h.stay hs).grow (fun k hk => hk.imp id (fun hk => ⟨hk.1, Nat.lt_of_lt_of_le hk.2 hs.size⟩)) (fun k hk => ?_)⟩
  rcases hk with hk | hk
  · have := h.lt k (.inl hk); have := hs.size; omega
  · exact hk.2

theorem ones_lt (ar : Nat) : 2 ^ ar - 1 < 2 ^ ar := by have := Nat.two_pow_pos ar; omega

/-- What Place answers. -/
def placeV (l : List Nat) : Array Value := match l with
  | [] => #[.int .i64 0, .bool false]
  | p :: _ => #[.int .i64 p, .bool true]

set_option maxRecDepth 100000 in
set_option maxHeartbeats 1000000 in
theorem place_any (h : Rl W F rb ar T vv mb L Fs) (hT : T.length ≤ 68719476736) (a : Option Addr) (b o cap : Nat) (t : List Int) (hI : IntsS W a b o t) (hl : t.length ≤ maxLen) (hn : 0 < t.length → ¬ F b) :
    Calls Try.prog 42 #[.pointer (some ⟨rb, 0, none⟩), .slice a t.length cap] W fun e w' => e = .returned (.tuple (placeV (posL T t))) ∧ RelS w' (Grow F W.heap.size w') rb ar T ∧ Turn F W w' := by
  have hm := rmade_yes h.box
  have c0 := h.box.c0
  have hwh := whole_any W ar h.arle
  have HL : Hid (∀ Y, Stay W Y → Calls Try.prog 32 #[.pointer (some ⟨rb, 0, none⟩), .agg (rowV (2 ^ ar - 1))] Y fun e w' => ∃ x, e = .returned (.pointer (some ⟨x, 0, none⟩)) ∧ RelS w' (Grow F W.heap.size w') rb ar T ∧ Turn F W w' ∧ Calls Try.prog 60 #[.pointer (some ⟨x, 0, none⟩), .slice a t.length cap] w' fun e w2 => e = .returned (.tuple (placeV (posL T t))) ∧ Stay w' w2) := fun Y hY => by
    refine (lookup_any (h.stay hY) hT (ones_lt ar)).mono ?_
    rintro e w' ⟨x, L', Fs', rfl, hR, hx, ht⟩
    have hFg : ∀ k, Grow F Y.heap.size w' k → Grow F W.heap.size w' k := fun k hk => hk.imp id (fun hk => ⟨Nat.le_trans hY.size hk.1, hk.2⟩)
    have hR2 : Rl w' (Grow F W.heap.size w') rb ar T vv mb L' Fs' := hR.grow hFg (fun k hk => by
      rcases hk with hk | hk
      · have := h.lt k hk; have := hY.size; have := ht.size; omega
      · exact hk.2)
    refine ⟨x, rfl, ⟨_, _, _, _, hR2⟩, (Turn.of_stay hY).trans ht, ?_⟩
    obtain ⟨tb, fp, cv, pb, N, len, reach, came, places, lv, vs, ls, kd, hk⟩ := hR.looks _ _ hx
    have hI2 : IntsS w' a b o t := ints_turn (hI.stay hY) ht hn
    have hnb : 0 < t.length → ¬ Fs' x b := fun h0 hf => by
      have hg := hR.foot.2.2.2 _ _ hx b hf
      rcases hg with hg | hg
      · exact hn h0 hg
      · have := ints_lt (hI.stay hY) h0; omega
    have hpw := plc_whole h.arle h.rows t
    rcases posL_few h.nodup t with hp | ⟨p, hp, _⟩
    · rw [hp]
      exact only_no hk ⟨a, b, o, cap, t⟩ hI2 hl hnb (by rw [hpw]; exact hp)
    · rw [hp]
      exact only_yes hk ⟨a, b, o, cap, t⟩ hI2 hl hnb (by rw [hpw]; exact hp)
  clear h hI hn
  obtain ⟨v0, b0, hv⟩ : ∃ (v0 : Int) (b0 : Bool), placeV (posL T t) = #[.int .i64 v0, .bool b0] := by
    cases posL T t with
    | nil => exact ⟨0, false, rfl⟩
    | cons p l => exact ⟨p, true, rfl⟩
  rw [hv] at HL ⊢
  clear hv
  go_enter Try.func42, Try.ntmps42
  go_wp2_with (first
    | (go_at_call 40; refine hm.mono ?_; rintro e w9 ⟨rfl, hw⟩; have hw' := hw.symm; subst hw'; clear hm)
    | (go_at_call 59; refine hwh.mono ?_; rintro e w1 ⟨rfl, hs1⟩; have HS1 : Hid (Stay W w1) := hs1; clear hs1 hwh)
    | (go_at_call 32; refine (HL.out _ HS1.out).mono ?_; rintro e w2 ⟨x, rfl, hR2, ht2, honly⟩; have H2 : Hid (RelS w2 (Grow F W.heap.size w2) rb ar T ∧ Turn F W w2) := ⟨hR2, ht2⟩; clear hR2 ht2)
    | (go_at_call 60; refine honly.mono ?_; rintro e w3 ⟨rfl, hs3⟩; have H3 : Hid (Stay w2 w3) := hs3; clear hs3 honly))
  go_ret2
  refine ⟨rfl, H2.out.1.grow_to H3.out, H2.out.2.trans (Turn.of_stay H3.out)⟩

theorem neg_any (x : Int) (w : World) : Calls Try.prog 58 #[.int .i64 x] w fun e w' => e = .returned (.bool (decide (x < 0))) ∧ w' = w := by
  go_enter Try.func58, Try.ntmps58
  go_wp2
  go_ret
  exact ⟨rfl, rfl⟩
end
end Go.Proofs.Ytnhmjheipfopoaa.L
