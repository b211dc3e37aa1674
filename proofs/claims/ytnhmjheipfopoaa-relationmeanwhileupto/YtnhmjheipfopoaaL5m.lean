/- lookup, Place, takes. takes. ask, Count. -/
import Derived.Test.YtnhmjheipfopoaaL5f
namespace Go.Proofs.Ytnhmjheipfopoaa.L
open Go.RowKit Go.Maps Go.Shelf Go.Proofs.Ytnhmjheipfopoaa

theorem cols_whole (ar : Nat) (h : ar ≤ 16) : cols (2 ^ ar - 1) 16 = (List.range ar).map Int.ofNat := by
  have h2 : ar = 0 ∨ ar = 1 ∨ ar = 2 ∨ ar = 3 ∨ ar = 4 ∨ ar = 5 ∨ ar = 6 ∨ ar = 7 ∨ ar = 8 ∨ ar = 9 ∨ ar = 10 ∨ ar = 11 ∨ ar = 12 ∨ ar = 13 ∨ ar = 14 ∨ ar = 15 ∨ ar = 16 := by omega
  rcases h2 with rfl | rfl | rfl | rfl | rfl | rfl | rfl | rfl | rfl | rfl | rfl | rfl | rfl | rfl | rfl | rfl | rfl <;> decide
theorem cut_whole {t : List Int} {ar : Nat} (h : ar ≤ 16) (ht : t.length = ar) : cutL t (2 ^ ar - 1) = t := by
  unfold cutL
  rw [cols_whole ar h, List.map_map]
  apply List.ext_getElem
  · simp [ht]
  · intro i h1 h2
    simp [h2]

/-- Where a tuple stands. -/
def posL (T : List (List Int)) (t : List Int) : List Nat := (List.range T.length).filter fun p => decide (T.getD p [] = t)
theorem plc_whole {T : List (List Int)} {ar : Nat} (h : ar ≤ 16) (hr : ∀ t ∈ T, t.length = ar) (t : List Int) : plc (2 ^ ar - 1) T t = posL T t := by
  unfold plc posL
  apply List.filter_congr
  intro p hp
  rw [List.mem_range] at hp
  have : T.getD p [] = T[p] := by simp [hp]
  rw [this, cut_whole h (hr _ (List.getElem_mem hp))]
theorem posL_few {T : List (List Int)} (h : T.Nodup) (t : List Int) : posL T t = [] ∨ ∃ p, posL T t = [p] ∧ T[p]? = some t := by
  have hm : ∀ p, p ∈ posL T t → T[p]? = some t := by
    intro p hp
    unfold posL at hp
    obtain ⟨h1, h2⟩ := List.mem_filter.1 hp
    rw [List.mem_range] at h1
    have h3 : T.getD p [] = t := by simpa using h2
    rw [List.getElem?_eq_getElem h1]
    simpa [h1] using h3
  have hn : (posL T t).Nodup := List.nodup_range.filter _
  cases hl : posL T t with
  | nil => exact .inl rfl
  | cons p l =>
    rw [hl] at hm hn
    have hp := hm p (List.mem_cons_self ..)
    refine .inr ⟨p, ?_, hp⟩
    cases l with
    | nil => rfl
    | cons q l =>
      exfalso
      have hq := hm q (by simp)
      have hpq : p ≠ q := by
        have := (List.nodup_cons.1 hn).1
        intro e; subst e; simp at this
      obtain ⟨h1, h2⟩ := List.getElem?_eq_some_iff.1 hp
      obtain ⟨h3, h4⟩ := List.getElem?_eq_some_iff.1 hq
      rcases Nat.lt_or_gt_of_ne hpq with hlt | hlt
      · exact List.pairwise_iff_getElem.1 h p q h1 h3 hlt (h2.trans h4.symm)
      · exact List.pairwise_iff_getElem.1 h q p h3 h1 hlt (h4.trans h2.symm)

section
variable {W W' : World} {F : Nat → Prop} {rb ar : Nat} {T : List (List Int)} {vv : Value} {mb : Nat} {L : List (Nat × Nat)} {Fs : Nat → Nat → Prop}

theorem lookup_any (h : Rl W F rb ar T vv mb L Fs) (hT : T.length ≤ 68719476736) {c : Nat} (hc : c < 2 ^ ar) :
    Calls Try.prog 32 #[.pointer (some ⟨rb, 0, none⟩), .agg (rowV c)] W fun e w' => ∃ x L' Fs', e = .returned (.pointer (some ⟨x, 0, none⟩)) ∧ Rl w' (Grow F W.heap.size w') rb ar T vv mb L' Fs' ∧ lkp L' c = some x ∧ Turn F W w' := by
  cases hx : lkp L c with
  | none => exact lookup_no h hT hc hx
  | some x =>
    refine (lookup_yes h (pow_ar hc h.arle) hx).mono ?_
    rintro e w' ⟨rfl, hs⟩
    refine ⟨x, L, Fs, rfl, (h.stay hs).grow (fun k hk => .inl hk) (fun k hk => ?_), hx, Turn.of_stay hs⟩
    rcases hk with hk | hk
    · have := h.lt k hk; have := hs.size; omega
    · exact hk.2

theorem RelS.grow_to {base : Nat} {w1 w2 : World} (h : RelS w1 (Grow F base w1) rb ar T) (hs : Stay w1 w2) : RelS w2 (Grow F base w2) rb ar T := by
  obtain ⟨vv, mb, L, Fs, h⟩ := h
  refine ⟨_, _, _, _, (h.stay hs).grow (fun k hk => hk.imp id (fun hk => ⟨hk.1, Nat.lt_of_lt_of_le hk.2 hs.size⟩)) (fun k hk => ?_)⟩
  rcases hk with hk | hk
  · have := h.lt k (.inl hk); have := hs.size; omega
  · exact hk.2

theorem ones_lt (ar : Nat) : 2 ^ ar - 1 < 2 ^ ar := by have := Nat.two_pow_pos ar; omega

/-- What Place answers. -/
def placeV (l : List Nat) : Array Value := match l with
  | [] => #[.int .i64 0, .bool false]
  | p :: _ => #[.int .i64 p, .bool true]

set_option maxRecDepth 100000 in
set_option maxHeartbeats 1000000 in
theorem place_any (h : Rl W F rb ar T vv mb L Fs) (hT : T.length ≤ 68719476736) (a : Option Addr) (b o cap : Nat) (t : List Int) (hI : IntsS W a b o t) (hl : t.length ≤ maxLen) (hn : 0 < t.length → ¬ F b) :
    Calls Try.prog 42 #[.pointer (some ⟨rb, 0, none⟩), .slice a t.length cap] W fun e w' => e = .returned (.tuple (placeV (posL T t))) ∧ RelS w' (Grow F W.heap.size w') rb ar T ∧ Turn F W w' := by
  have hm := rmade_yes h.box
  have c0 := h.box.c0
  have hwh := whole_any W ar h.arle
  have HL : Hid (∀ Y, Stay W Y → Calls Try.prog 32 #[.pointer (some ⟨rb, 0, none⟩), .agg (rowV (2 ^ ar - 1))] Y fun e w' => ∃ x, e = .returned (.pointer (some ⟨x, 0, none⟩)) ∧ RelS w' (Grow F W.heap.size w') rb ar T ∧ Turn F W w' ∧ Calls Try.prog 60 #[.pointer (some ⟨x, 0, none⟩), .slice a t.length cap] w' fun e w2 => e = .returned (.tuple (placeV (posL T t))) ∧ Stay w' w2) := fun Y hY => by
    refine (lookup_any (h.stay hY) hT (ones_lt ar)).mono ?_
    rintro e w' ⟨x, L', Fs', rfl, hR, hx, ht⟩
    have hFg : ∀ k, Grow F Y.heap.size w' k → Grow F W.heap.size w' k := fun k hk => hk.imp id (fun hk => ⟨Nat.le_trans hY.size hk.1, hk.2⟩)
    have hR2 : Rl w' (Grow F W.heap.size w') rb ar T vv mb L' Fs' := hR.grow hFg (fun k hk => by
      rcases hk with hk | hk
      · have := h.lt k hk; have := hY.size; have := ht.size; omega
      · exact hk.2)
    refine ⟨x, rfl, ⟨_, _, _, _, hR2⟩, (Turn.of_stay hY).trans ht, ?_⟩
    obtain ⟨tb, fp, cv, pb, N, len, reach, came, places, lv, vs, ls, kd, hk⟩ := hR.looks _ _ hx
    have hI2 : IntsS w' a b o t := ints_turn (hI.stay hY) ht hn
    have hnb : 0 < t.length → ¬ Fs' x b := fun h0 hf => by
      have hg := hR.foot.2.2.2 _ _ hx b hf
      rcases hg with hg | hg
      · exact hn h0 hg
      · have := ints_lt (hI.stay hY) h0; omega
    have hpw := plc_whole h.arle h.rows t
    rcases posL_few h.nodup t with hp | ⟨p, hp, _⟩
    · rw [hp]
      exact only_no hk ⟨a, b, o, cap, t⟩ hI2 hl hnb (by rw [hpw]; exact hp)
    · rw [hp]
      exact only_yes hk ⟨a, b, o, cap, t⟩ hI2 hl hnb (by rw [hpw]; exact hp)
  clear h hI hn
  obtain ⟨v0, b0, hv⟩ : ∃ (v0 : Int) (b0 : Bool), placeV (posL T t) = #[.int .i64 v0, .bool b0] := by
    cases posL T t with
    | nil => exact ⟨0, false, rfl⟩
    | cons p l => exact ⟨p, true, rfl⟩
  rw [hv] at HL ⊢
  clear hv
  go_enter Try.func42, Try.ntmps42
  go_wp2_with (first
    | (go_at_call 40; refine hm.mono ?_; rintro e w9 ⟨rfl, hw⟩; have hw' := hw.symm; subst hw'; clear hm)
    | (go_at_call 59; refine hwh.mono ?_; rintro e w1 ⟨rfl, hs1⟩; have HS1 : Hid (Stay W w1) := hs1; clear hs1 hwh)
    | (go_at_call 32; refine (HL.out _ HS1.out).mono ?_; rintro e w2 ⟨x, rfl, hR2, ht2, honly⟩; have H2 : Hid (RelS w2 (Grow F W.heap.size w2) rb ar T ∧ Turn F W w2) := ⟨hR2, ht2⟩; clear hR2 ht2)
    | (go_at_call 60; refine honly.mono ?_; rintro e w3 ⟨rfl, hs3⟩; have H3 : Hid (Stay w2 w3) := hs3; clear hs3 honly))
  go_ret2
  refine ⟨rfl, H2.out.1.grow_to H3.out, H2.out.2.trans (Turn.of_stay H3.out)⟩

theorem neg_any (x : Int) (w : World) : Calls Try.prog 58 #[.int .i64 x] w fun e w' => e = .returned (.bool (decide (x < 0))) ∧ w' = w := by
  go_enter Try.func58, Try.ntmps58
  go_wp2
  go_ret
  exact ⟨rfl, rfl⟩
end
end Go.Proofs.Ytnhmjheipfopoaa.L
namespace Go.Proofs.Ytnhmjheipfopoaa.L
open Go.RowKit Go.Maps Go.Shelf Go.Proofs.Ytnhmjheipfopoaa

/-- The first that is below nought, from k on; -1 if there is none. -/
def fneg : List Int → Nat → Int
  | [], _ => -1
  | x :: xs, k => if x < 0 then k else fneg xs (k + 1)
theorem fneg_step {xs : List Int} {k : Nat} (h : k < xs.length) : fneg (xs.drop k) k = if xs[k] < 0 then (k : Int) else fneg (xs.drop (k + 1)) (k + 1) := by
  rw [List.drop_eq_getElem_cons h]; rfl
theorem fneg_ge : ∀ (xs : List Int) (k : Nat), (0 ≤ fneg xs k) ↔ ∃ x ∈ xs, x < 0
  | [], k => by simp [fneg]
  | x :: xs, k => by
    rw [fneg]
    by_cases h : x < 0
    · simp [h]
    · simp [h, fneg_ge xs (k + 1)]

set_option maxRecDepth 100000 in
set_option maxHeartbeats 1000000 in
theorem indexNeg_any (w : World) (a1 : Option Addr) (b1 o1 c1 : Nat) (xs : List Int) (hx : IntsS w a1 b1 o1 xs) (hlx : xs.length ≤ maxLen) :
    Calls Try.prog 72 #[.slice a1 xs.length c1, .func (.func 58) #[] #[]] w fun e w' => e = .returned (.int .i64 (fneg xs 0)) ∧ w' = w := by
  unfold maxLen at hlx
  have HX : Hid (IntsS w a1 b1 o1 xs) := hx
  clear hx
  go_enter Try.func72, Try.ntmps72
  go_wp2
  go_loopw [8] (fun i wr => ∃ k : Nat, k ≤ xs.length ∧ i = .int .i64 k ∧ fneg (xs.drop k) k = fneg xs 0 ∧ wr = w) (fun i _ => xs.length - (intOf i).toNat)
  case atStart => exact ⟨0, Nat.zero_le _, rfl, rfl, rfl⟩
  case round =>
    obtain ⟨k, hk, rfl, hh, hw⟩ := hrel
    have hw' := hw.symm; subst hw'
    by_cases hlt : k < xs.length
    · obtain rfl := HX.out.1 (by omega)
      have hc1 := HX.out.2 k hlt
      have hi1 : (k : Int) < (xs.length : Int) := by omega
      rw [fneg_step hlt] at hh
      have hn := neg_any xs[k] w
      by_cases hneg : xs[k] < 0
      · rw [if_pos hneg] at hh
        have hb : decide (xs[k] < 0) = true := by simpa using hneg
        rw [hb] at hn
        have HH : Hid (fneg xs 0 = (k : Int)) := hh.symm
        clear hh hneg hb
        generalize xs[k] = x at hc1 hn
        go_wp2_with (go_at_call 58; refine hn.mono ?_; rintro e w9 ⟨rfl, hw⟩; have hw' := hw.symm; subst hw')
        go_ret
        exact ⟨by rw [HH.out]; rfl, rfl⟩
      · rw [if_neg hneg] at hh
        have hb : decide (xs[k] < 0) = false := by simpa using hneg
        rw [hb] at hn
        have HH : Hid (fneg (xs.drop (k + 1)) (k + 1) = fneg xs 0) := hh
        clear hh hneg hb
        generalize xs[k] = x at hc1 hn
        go_wp2_with (go_at_call 58; refine hn.mono ?_; rintro e w9 ⟨rfl, hw⟩; have hw' := hw.symm; subst hw')
        go_roundw
        case rel => exact ⟨k + 1, by omega, by go_num, HH.out, trivial⟩
        case measure => simp [intOf]; omega
    · obtain rfl : k = xs.length := by omega
      rw [List.drop_length] at hh
      have HH : Hid (fneg xs 0 = -1) := hh.symm
      clear hh
      go_wp2
      go_ret
      exact ⟨by rw [HH.out]; rfl, rfl⟩

theorem contains_any (w : World) (a1 : Option Addr) (b1 o1 c1 : Nat) (xs : List Int) (hx : IntsS w a1 b1 o1 xs) (hlx : xs.length ≤ maxLen) :
    Calls Try.prog 57 #[.slice a1 xs.length c1, .func (.func 58) #[] #[]] w fun e w' => e = .returned (.bool (decide (∃ x ∈ xs, x < 0))) ∧ w' = w := by
  have h := indexNeg_any w a1 b1 o1 c1 xs hx hlx
  have hg := fneg_ge xs 0
  generalize fneg xs 0 = r at h hg
  have HG : Hid (decide (0 ≤ r) = decide (∃ x ∈ xs, x < 0)) := decide_eq_decide.2 hg
  clear hx hg
  go_enter Try.func57, Try.ntmps57
  go_wp2_with (go_at_call 72; refine h.mono ?_; rintro e w9 ⟨rfl, hw⟩; have hw' := hw.symm; subst hw')
  go_ret
  exact ⟨by rw [← HG.out]; rfl, rfl⟩

section
variable {W W' : World} {rb ar n : Nat} {vv : Value} {mb : Nat}
/-- takes: a tuple of the relation's arity, of numbers from nought on. -/
def okT (ar : Nat) (t : List Int) : Bool := t.length == ar && !decide (∃ x ∈ t, x < 0)

set_option maxRecDepth 100000 in
theorem takes_any (h : RBox W rb ar n vv mb) (a : Option Addr) (b o cap : Nat) (t : List Int) (hI : IntsS W a b o t) (hl : t.length ≤ maxLen) :
    Calls Try.prog 41 #[.pointer (some ⟨rb, 0, none⟩), .slice a t.length cap] W fun e w' => e = .returned (.bool (okT ar t)) ∧ w' = W := by
  have hc := contains_any W a b o cap t hI hl
  have c0 := h.c0
  unfold okT
  generalize decide (∃ x ∈ t, x < 0) = d at hc ⊢
  clear h hI
  unfold maxLen at hl
  by_cases he : t.length = ar
  · have h1 : ((t.length : Int) == (ar : Int)) = true := by simp [he]
    have h2 : (t.length == ar) = true := by simp [he]
    rw [h2]
    clear he h2
    go_enter Try.func41, Try.ntmps41
    go_wp2_with (go_at_call 57; refine hc.mono ?_; rintro e w9 ⟨rfl, hw⟩; have hw' := hw.symm; subst hw')
    go_ret
    exact ⟨by simp, rfl⟩
  · have h1 : ((t.length : Int) == (ar : Int)) = false := by simp; omega
    have h2 : (t.length == ar) = false := by simp [he]
    rw [h2]
    clear he h2 hc
    go_enter Try.func41, Try.ntmps41
    go_wp2
    go_ret
    exact ⟨by simp, rfl⟩
end
end Go.Proofs.Ytnhmjheipfopoaa.L
namespace Go.Proofs.Ytnhmjheipfopoaa.L
open Go.RowKit Go.Maps Go.Shelf Go.Proofs.Ytnhmjheipfopoaa

/-- The row that is asked for, if it is one and the key fits. -/
def askL (ar : Nat) (C : List Int) (m : Nat) : Option Nat := if m = C.length then rowL ar C (-1) 0 else none

theorem rowL_lt {ar : Nat} : ∀ (C : List Int) (last : Int) (acc : Nat), -1 ≤ last → acc < 2 ^ ar → ∀ c, rowL ar C last acc = some c → c < 2 ^ ar
  | [], _, acc, _, ha, c, h => by simp only [rowL, Option.some.injEq] at h; subst h; exact ha
  | x :: xs, last, acc, hl, ha, c, h => by
    unfold rowL at h
    split at h
    · cases h
    · rename_i hx
      refine rowL_lt xs x _ (by omega) ?_ c h
      refine Nat.or_lt_two_pow ha ?_
      exact Nat.pow_lt_pow_right (by decide) (by omega)

section
variable {W W' : World} {F : Nat → Prop} {rb ar : Nat} {T : List (List Int)} {vv : Value} {mb n : Nat} {L : List (Nat × Nat)} {Fs : Nat → Nat → Prop}

theorem rowR_two (r : Option Nat) : ∃ c b, rowR r = #[.agg (rowV c), .bool b] := by
  cases r with
  | none => exact ⟨_, _, rfl⟩
  | some c => exact ⟨_, _, rfl⟩

set_option maxRecDepth 100000 in
set_option maxHeartbeats 1000000 in
theorem ask_any (h : RBox W rb ar n vv mb) (har : ar ≤ 16) (a : Option Addr) (b o cap : Nat) (C : List Int) (hI : IntsS W a b o C) (hl : C.length ≤ maxLen) (ak : Option Addr) (ck m : Nat) :
    Calls Try.prog 28 #[.pointer (some ⟨rb, 0, none⟩), .slice a C.length cap, .slice ak m ck] W fun e w' => e = .returned (.tuple (rowR (askL ar C m))) ∧ Stay W w' := by
  have hz := zeroRow
  obtain ⟨Z, hZ⟩ : ∃ Z, Z = rowV 0 := ⟨_, rfl⟩
  rw [← hZ] at hz
  have H0 : Hid (Z = rowV 0) := hZ
  clear hZ
  have hs0 : Stay W (W.alloc (.cells Z 64)) := Stay.new W _
  have HB : Hid ((W.alloc (.cells Z 64)).heap[W.heap.size]? = some (.cells Z 64 (0, 0)) ∧ Stay W (W.alloc (.cells Z 64))) := ⟨heap_alloc_new _ _, hs0⟩
  have hm := rmade_yes (h.stay hs0)
  have c0 := (h.stay hs0).c0
  have hrow := rowOf_any _ a b o cap C (hI.stay hs0) hl ar har
  obtain ⟨c1, b1, hr⟩ := rowR_two (rowL ar C (-1) 0)
  unfold askL
  rw [hr] at hrow
  have HR : Hid (rowR (rowL ar C (-1) 0) = #[.agg (rowV c1), .bool b1]) := hr
  clear hr h hI hs0
  by_cases he : m = C.length
  · have he2 : (m : Int) = (C.length : Int) := by omega
    rw [if_pos he, HR.out]
    clear he
    go_enter Try.func28, Try.ntmps28
    go_wp2_with (first
      | (go_at_call 40; refine hm.mono ?_; rintro e w9 ⟨rfl, hw⟩; have hw' := hw.symm; subst hw'; clear hm)
      | (go_at_call 44; refine hrow.mono ?_; rintro e w1 ⟨rfl, hs1⟩; have HS1 : Hid (Stay W w1 ∧ w1.heap[W.heap.size]? = some (.cells Z 64 (0, 0))) := ⟨HB.out.2.trans hs1, hs1.heap HB.out.1⟩; clear hs1 hrow)
      | (refine wpList_store_row rfl 64 (.tmp 6) (.tmp 25) rfl W.heap.size (rowV c1) rfl rfl 64 Z HS1.out.2 (sizeRow' _) (by rw [H0.out, rowV_size, rowV_size]) (rowV_one _) ?_))
    try simp only [Exit.inBlock, Exit.then]
    refine bodyPost_ret (results_cell_tmp rfl _ _ W.heap.size 64 (rowV c1) (0, 0) (.array 16 4) rfl (setRow_heap _ _ _ _ _ _ HS1.out.2) Try.underlying64 rfl (sizeRow' _)) rfl ?_
    exact ⟨rfl, stay_setRow HS1.out.1 (Nat.le_refl _) _⟩
  · have he2 : ¬ (m : Int) = (C.length : Int) := by omega
    rw [if_neg he]
    clear he hrow
    go_enter Try.func28, Try.ntmps28
    go_wp2_with (first
      | (go_at_call 40; refine hm.mono ?_; rintro e w9 ⟨rfl, hw⟩; have hw' := hw.symm; subst hw'; clear hm)
      | (refine wpList_store_row rfl 64 (.tmp 6) (.tmp 18) rfl W.heap.size Z rfl rfl 64 Z HB.out.1 (by rw [H0.out]; exact sizeRow' _) rfl (by rw [H0.out]; exact rowV_one _) ?_))
    try simp only [Exit.inBlock, Exit.then]
    refine bodyPost_ret (results_cell_tmp rfl _ _ W.heap.size 64 Z (0, 0) (.array 16 4) rfl (setRow_heap _ _ _ _ _ _ HB.out.1) Try.underlying64 rfl (by rw [H0.out]; exact sizeRow' _)) rfl ?_
    exact ⟨by rw [H0.out]; rfl, stay_setRow HB.out.2 (Nat.le_refl _) _⟩

/-- What Count answers. -/
def countV (ar : Nat) (T : List (List Int)) (C K : List Int) (x y : Int) : Array Value := match askL ar C K.length with
  | none => #[.int .i64 0, .int .i64 2]
  | some c => #[.int .i64 (if C = [] then bE x y T.length - bF x else ((mid (plc c T K) x y).length : Int)), .int .i64 0]

set_option maxRecDepth 100000 in
set_option maxHeartbeats 1000000 in
theorem count_any (h : Rl W F rb ar T vv mb L Fs) (hT : T.length ≤ 68719476736) (a : Option Addr) (b o cap : Nat) (C : List Int) (hI : IntsS W a b o C) (hl : C.length ≤ maxLen)
    (a2 : Option Addr) (b2 o2 cap2 : Nat) (K : List Int) (hK : IntsS W a2 b2 o2 K) (hlK : K.length ≤ maxLen) (hn : 0 < K.length → ¬ F b2) (x y : Int) :
    Calls Try.prog 23 #[.pointer (some ⟨rb, 0, none⟩), .slice a C.length cap, .slice a2 K.length cap2, .int .i64 x, .int .i64 y] W fun e w' => e = .returned (.tuple (countV ar T C K x y)) ∧ RelS w' (Grow F W.heap.size w') rb ar T ∧ Turn F W w' := by
  have hz := zeroRow
  obtain ⟨Z, hZ⟩ : ∃ Z, Z = rowV 0 := ⟨_, rfl⟩
  rw [← hZ] at hz
  have H0 : Hid (Z = rowV 0) := hZ
  clear hZ
  have hm := rmade_yes h.box
  have hask := ask_any h.box h.arle a b o cap C hI hl a2 cap2 K.length
  have HG : Hid (∀ Y, Stay W Y → RelS Y (Grow F W.heap.size Y) rb ar T ∧ Turn F W Y) := fun Y hY =>
    ⟨⟨_, _, _, _, (h.stay hY).grow (fun k hk => .inl hk) (fun k hk => by
      rcases hk with hk | hk
      · have := h.lt k hk; have := hY.size; omega
      · exact hk.2)⟩, Turn.of_stay hY⟩
  have HBo : Hid (∀ Y, Stay W Y → Calls Try.prog 46 #[.pointer (some ⟨rb, 0, none⟩), .int .i64 x, .int .i64 y] Y fun e w' => e = .returned (.tuple #[.int .i64 (bF x), .int .i64 (bE x y T.length)]) ∧ Stay Y w') := fun Y hY =>
    (bounds_yes (h.stay hY).box x y).mono fun e w' ⟨h1, d, h2⟩ => ⟨h1, by rw [h2]; exact (Stay.drewN Y d)⟩
  have HW : Hid (∀ c, askL ar C K.length = some c → ∀ Y, Stay W Y → Calls Try.prog 32 #[.pointer (some ⟨rb, 0, none⟩), .agg (rowV c)] Y fun e w' => ∃ x', e = .returned (.pointer (some ⟨x', 0, none⟩)) ∧ RelS w' (Grow F W.heap.size w') rb ar T ∧ Turn F W w' ∧
      Calls Try.prog 33 #[.pointer (some ⟨x', 0, none⟩), .slice a2 K.length cap2, .int .i64 x, .int .i64 y] w' fun e w2 => ∃ a b off cap, e = .returned (.slice a (mid (plc c T K) x y).length cap) ∧ IntsS w2 a b off ((mid (plc c T K) x y).map Int.ofNat) ∧ Stay w' w2) := fun c hc Y hY => by
    have hc2 : c < 2 ^ ar := by
      unfold askL at hc
      split at hc
      · exact rowL_lt C (-1) 0 (by omega) (Nat.two_pow_pos ar) c hc
      · cases hc
    refine (lookup_any (h.stay hY) hT hc2).mono ?_
    rintro e w' ⟨x', L', Fs', rfl, hR, hx, ht⟩
    have hFg : ∀ k, Grow F Y.heap.size w' k → Grow F W.heap.size w' k := fun k hk => hk.imp id (fun hk => ⟨Nat.le_trans hY.size hk.1, hk.2⟩)
    have hR2 : Rl w' (Grow F W.heap.size w') rb ar T vv mb L' Fs' := hR.grow hFg (fun k hk => by
      rcases hk with hk | hk
      · have := h.lt k hk; have := hY.size; have := ht.size; omega
      · exact hk.2)
    refine ⟨x', rfl, ⟨_, _, _, _, hR2⟩, (Turn.of_stay hY).trans ht, ?_⟩
    obtain ⟨tb, fp, cv, pb, N, len, reach, came, places, lv, vs, ls, kd, hk⟩ := hR.looks _ _ hx
    have hI2 : IntsS w' a2 b2 o2 K := ints_turn (hK.stay hY) ht hn
    have hnb : 0 < K.length → ¬ Fs' x' b2 := fun h0 hf => by
      have hg := hR.foot.2.2.2 _ _ hx b2 hf
      rcases hg with hg | hg
      · exact hn h0 hg
      · have := ints_lt (hK.stay hY) h0; omega
    exact within_any hk hT ⟨a2, b2, o2, cap2, K⟩ hI2 hlK hnb x y
  have hbl : bF x ≤ bE x y T.length ∧ 0 ≤ bF x ∧ bE x y T.length ≤ 68719476736 ∨ T.length < bF x ∧ bE x y T.length = bF x := by unfold bF bE; omega
  clear h hI hK hn
  unfold countV
  cases hA : askL ar C K.length with
  | none =>
    rw [hA] at hask
    dsimp only [rowR] at hask ⊢
    obtain ⟨V0, hV0⟩ : ∃ V, V = rowV 0 := ⟨_, rfl⟩
    rw [← hV0] at hask
    have HV : Hid (V0 = rowV 0) := hV0
    clear hV0 hA
    go_enter Try.func23, Try.ntmps23
    go_wp2_with (first
      | (go_at_call 40; refine hm.mono ?_; rintro e w9 ⟨rfl, hw⟩; have hw' := hw.symm; subst hw'; clear hm)
      | (go_at_call 28; refine hask.mono ?_; rintro e w1 ⟨rfl, hs1⟩; have HS1 : Hid (Stay W w1) := hs1; clear hs1 hask)
      | (refine wpList_store_fresh rfl 64 (.tmp 12) (.tmp 24) rfl V0 Z rfl rfl 64 (by rw [HV.out]; exact sizeRow' _) (by simp only [H0.out, HV.out, rowV_size]) (by rw [HV.out]; exact rowV_one _) ?_))
    go_ret2
    exact ⟨rfl, HG.out _ (HS1.out.alloc _)⟩
  | some c =>
    have HW2 := HW.out c hA
    rw [hA] at hask
    dsimp only [rowR] at hask ⊢
    obtain ⟨V0, hV0⟩ : ∃ V, V = rowV c := ⟨_, rfl⟩
    rw [← hV0] at hask HW2
    have HV : Hid (V0 = rowV c) := hV0
    have HW3 : Hid _ := HW2
    clear hV0 hA HW HW2
    by_cases hC : C = []
    · rw [if_pos hC]
      have hlen : (C.length : Int) = 0 := by rw [hC]; rfl
      have HC : Hid (C = []) := hC
      clear hC HW3
      go_enter Try.func23, Try.ntmps23
      go_wp2_with (first
        | (go_at_call 40; refine hm.mono ?_; rintro e w9 ⟨rfl, hw⟩; have hw' := hw.symm; subst hw'; clear hm)
        | (go_at_call 28; refine hask.mono ?_; rintro e w1 ⟨rfl, hs1⟩; have HS1 : Hid (Stay W w1) := hs1; clear hs1 hask)
        | (refine wpList_store_fresh rfl 64 (.tmp 12) (.tmp 24) rfl V0 Z rfl rfl 64 (by rw [HV.out]; exact sizeRow' _) (by simp only [H0.out, HV.out, rowV_size]) (by rw [HV.out]; exact rowV_one _) ?_)
        | (go_at_call 46; refine (HBo.out _ (HS1.out.alloc _)).mono ?_; rintro e w2 ⟨rfl, hs2⟩; have HS2 : Hid (Stay W w2) := (HS1.out.alloc _).trans hs2; clear hs2))
      go_ret2
      exact ⟨two_eq (by omega) rfl, HG.out _ HS2.out⟩
    · rw [if_neg hC]
      have hlen : 0 < (C.length : Int) := by
        have := List.length_pos_iff.2 hC
        omega
      have HC : Hid (C ≠ []) := hC
      clear hC
      generalize mid (plc c T K) x y = M at HW3
      go_enter Try.func23, Try.ntmps23
      go_wp2_with (first
        | (go_at_call 40; refine hm.mono ?_; rintro e w9 ⟨rfl, hw⟩; have hw' := hw.symm; subst hw'; clear hm)
        | (go_at_call 28; refine hask.mono ?_; rintro e w1 ⟨rfl, hs1⟩; have HS1 : Hid (Stay W w1) := hs1; clear hs1 hask)
        | (refine wpList_store_fresh rfl 64 (.tmp 12) (.tmp 24) rfl V0 Z rfl rfl 64 (by rw [HV.out]; exact sizeRow' _) (by simp only [H0.out, HV.out, rowV_size]) (by rw [HV.out]; exact rowV_one _) ?_)
        | (refine wpList_load_row rfl 64 (.tmp 12) rfl _ rfl 64 V0 (0, 0) (.array 16 4) (heap_alloc_new _ _) Try.underlying64 rfl (by rw [HV.out]; exact sizeRow' _) ?_)
        | (go_at_call 32; refine (HW3.out _ (HS1.out.alloc _)).mono ?_; rintro e w2 ⟨x', rfl, hR2, ht2, hwi⟩; have H2 : Hid (RelS w2 (Grow F W.heap.size w2) rb ar T ∧ Turn F W w2) := ⟨hR2, ht2⟩; clear hR2 ht2)
        | (go_at_call 33; refine hwi.mono ?_; rintro e w3 ⟨a3, b3, o3, c3, rfl, hI3, hs3⟩; have H3 : Hid (Stay w2 w3) := hs3; clear hs3 hwi hI3))
      go_ret2
      exact ⟨rfl, H2.out.1.grow_to H3.out, H2.out.2.trans (Turn.of_stay H3.out)⟩
end
end Go.Proofs.Ytnhmjheipfopoaa.L
