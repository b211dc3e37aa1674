/- BinarySearch over places that rise; within. join: a tuple's place is laid by its key. The first one with its key. -/
import Derived.Test.YtnhmjheipfopoaaL4e
namespace Go.Proofs.Ytnhmjheipfopoaa.L
open Go.RowKit Go.Maps Go.Proofs.Ytnhmjheipfopoaa

theorem isNaN2_any (x : Int) (w : World) : Calls Try.prog 71 #[.int .i64 x] w fun e w' => e = .returned (.bool false) ∧ w' = w := by
  go_enter Try.func71, Try.ntmps71
  go_wp2
  go_ret
  exact ⟨by simp, rfl⟩

theorem less_any (x y : Int) (w : World) : Calls Try.prog 70 #[.int .i64 x, .int .i64 y] w fun e w' => e = .returned (.bool (decide (x < y))) ∧ w' = w := by
  have h1 := isNaN_any x w
  go_enter Try.func70, Try.ntmps70
  go_wp2_with (go_at_call 87; refine h1.mono ?_; rintro e w9 ⟨rfl, hw⟩; have hw' := hw.symm; subst hw')
  go_ret
  exact ⟨rfl, rfl⟩

/-- How many of a rising list lie below x. -/
def below (x : Int) (p : Nat) : Bool := decide ((p : Int) < x)
def low (ps : List Nat) (x : Int) : Nat := (ps.filter (below x)).length
theorem low_at {ps : List Nat} {x : Int} {i : Nat} (hi : i ≤ ps.length) (h1 : ∀ k (h : k < ps.length), k < i → (ps[k] : Int) < x) (h2 : ∀ k (h : k < ps.length), i ≤ k → x ≤ (ps[k] : Int)) : low ps x = i := by
  unfold low
  have e : ps.filter (below x) = ps.take i := by
    conv => lhs; rw [← List.take_append_drop i ps]
    rw [List.filter_append, List.filter_eq_self.2, List.filter_eq_nil_iff.2, List.append_nil]
    · intro p hp
      obtain ⟨k, hk, rfl⟩ := List.mem_iff_getElem.1 hp
      rw [List.length_drop] at hk
      rw [List.getElem_drop]
      have := h2 (i + k) (by omega) (by omega)
      simp [below]; omega
    · intro p hp
      obtain ⟨k, hk, rfl⟩ := List.mem_iff_getElem.1 hp
      rw [List.length_take] at hk
      rw [List.getElem_take]
      simpa [below] using h1 k (by omega) (by omega)
  rw [e, List.length_take]; omega
theorem low_le (ps : List Nat) (x : Int) : low ps x ≤ ps.length := List.length_filter_le _ _
theorem rises_at {ps : List Nat} (hr : ps.Pairwise (· < ·)) {i j : Nat} (hij : i ≤ j) (hj : j < ps.length) : ps[i]'(by omega) ≤ ps[j] := by
  rcases Nat.lt_or_ge i j with h | h
  · exact Nat.le_of_lt (List.pairwise_iff_getElem.1 hr i j (by omega) hj h)
  · have : i = j := by omega
    subst this; exact Nat.le_refl _

def found (ps : List Nat) (x : Int) : Bool := match ps[low ps x]? with
  | some p => (p : Int) == x
  | none => false

set_option maxRecDepth 100000 in
set_option maxHeartbeats 1000000 in
theorem search_rise (w : World) (a1 : Option Addr) (b1 o1 c1 : Nat) (ps : List Nat) (hx : IntsS w a1 b1 o1 (ps.map Int.ofNat)) (hl : ps.length ≤ 68719476736) (hr : ps.Pairwise (· < ·)) (x : Int) :
    Calls Try.prog 53 #[.slice a1 ps.length c1, .int .i64 x] w fun e w' => e = .returned (.tuple #[.int .i64 (low ps x), .bool (found ps x)]) ∧ w' = w := by
  have HX : Hid (IntsS w a1 b1 o1 (ps.map Int.ofNat)) := hx
  have HR : Hid (ps.Pairwise (· < ·)) := hr
  clear hx hr
  go_enter Try.func53, Try.ntmps53
  go_wp2
  go_loopw [7, 8] (fun u7 u8 wr => ∃ i j : Nat, u7 = .int .i64 i ∧ u8 = .int .i64 j ∧ i ≤ j ∧ j ≤ ps.length ∧ (∀ k (h : k < ps.length), k < i → (ps[k] : Int) < x) ∧ (∀ k (h : k < ps.length), j ≤ k → x ≤ (ps[k] : Int)) ∧ wr = w) (fun u7 u8 _ => (intOf u8).toNat - (intOf u7).toNat)
  case atStart => exact ⟨0, ps.length, rfl, rfl, Nat.zero_le _, Nat.le_refl _, fun k h hk => by omega, fun k h hk => by omega, rfl⟩
  case round =>
    obtain ⟨i, j, rfl, rfl, hij, hj, hlo, hhi, hw⟩ := hrel
    have hw' := hw.symm; subst hw'
    by_cases hlt : i < j
    · have hml : (i + j) / 2 < ps.length := by omega
      obtain rfl := HX.out.1 (by simp; omega)
      have hc : w.cell? ⟨b1, o1 + (i + j) / 2, none⟩ = some (.int .i64 (ps[(i + j) / 2] : Int)) := by
        have := HX.out.2 ((i + j) / 2) (by simpa using hml)
        rw [List.getElem_map] at this
        exact this
      have hi1 : (i : Int) < (j : Int) := by omega
      have hls := less_any (ps[(i + j) / 2] : Int) x w
      have HI : Hid ((∀ k (h : k < ps.length), k < i → (ps[k] : Int) < x) ∧ (∀ k (h : k < ps.length), j ≤ k → x ≤ (ps[k] : Int))) := ⟨hlo, hhi⟩
      clear hlo hhi
      have hmi : (i + j) / 2 < j ∧ i ≤ (i + j) / 2 := by omega
      by_cases hb : (ps[(i + j) / 2] : Int) < x
      · have hb2 : decide ((ps[(i + j) / 2] : Int) < x) = true := by simpa using hb
        rw [hb2] at hls
        have HN : Hid ((∀ k (h : k < ps.length), k < (i + j) / 2 + 1 → (ps[k] : Int) < x) ∧ (∀ k (h : k < ps.length), j ≤ k → x ≤ (ps[k] : Int))) := by
          refine ⟨fun k h hk => ?_, HI.out.2⟩
          have := rises_at HR.out (show k ≤ (i + j) / 2 by omega) hml
          omega
        clear hb hb2
        go_wp2_with (go_at_call 70; refine hls.mono ?_; rintro e w9 ⟨rfl, hw⟩; have hw' := hw.symm; subst hw')
        go_roundw
        case rel => exact ⟨(i + j) / 2 + 1, j, by go_num, rfl, by omega, hj, HN.out.1, HN.out.2, trivial⟩
        case measure => simp [intOf]; omega
      · have hb2 : decide ((ps[(i + j) / 2] : Int) < x) = false := by simpa using hb
        rw [hb2] at hls
        have HN : Hid ((∀ k (h : k < ps.length), k < i → (ps[k] : Int) < x) ∧ (∀ k (h : k < ps.length), (i + j) / 2 ≤ k → x ≤ (ps[k] : Int))) := by
          refine ⟨HI.out.1, fun k h hk => ?_⟩
          have := rises_at HR.out hk h
          omega
        clear hb hb2
        go_wp2_with (go_at_call 70; refine hls.mono ?_; rintro e w9 ⟨rfl, hw⟩; have hw' := hw.symm; subst hw')
        go_roundw
        case rel => exact ⟨i, (i + j) / 2, rfl, by go_num, by omega, by omega, HN.out.1, HN.out.2, trivial⟩
        case measure => simp [intOf]; omega
    · obtain rfl : j = i := by omega
      have hlow : low ps x = j := low_at hj hlo hhi
      have HLow : Hid (low ps x = j) := hlow
      clear hlo hhi hlow
      by_cases hjl : j < ps.length
      · obtain rfl := HX.out.1 (by simp; omega)
        have hc : w.cell? ⟨b1, o1 + j, none⟩ = some (.int .i64 (ps[j] : Int)) := by
          have := HX.out.2 j (by simpa using hjl)
          rw [List.getElem_map] at this
          exact this
        have hi1 : (j : Int) < (ps.length : Int) := by omega
        have hnan := isNaN2_any
        by_cases hq : (ps[j] : Int) = x
        · have hq2 : ((ps[j] : Int) == x) = true := by simpa using hq
          have HF : Hid (found ps x = true) := by show found ps x = true; unfold found; rw [HLow.out, List.getElem?_eq_getElem hjl]; exact hq2
          go_wp2
          go_ret2
          exact ⟨by rw [HLow.out, HF.out]; simp, rfl⟩
        · have hq2 : ((ps[j] : Int) == x) = false := by simpa using hq
          have HF : Hid (found ps x = false) := by show found ps x = false; unfold found; rw [HLow.out, List.getElem?_eq_getElem hjl]; exact hq2
          go_wp2_with (go_at_call 71; refine (isNaN2_any _ _).mono ?_; rintro e w9 ⟨rfl, hw⟩; have hw' := hw.symm; subst hw')
          go_ret2
          exact ⟨by rw [HLow.out, HF.out]; simp, rfl⟩
      · have hi1 : ¬ (j : Int) < (ps.length : Int) := by omega
        have HF : Hid (found ps x = false) := by show found ps x = false; unfold found; rw [HLow.out, List.getElem?_eq_none (by omega)]
        go_wp2
        go_ret2
        exact ⟨by rw [HLow.out, HF.out]; rfl, rfl⟩

/-- The places of a list from one on, below another. -/
def between (x y : Int) (p : Nat) : Bool := decide (x ≤ (p : Int) ∧ (p : Int) < y)
def mid (ps : List Nat) (x y : Int) : List Nat := ps.filter (between x y)

theorem plc_rise (c : Nat) (T : List (List Int)) (l : List Int) : (plc c T l).Pairwise (· < ·) := List.Pairwise.filter _ List.pairwise_lt_range

theorem low_take {ps : List Nat} (hr : ps.Pairwise (· < ·)) (x : Int) : ps.filter (below x) = ps.take (low ps x) ∧ ∀ p ∈ ps.drop (low ps x), x ≤ (p : Int) := by
  induction ps with
  | nil => exact ⟨rfl, fun p hp => by simp at hp⟩
  | cons q ps ih =>
    obtain ⟨h1, h2⟩ := List.pairwise_cons.1 hr
    obtain ⟨i1, i2⟩ := ih h2
    by_cases hq : (q : Int) < x
    · have hb : below x q = true := by simpa [below] using hq
      have hl : low (q :: ps) x = low ps x + 1 := by unfold low; rw [List.filter_cons_of_pos hb]; rfl
      rw [hl, List.filter_cons_of_pos hb, List.take_succ_cons, i1, List.drop_succ_cons]
      exact ⟨rfl, i2⟩
    · have hb : ¬ below x q = true := by simpa [below] using hq
      have hz : ps.filter (below x) = [] := by
        rw [List.filter_eq_nil_iff]
        intro p hp
        have := h1 p hp
        simp [below]; omega
      have hl : low (q :: ps) x = 0 := by unfold low; rw [List.filter_cons_of_neg hb, hz]; rfl
      rw [hl, List.filter_cons_of_neg hb, hz]
      refine ⟨rfl, fun p hp => ?_⟩
      rcases List.mem_cons.1 hp with rfl | hp
      · omega
      · have := h1 p hp; omega

theorem mid_cut {ps : List Nat} (hr : ps.Pairwise (· < ·)) (x y : Int) : mid ps x y = (ps.drop (low ps x)).take (max (low ps x) (low ps y) - low ps x) := by
  have hx := low_take hr x
  have hy := low_take hr y
  have hlx := low_le ps x
  have hly := low_le ps y
  unfold mid
  conv => lhs; rw [← List.take_append_drop (low ps x) ps]
  rw [List.filter_append]
  have h1 : (ps.take (low ps x)).filter (between x y) = [] := by
    rw [List.filter_eq_nil_iff]
    intro p hp
    rw [← hx.1] at hp
    have := (List.mem_filter.1 hp).2
    simp only [below, decide_eq_true_eq] at this
    simp [between]; omega
  rw [h1, List.nil_append]
  have h2 : (ps.drop (low ps x)).filter (between x y) = (ps.drop (low ps x)).filter (below y) := by
    apply List.filter_congr
    intro p hp
    have := hx.2 p hp
    simp [between, below, this]
  rw [h2]
  have hr2 : (ps.drop (low ps x)).Pairwise (· < ·) := hr.sublist (List.drop_sublist _ _)
  rw [(low_take hr2 y).1]
  congr 1
  -- how many of the rest lie below y
  by_cases h : low ps x ≤ low ps y
  · have hsplit : low ps y = ((ps.take (low ps x)).filter (below y)).length + low (ps.drop (low ps x)) y := by
      have e : (ps.take (low ps x) ++ ps.drop (low ps x)).filter (below y) = (ps.take (low ps x)).filter (below y) ++ (ps.drop (low ps x)).filter (below y) := List.filter_append ..
      rw [List.take_append_drop] at e
      show (ps.filter (below y)).length = _
      rw [e, List.length_append]
      rfl
    have hall : (ps.take (low ps x)).filter (below y) = ps.take (low ps x) := by
      rw [List.filter_eq_self]
      intro p hp
      have : p ∈ ps.take (low ps y) := (List.take_subset_take_left (l := ps) h) hp
      rw [← hy.1] at this
      exact (List.mem_filter.1 this).2
    rw [hall, List.length_take] at hsplit
    have hlx2 : (List.filter (below x) ps).length = low ps x := rfl
    show low (ps.drop (low ps x)) y = _
    omega
  · have hxy : low ps y ≤ low ps x := by omega
    have hz : low (ps.drop (low ps x)) y = 0 := by
      unfold low
      rw [List.length_eq_zero_iff, List.filter_eq_nil_iff]
      intro p hp
      have hp2 : p ∈ ps.drop (low ps y) := (List.drop_subset_drop_left ps hxy) hp
      have := hy.2 p hp2
      simp [below]; omega
    rw [hz]; omega

section
variable {W W' : World} {F : Nat → Prop} {xb c : Nat} {T : List (List Int)} {tb : Nat} {fp : List LK} {cv : Value} {pb N len reach : Nat} {came : List E} {places : List Nat} {lv : Value} {vs : List Value} {ls : List (List Nat)} {kd : Nat → Nat}

set_option maxRecDepth 100000 in
set_option maxHeartbeats 1000000 in
theorem within_any (h : Lk W F xb c T tb fp cv pb N len reach came places lv vs ls kd) (hT : T.length ≤ 68719476736) (k : LK) (hk : IntsS W k.a k.b k.off k.l) (hl : k.l.length ≤ maxLen) (hn : 0 < k.l.length → ¬ F k.b) (x y : Int) :
    Calls Try.prog 33 #[.pointer (some ⟨xb, 0, none⟩), k.v, .int .i64 x, .int .i64 y] W fun e w' => ∃ a b off cap, e = .returned (.slice a (mid (plc c T k.l) x y).length cap) ∧ IntsS w' a b off ((mid (plc c T k.l) x y).map Int.ofNat) ∧ Stay W w' := by
  have hp := places_any h hT k hk hl hn
  have hr := plc_rise c T k.l
  have hlen := plc_len c T k.l
  rw [mid_cut hr x y]
  clear h hk
  generalize plc c T k.l = ps at hp hr hlen ⊢
  have h1 := low_le ps x
  have h2 := low_le ps y
  obtain ⟨M, hM⟩ : ∃ M, M = (ps.drop (low ps x)).take (max (low ps x) (low ps y) - low ps x) := ⟨_, rfl⟩
  rw [← hM]
  have HM : Hid (M.length = max (low ps x) (low ps y) - low ps x ∧ ∀ (w : World) (b : Nat) (a : Option Addr), IntsS w a b 0 (ps.map Int.ofNat) → IntsS w (some ⟨b, low ps x, none⟩) b (low ps x) (M.map Int.ofNat)) := by
    refine ⟨by rw [hM, List.length_take, List.length_drop]; omega, fun w b a hI => ⟨fun _ => rfl, fun j hj => ?_⟩⟩
    rw [List.length_map, hM, List.length_take, List.length_drop] at hj
    have := hI.2 (low ps x + j) (by rw [List.length_map]; omega)
    rw [Nat.zero_add] at this
    rw [this]
    simp [hM]
  clear hM
  have HB : Hid (∀ (w : World) (a1 : Option Addr) (b1 o1 c1 : Nat), IntsS w a1 b1 o1 (ps.map Int.ofNat) → ∀ x, Calls Try.prog 53 #[.slice a1 ps.length c1, .int .i64 x] w fun e w' => e = .returned (.tuple #[.int .i64 (low ps x), .bool (found ps x)]) ∧ w' = w) := fun w a1 b1 o1 c1 hI x => search_rise w a1 b1 o1 c1 ps hI (by omega) hr x
  clear hr
  go_enter Try.func33, Try.ntmps33
  go_wp2_with fail
  refine hp.mono ?_
  rintro e w1 ⟨a, b, n, cap, rfl, rfl, hc1, hc2, hna, hnb, hI, hs⟩
  have hb1 := HB.out w1 a b 0 cap hI x
  have hb2 := HB.out w1 a b 0 cap hI y
  have H1 : Hid (IntsS w1 a b 0 (ps.map Int.ofNat) ∧ Stay W w1) := ⟨hI, hs⟩
  clear hI hs hp HB
  unfold maxLen at hc2
  cases a with
  | none =>
    obtain ⟨hn1, rfl⟩ := hna rfl
    have hx0 : low ps x = 0 := by omega
    have hy0 : low ps y = 0 := by omega
    have hps : ps = [] := List.length_eq_zero_iff.1 hn1
    subst hps
    rw [hx0] at hb1
    rw [hy0] at hb2
    have hM0 : M = [] := List.length_eq_zero_iff.1 (by have := HM.out.1; omega)
    subst hM0
    go_wp2_with (first | (refine hb1.mono ?_; rintro e w9 ⟨rfl, hw⟩; have hw' := hw.symm; subst hw'; clear hb1) | (refine hb2.mono ?_; rintro e w9 ⟨rfl, hw⟩; have hw' := hw.symm; subst hw'))
    go_ret
    exact ⟨none, 0, 0, 0, rfl, ⟨fun h => by simp at h, fun j hj => by simp at hj⟩, H1.out.2⟩
  | some ad =>
    obtain rfl := hnb ad rfl
    go_wp2_with (first | (refine hb1.mono ?_; rintro e w9 ⟨rfl, hw⟩; have hw' := hw.symm; subst hw'; clear hb1) | (refine hb2.mono ?_; rintro e w9 ⟨rfl, hw⟩; have hw' := hw.symm; subst hw'))
    all_goals go_ret
    all_goals have hMl := HM.out.1
    all_goals first
      | (refine ⟨some ⟨b, low ps x, none⟩, ⟨cap - low ps x, ?_⟩, ⟨b, low ps x, HM.out.2 w1 b _ H1.out.1⟩, H1.out.2⟩
         show Ending.returned (Value.slice _ _ _) = _
         simp only [Ending.returned.injEq, Value.slice.injEq, and_true, true_and]
         omega)
      | (have hM0 : M = [] := List.length_eq_zero_iff.1 (by omega)
         subst hM0
         exact ⟨some ⟨b, 0, none⟩, ⟨0, rfl⟩, ⟨b, 0, fun _ => rfl, fun j hj => by simp at hj⟩, H1.out.2⟩)
end
end Go.Proofs.Ytnhmjheipfopoaa.L
namespace Go.Proofs.Ytnhmjheipfopoaa.L
open Go.RowKit Go.Maps Go.Proofs.Ytnhmjheipfopoaa

/-- A list of its own, as a key. -/
theorem own_key {base : Nat} {w : World} {v : Value} {zs : List Int} (h : OwnI base w v zs) (hl : zs.length ≤ maxLen) : ∃ k : LK, v = k.v ∧ k.l = zs ∧ IntsS w k.a k.b k.off k.l ∧ k.l.length ≤ maxLen ∧ (0 < k.l.length → base ≤ k.b ∧ k.b < w.heap.size) := by
  obtain ⟨a, b, c, rfl, hI⟩ := h.ints
  refine ⟨⟨a, b, 0, c, zs⟩, rfl, rfl, hI, hl, fun h0 => ⟨?_, ints_lt hI h0⟩⟩
  have ha := hI.1 h0
  rcases h.2 with ⟨hx, _⟩ | ⟨g, c2, cur, hx, hb, _⟩
  · rw [ha] at hx; simp at hx
  · rw [ha] at hx
    simp only [Value.slice.injEq, Option.some.injEq, Addr.mk.injEq, and_true] at hx
    rw [hx.1]; exact hb

theorem own_at {base : Nat} {w : World} {v : Value} {n : Nat} {t : TypeId} {xs : List Value} {k : Nat} (h : w.ownsRow base t 1 v n xs) (hk : v.ownBlock = some k) : k < w.heap.size := by
  rcases h.2 with ⟨rfl, _⟩ | ⟨g, c2, cur, rfl, hb, hh, _⟩
  · simp [Value.ownBlock] at hk
  · simp only [Value.ownBlock, Option.some.injEq] at hk
    subst hk; exact (Array.getElem?_eq_some_iff.1 hh).1

/-- F, and all that is new since there were base blocks. -/
def Grow (F : Nat → Prop) (base : Nat) (w' : World) (k : Nat) : Prop := F k ∨ (base ≤ k ∧ k < w'.heap.size)

section
variable {W W' : World} {F : Nat → Prop} {xb c : Nat} {T : List (List Int)} {tb : Nat} {fp : List LK} {cv : Value} {pb N len reach : Nat} {came : List E} {places : List Nat} {lv : Value} {vs : List Value} {ls : List (List Nat)} {kd : Nat → Nat}

theorem Lk.lvlt (h : Lk W F xb c T tb fp cv pb N len reach came places lv vs ls kd) (k : Nat) (hk : lv.ownBlock = some k) : k < W.heap.size := h.lt _ (h.own.2.2.2.1 k hk)

/-- Behind the Put of a first tuple. -/
theorem Lk.first (h : Lk W F xb c T tb fp cv pb N len reach came places lv vs ls kd) {base : Nat} (hb : base ≤ W.heap.size) {k : LK} {t : List Int} (hk : k.l = cutL t c) (hno : plc c T k.l = []) (hkb : 0 < k.l.length → base ≤ k.b ∧ k.b < W.heap.size) (hFb : ∀ j, F j → j < base) (ht : Lib.bitLen c ≤ t.length)
    (A : Added W tb (k :: fp) cv pb N len came k (T.length : Int) W') : LkS W' (Grow F base W') xb c (T ++ [t]) ∧ Turn F W W' := by
  obtain ⟨cv', pb', reach', came', places', hT, hS, hTn, hft⟩ := A
  have hTF : Turn F W W' := hTn.mono (fun i _ hi => h.own.2.1 i hi)
  have hsz := hTn.size
  have hkF : 0 < k.l.length → ¬ F k.b := fun h0 hf => by have := hFb _ hf; have := hkb h0; omega
  have hkN : ∀ j, F j → ¬ (0 < k.l.length ∧ j = k.b) := fun j hf q => hkF q.1 (q.2 ▸ hf)
  have hfn : ∀ j, fnfoot (k :: fp) j → fnfoot fp j ∨ (0 < k.l.length ∧ j = k.b) := by
    rintro j ⟨y, hy, h0, rfl⟩
    rcases List.mem_cons.1 hy with rfl | hy
    · exact .inr ⟨h0, rfl⟩
    · exact .inl ⟨y, hy, h0, rfl⟩
  refine ⟨⟨tb, k :: fp, cv', pb', _, len + 1, reach', came', places', lv, vs, ls, fun j => if j < W.heap.size then (if 0 < k.l.length ∧ j = k.b then 2 else kd j) else 1, ?_, hT, ?_, (h.cont.first hk hno _).sim hS, ⟨?_, ?_, ?_, ?_, ?_⟩, ⟨?_, ?_, ?_, ?_, ?_⟩, ?_, h.col, ?_⟩, hTF⟩
  · refine hTn.heap h.box (fun hf => ?_)
    have := h.parts.tab _ hf
    rw [h.parts.box] at this; omega
  · refine h.lst.turn hTn (fun j hj hf => ?_) (fun i v j h1 h2 hf => ?_)
    · have := h.parts.tab _ hf; rw [h.parts.arr j hj] at this; omega
    · have := h.parts.tab _ hf; rw [h.parts.lists i v j h1 h2] at this; omega
  · have hl := h.lt _ h.own.1
    show (if xb < W.heap.size then (if 0 < k.l.length ∧ xb = k.b then 2 else kd xb) else 1) = 0
    rw [if_pos hl, if_neg (hkN _ h.own.1), h.parts.box]
  · intro j hj
    show (if j < W.heap.size then (if 0 < k.l.length ∧ j = k.b then 2 else kd j) else 1) = 1
    rcases hft j hj with hf | hf
    · rw [if_pos (h.lt _ (h.own.2.1 j hf)), if_neg (hkN _ (h.own.2.1 j hf)), h.parts.tab j hf]
    · rw [if_neg (by omega)]
  · intro j hj
    show (if j < W.heap.size then (if 0 < k.l.length ∧ j = k.b then 2 else kd j) else 1) = 2
    rcases hfn j hj with hf | ⟨h0, rfl⟩
    · rw [if_pos (h.lt _ (h.own.2.2.1 j hf)), if_neg (hkN _ (h.own.2.2.1 j hf)), h.parts.keys j hf]
    · rw [if_pos (hkb h0).2, if_pos ⟨h0, rfl⟩]
  · intro j hj
    show (if j < W.heap.size then (if 0 < k.l.length ∧ j = k.b then 2 else kd j) else 1) = 3
    have hf := h.own.2.2.2.1 j hj
    rw [if_pos (h.lt _ hf), if_neg (hkN _ hf), h.parts.arr j hj]
  · intro i v j h1 h2
    show (if j < W.heap.size then (if 0 < k.l.length ∧ j = k.b then 2 else kd j) else 1) = 4 + i
    have hf := h.own.2.2.2.2 i v j h1 h2
    rw [if_pos (h.lt _ hf), if_neg (hkN _ hf), h.parts.lists i v j h1 h2]
  · exact .inl h.own.1
  · intro j hj
    rcases hft j hj with hf | hf
    · exact .inl (h.own.2.1 j hf)
    · exact .inr ⟨by omega, hT.lt j (.inl hj)⟩
  · intro j hj
    rcases hfn j hj with hf | ⟨h0, rfl⟩
    · exact .inl (h.own.2.2.1 j hf)
    · have := hkb h0; exact .inr ⟨this.1, by omega⟩
  · intro j hj; exact .inl (h.own.2.2.2.1 j hj)
  · intro i v j h1 h2; exact .inl (h.own.2.2.2.2 i v j h1 h2)
  · rintro j (hf | hf)
    · have := h.lt j hf; omega
    · exact hf.2
  · intro t' ht'
    rcases List.mem_append.1 ht' with h1 | h1
    · exact h.wide t' h1
    · rw [List.mem_singleton.1 h1]; exact ht

set_option maxRecDepth 100000 in
set_option maxHeartbeats 1000000 in
theorem join_first (h : Lk W F xb c T tb fp cv pb N len reach came places lv vs ls kd) (hT : T.length + 1 ≤ 68719476736) (a : Option Addr) (b o cap : Nat) (t : List Int) (hI : IntsS W a b o t) (hl : t.length ≤ maxLen) (hw : Lib.bitLen c ≤ t.length) (h0 : plc c T (cutL t c) = []) :
    Calls Try.prog 43 #[.pointer (some ⟨xb, 0, none⟩), .slice a t.length cap, .int .i64 T.length] W fun e w' => e = .returned (.tuple #[]) ∧ LkS w' (Grow F W.heap.size w') xb c (T ++ [t]) ∧ Turn F W w' := by
  have hcut := cut_any W a b o cap c t hI hl h.col hw
  have hcl : (cutL t c).length ≤ maxLen := by
    have := cols_len c 16
    unfold cutL maxLen; rw [List.length_map]; omega
  have c0 := h.c0
  have c1 := h.c1
  have HH : Hid (Lk W F xb c T tb fp cv pb N len reach came places lv vs ls kd) := h
  clear h hI
  go_enter Try.func43, Try.ntmps43
  go_wp2_with fail
  refine hcut.mono ?_
  rintro e w1 ⟨v, rfl, hown, hs1⟩
  obtain ⟨k, rfl, hk, hIk, hkl, hkb⟩ := own_key hown hcl
  have h1 := HH.out.stay hs1
  have hg := get_no (h1.ask k hIk hkl (fun q hf => by have := HH.out.lt _ hf; have := (hkb q).1; omega)) k (List.mem_cons_self ..) (h1.no (by rw [hk]; exact h0))
  have c1' := hs1.cell c1
  have HK : Hid (k.l = cutL t c ∧ IntsS w1 k.a k.b k.off k.l ∧ k.l.length ≤ maxLen ∧ (0 < k.l.length → W.heap.size ≤ k.b ∧ k.b < w1.heap.size) ∧ Stay W w1 ∧ plc c T k.l = []) := ⟨hk, hIk, hkl, hkb, hs1, by rw [hk]; exact h0⟩
  clear hcut hown hs1 hk hIk hkl hkb h1 c0 c1 h0
  go_wp2_with fail
  refine hg.mono ?_
  rintro e w2 ⟨rfl, hs2⟩
  have H2 : Hid (Stay w1 w2) := hs2
  have c1'' := hs2.cell c1'
  clear hg hs2 c1'
  have hput : Calls Try.prog 63 #[.pointer (some ⟨tb, 0, none⟩), k.v, .int .i64 T.length] w2 fun e' w' => e' = .returned (.tuple #[.int .i64 0, .bool false, .int .i64 0]) ∧ LkS w' (Grow F W.heap.size w') xb c (T ++ [t]) ∧ Turn F W w' := by
    obtain ⟨hk, hIk, hkl, hkb, hs1, h0⟩ := HK.out
    have hsW := hs1.trans H2.out
    have h2 := HH.out.stay hsW
    have hask := h2.ask k (hIk.stay H2.out) hkl (fun q hf => by have := HH.out.lt _ hf; have := (hkb q).1; omega)
    refine (put_new hask k (List.mem_cons_self ..) T.length (h2.no h0) (by have := h2.cont.few; omega)).mono ?_
    rintro e w3 ⟨rfl, hA⟩
    obtain ⟨r1, r2⟩ := h2.first (base := W.heap.size) hsW.size hk h0 (fun q => ⟨(hkb q).1, Nat.lt_of_lt_of_le (hkb q).2 H2.out.size⟩) HH.out.lt hw hA
    exact ⟨rfl, r1, (Turn.of_stay hsW).trans r2⟩
  clear HK
  go_wp2_with fail
  refine hput.mono ?_
  rintro e w3 ⟨rfl, hr⟩
  have HR : Hid _ := hr
  clear hput hr
  go_wp2
  go_end0
  exact ⟨rfl, HR.out⟩
end
end Go.Proofs.Ytnhmjheipfopoaa.L
