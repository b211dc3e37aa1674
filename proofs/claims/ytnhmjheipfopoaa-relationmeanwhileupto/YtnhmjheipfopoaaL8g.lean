/- places and within: in which block the places of a key lie. -/
import Derived.Test.YtnhmjheipfopoaaL8f
namespace Go.Proofs.Ytnhmjheipfopoaa.L
open Go.RowKit Go.Maps Go.Proofs.Ytnhmjheipfopoaa

/-- A block that is new, or that of one of the lists, of no fewer than m places. -/
def BK (base : Nat) (vs : List Value) (ls : List (List Nat)) (b m : Nat) : Prop := base ≤ b ∨ ∃ (i : Nat) (v : Value) (ps : List Nat), vs[i]? = some v ∧ ls[i]? = some ps ∧ v.ownBlock = some b ∧ m ≤ ps.length
theorem BK.mono {base : Nat} {vs : List Value} {ls : List (List Nat)} {b m m' : Nat} (h : BK base vs ls b m) (hm : m' ≤ m) : BK base vs ls b m' := by
  rcases h with h | ⟨i, v, ps, h1, h2, h3, h4⟩
  · exact .inl h
  · exact .inr ⟨i, v, ps, h1, h2, h3, by omega⟩

section
variable {W W' : World} {F : Nat → Prop} {xb c : Nat} {T : List (List Int)} {tb : Nat} {fp : List LK} {cv : Value} {pb N len reach : Nat} {came : List E} {places : List Nat} {lv : Value} {vs : List Value} {ls : List (List Nat)} {kd : Nat → Nat}

set_option maxRecDepth 100000 in
set_option maxHeartbeats 1000000 in
/-- places: the places of a key, as a list in memory. -/
theorem places_anyN (h : Lk W F xb c T tb fp cv pb N len reach came places lv vs ls kd) (hT : T.length ≤ 68719476736) (k : LK) (hk : IntsS W k.a k.b k.off k.l) (hl : k.l.length ≤ maxLen) (hn : 0 < k.l.length → ¬ F k.b) :
    Calls Try.prog 52 #[.pointer (some ⟨xb, 0, none⟩), k.v] W fun e w' => ∃ a b n cap, e = .returned (.slice a n cap) ∧ n = (plc c T k.l).length ∧ n ≤ cap ∧ cap ≤ maxLen ∧ (a = none → n = 0 ∧ cap = 0) ∧ (∀ x, a = some x → x = ⟨b, 0, none⟩) ∧ IntsS w' a b 0 ((plc c T k.l).map Int.ofNat) ∧ Stay W w' ∧ (0 < n → BK W.heap.size vs ls b n) := by
  have c1 := h.c1
  by_cases h0 : plc c T k.l = []
  · have hg := get_no (h.ask k hk hl hn) k (List.mem_cons_self ..) (h.no h0)
    rw [h0]
    clear h hk
    go_enter Try.func52, Try.ntmps52
    go_wp2_with (go_at_call 62; refine hg.mono ?_; rintro e w9 ⟨rfl, hs⟩; have HS : Hid (Stay W w9) := hs; clear hs)
    go_ret
    exact ⟨none, 0, 0, 0, rfl, rfl, Nat.le_refl _, by unfold maxLen; omega, fun _ => ⟨rfl, rfl⟩, fun x hx => by simp at hx, ⟨fun h => by simp at h, fun j hj => by simp at hj⟩, HS.out, fun h => by omega⟩
  · obtain ⟨t, e, he, hth, hs, hH, _⟩ := h.yes h0
    have hg := get_yes (h.ask k hk hl hn) k (List.mem_cons_self ..) he hth hs
    rcases hH with ⟨p, hv, h2⟩ | ⟨j, hv, h2, h3⟩
    · rw [hv] at hg
      have hp0 : ¬ (p : Int) < 0 := by omega
      rw [h2]
      clear h hk
      go_enter Try.func52, Try.ntmps52
      go_wp2_with (go_at_call 62; refine hg.mono ?_; rintro e w9 ⟨rfl, hs⟩; have HS : Hid (Stay W w9) := hs; clear hs)
      go_ret
      exact ⟨_, w9.heap.size, 1, 1, rfl, rfl, Nat.le_refl _, by unfold maxLen; omega, fun h => by simp at h, fun x hx => (Option.some.inj hx).symm, ints_new _ [Int.ofNat p] _, HS.out.alloc _, fun _ => .inl HS.out.size⟩
    · obtain ⟨g, cap, v, hlv, hc1, hc2, hvs, hcell, _, hown⟩ := h.lst.at h2
      have hfew := h.cont.few
      have hll := h.lst.len
      have hjl := (List.getElem?_eq_some_iff.1 h2).1
      have c2 := h.c2
      rw [hlv] at c2
      rw [hv] at hg
      have hlt : (-1 - (j : Int)) < 0 := by omega
      have hjj : (-1 - (-1 - (j : Int))) = j := by omega
      have hjv : (j : Int) < (vs.length : Int) := by omega
      have hjb : j ≤ 68719476736 := by omega
      obtain ⟨a6, b6, c6, rfl, hI⟩ := hown.ints
      have HV : Hid (vs[j]? = some (.slice a6 ((plc c T k.l).map Int.ofNat).length c6) ∧ ls[j]? = some (plc c T k.l)) := ⟨hvs, h2⟩
      have HO : Hid (OwnI 0 W (.slice a6 ((plc c T k.l).map Int.ofNat).length c6) ((plc c T k.l).map Int.ofNat) ∧ (IntsS W a6 b6 0 ((plc c T k.l).map Int.ofNat)) ∧ 2 ≤ (plc c T k.l).length) := ⟨hown, hI, h3⟩
      rw [List.length_map] at hcell
      clear h hk hown hI hvs h2 h3 h0 he hs hll hfew hjl hlv
      go_enter Try.func52, Try.ntmps52
      go_wp2_with (go_at_call 62; refine hg.mono ?_; rintro e w9 ⟨rfl, hs⟩; have HS : Hid (Stay W w9) := hs; have c2 := hs.cell c2; have hcell := hs.cell hcell; clear hs)
      go_ret
      obtain ⟨hO, hI, h2⟩ := HO.out
      have ha := hI.1 (by simp; omega)
      rcases hO.2 with ⟨hx, _⟩ | ⟨g2, c2', cur, hx, _, hh, h1, h5, _, _⟩
      · rw [ha] at hx; simp at hx
      · simp only [Value.slice.injEq] at hx
        obtain ⟨_, _, rfl⟩ := hx
        refine ⟨a6, b6, _, c6, rfl, by simp, by simpa using h1, h5, fun h => ?_, fun x hx => ?_, hI.stay HS.out, HS.out, fun _ => .inr ⟨j, _, _, HV.out.1, HV.out.2, by rw [ha]; rfl, by simp⟩⟩
        · rw [h] at ha; simp at ha
        · rw [hx] at ha; exact Option.some.inj ha
set_option maxRecDepth 100000 in
set_option maxHeartbeats 1000000 in
theorem within_anyN (h : Lk W F xb c T tb fp cv pb N len reach came places lv vs ls kd) (hT : T.length ≤ 68719476736) (k : LK) (hk : IntsS W k.a k.b k.off k.l) (hl : k.l.length ≤ maxLen) (hn : 0 < k.l.length → ¬ F k.b) (x y : Int) :
    Calls Try.prog 33 #[.pointer (some ⟨xb, 0, none⟩), k.v, .int .i64 x, .int .i64 y] W fun e w' => ∃ a b off cap, e = .returned (.slice a (mid (plc c T k.l) x y).length cap) ∧ IntsS w' a b off ((mid (plc c T k.l) x y).map Int.ofNat) ∧ Stay W w' ∧ (0 < (mid (plc c T k.l) x y).length → BK W.heap.size vs ls b (off + (mid (plc c T k.l) x y).length)) := by
  have hp := places_anyN h hT k hk hl hn
  have hr := plc_rise c T k.l
  have hlen := plc_len c T k.l
  rw [mid_cut hr x y]
  clear h hk
  generalize plc c T k.l = ps at hp hr hlen ⊢
  have h1 := low_le ps x
  have h2 := low_le ps y
  obtain ⟨M, hM⟩ : ∃ M, M = (ps.drop (low ps x)).take (max (low ps x) (low ps y) - low ps x) := ⟨_, rfl⟩
  rw [← hM]
  have HM : Hid (M.length = max (low ps x) (low ps y) - low ps x ∧ ∀ (w : World) (b : Nat) (a : Option Addr), IntsS w a b 0 (ps.map Int.ofNat) → IntsS w (some ⟨b, low ps x, none⟩) b (low ps x) (M.map Int.ofNat)) := by
    refine ⟨by rw [hM, List.length_take, List.length_drop]; omega, fun w b a hI => ⟨fun _ => rfl, fun j hj => ?_⟩⟩
    rw [List.length_map, hM, List.length_take, List.length_drop] at hj
    have := hI.2 (low ps x + j) (by rw [List.length_map]; omega)
    rw [Nat.zero_add] at this
    rw [this]
    simp [hM]
  clear hM
  have HB : Hid (∀ (w : World) (a1 : Option Addr) (b1 o1 c1 : Nat), IntsS w a1 b1 o1 (ps.map Int.ofNat) → ∀ x, Calls Try.prog 53 #[.slice a1 ps.length c1, .int .i64 x] w fun e w' => e = .returned (.tuple #[.int .i64 (low ps x), .bool (found ps x)]) ∧ w' = w) := fun w a1 b1 o1 c1 hI x => search_rise w a1 b1 o1 c1 ps hI (by omega) hr x
  clear hr
  go_enter Try.func33, Try.ntmps33
  go_wp2_with fail
  refine hp.mono ?_
  rintro e w1 ⟨a, b, n, cap, rfl, rfl, hc1, hc2, hna, hnb, hI, hs, hbk⟩
  have HK : Hid (0 < M.length → BK W.heap.size vs ls b (low ps x + M.length)) := fun h0 => (hbk (by have := HM.out.1; omega)).mono (by have := HM.out.1; omega)
  clear hbk
  have hb1 := HB.out w1 a b 0 cap hI x
  have hb2 := HB.out w1 a b 0 cap hI y
  have H1 : Hid (IntsS w1 a b 0 (ps.map Int.ofNat) ∧ Stay W w1) := ⟨hI, hs⟩
  clear hI hs hp HB
  unfold maxLen at hc2
  cases a with
  | none =>
    obtain ⟨hn1, rfl⟩ := hna rfl
    have hx0 : low ps x = 0 := by omega
    have hy0 : low ps y = 0 := by omega
    have hps : ps = [] := List.length_eq_zero_iff.1 hn1
    subst hps
    rw [hx0] at hb1
    rw [hy0] at hb2
    have hM0 : M = [] := List.length_eq_zero_iff.1 (by have := HM.out.1; omega)
    subst hM0
    go_wp2_with (first | (refine hb1.mono ?_; rintro e w9 ⟨rfl, hw⟩; have hw' := hw.symm; subst hw'; clear hb1) | (refine hb2.mono ?_; rintro e w9 ⟨rfl, hw⟩; have hw' := hw.symm; subst hw'))
    go_ret
    exact ⟨none, 0, 0, 0, rfl, ⟨fun h => by simp at h, fun j hj => by simp at hj⟩, H1.out.2, fun h => by simp at h⟩
  | some ad =>
    obtain rfl := hnb ad rfl
    go_wp2_with (first | (refine hb1.mono ?_; rintro e w9 ⟨rfl, hw⟩; have hw' := hw.symm; subst hw'; clear hb1) | (refine hb2.mono ?_; rintro e w9 ⟨rfl, hw⟩; have hw' := hw.symm; subst hw'))
    all_goals go_ret
    all_goals have hMl := HM.out.1
    all_goals first
      | (refine ⟨some ⟨b, low ps x, none⟩, ⟨cap - low ps x, ?_⟩, b, low ps x, HM.out.2 w1 b _ H1.out.1, H1.out.2, HK.out⟩
         show Ending.returned (Value.slice _ _ _) = _
         simp only [Ending.returned.injEq, Value.slice.injEq, and_true, true_and]
         omega)
      | (have hM0 : M = [] := List.length_eq_zero_iff.1 (by omega)
         subst hM0
         exact ⟨some ⟨b, 0, none⟩, ⟨0, rfl⟩, b, 0, ⟨fun _ => rfl, fun j hj => by simp at hj⟩, H1.out.2, fun h => by simp at h⟩)

/-- So a lookup does not write there. -/
theorem Lk.sk (h : Lk W F xb c T tb fp cv pb N len reach came places lv vs ls kd) {b m : Nat} (hb : BK W.heap.size vs ls b m) : Sk xb tb pb cv lv vs ls b m := by
  rcases hb with hb | ⟨i, v, ps, h1, h2, h3, h4⟩
  · have hn : ¬ F b := fun e => by have := h.lt b e; omega
    exact ⟨fun e => hn (e ▸ h.own.1), fun e => hn (h.own.2.1 b e), fun e => hn (h.own.2.2.2.1 b e), fun i v ps h1 _ h3 => absurd (h.own.2.2.2.2 i v b h1 h3) hn⟩
  · have hk := h.parts.lists i v b h1 h3
    refine ⟨fun e => ?_, fun e => ?_, fun e => ?_, fun i' v' ps' k1 k2 k3 => ?_⟩
    · rw [e, h.parts.box] at hk; omega
    · rw [h.parts.tab b e] at hk; omega
    · rw [h.parts.arr b e] at hk; omega
    · have hk' := h.parts.lists i' v' b k1 k3
      obtain rfl : i' = i := by omega
      rw [h2] at k2
      obtain rfl := Option.some.inj k2
      exact h4
end

section
variable {W W' : World} {F : Nat → Prop} {rb ar : Nat} {T : List (List Int)} {vv : Value} {mb : Nat} {L : List (Nat × Nat)} {Fs : Nat → Nat → Prop}
/-- within, of a relation's lookup: while its places are gone through, nobody writes there. -/
theorem within_N (h : Rl W F rb ar T vv mb L Fs) (hw : T ≠ [] → (lkp L (2 ^ ar - 1)).isSome = true) (hT : T.length ≤ 68719476736) {c xb : Nat} (hx : lkp L c = some xb) (k : LK) (hk : IntsS W k.a k.b k.off k.l) (hl : k.l.length ≤ maxLen) (hn : 0 < k.l.length → ¬ F k.b) (x y : Int) (k9 : Nat) (hk9 : ¬ F k9) (hl9 : k9 < W.heap.size) :
    Calls Try.prog 33 #[.pointer (some ⟨xb, 0, none⟩), k.v, .int .i64 x, .int .i64 y] W fun e w' => ∃ a b off cap k0 n0, e = .returned (.slice a (mid (plc c T k.l) x y).length cap) ∧ IntsS w' a b off ((mid (plc c T k.l) x y).map Int.ofNat) ∧ Stay W w' ∧ RlN w' F rb ar T vv mb L Fs k0 n0 ∧ (0 < (mid (plc c T k.l) x y).length → b = k0 ∧ off + (mid (plc c T k.l) x y).length ≤ n0) ∧ (0 < n0 → F k0 ∨ W.heap.size ≤ k0) := by
  obtain ⟨tb, fp, cv, pb, N, len, reach, came, places, lv, vs, ls, kd, hL⟩ := h.looks c xb hx
  refine (within_anyN hL hT k hk hl (fun h0 hf => hn h0 (h.foot.2.2.2 c xb hx _ hf)) x y).mono ?_
  rintro e w' ⟨a, b, off, cap, rfl, hI, hs, hb⟩
  by_cases h0 : 0 < (mid (plc c T k.l) x y).length
  · have hbk := hb h0
    have hbl : b < w'.heap.size := ints_lt hI (by simpa using h0)
    refine ⟨a, b, off, cap, b, off + (mid (plc c T k.l) x y).length, rfl, hI, hs, ?_, fun _ => ⟨rfl, Nat.le_refl _⟩, fun _ => ?_⟩
    by_cases hFb : F b
    · have hR := h.stay hs
      have hbW := h.lt b hFb
      rcases id hbk with q | ⟨i, v, ps, h1, h2, h3, h4⟩
      · omega
      · have hbF := hL.own.2.2.2.2 i v b h1 h3
        refine ⟨hR, hw, fun d z hz => ?_, fun e => ?_, fun e => ?_, fun e => ?_, hbl⟩
        · by_cases hd : d = c
          · subst hd
            rw [hx] at hz
            obtain rfl := Option.some.inj hz
            exact ⟨_, _, _, _, _, _, _, _, _, _, _, _, _, hL.stay hs, hL.sk hbk⟩
          · exact LkN.far (hR.looks d z hz) (fun q => h.apart c xb d z hx hz (fun e => hd e.symm) b hbF q)
        · exact (h.mine.2.2 c xb hx b hbF).1 e
        · exact (h.mine.2.2 c xb hx b hbF).2.1 e
        · exact (h.mine.2.2 c xb hx b hbF).2.2 e
    · exact RlN.far (h.stay hs) hw hFb hbl
    · rcases hbk with q | ⟨i, v, ps, h1, _, h3, _⟩
      · exact .inr q
      · exact .inl (h.foot.2.2.2 c xb hx b (hL.own.2.2.2.2 i v b h1 h3))
  · exact ⟨a, b, off, cap, k9, 0, rfl, hI, hs, RlN.far (h.stay hs) hw hk9 (Nat.lt_of_lt_of_le hl9 hs.size), fun q => absurd q h0, fun q => by omega⟩
end
end Go.Proofs.Ytnhmjheipfopoaa.L
