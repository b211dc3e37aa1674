/- newLookup, places. -/
import Derived.Test.YtnhmjheipfopoaaL4d
namespace Go.Proofs.Ytnhmjheipfopoaa.L
open Go.RowKit Go.Maps Go.Proofs.Ytnhmjheipfopoaa

set_option maxRecDepth 100000 in
set_option maxHeartbeats 1000000 in
theorem newLookup_any (w : World) (c : Nat) (hc : c < 65536) : Calls Try.prog 50 #[.agg (rowV c)] w fun e w' => ∃ xb, e = .returned (.pointer (some ⟨xb, 0, none⟩)) ∧ w.heap.size ≤ xb ∧ LkS w' (fun k => w.heap.size ≤ k ∧ k < w'.heap.size) xb c [] ∧ Stay w w' := by
  obtain ⟨V, hV⟩ : ∃ V, V = rowV c := ⟨_, rfl⟩
  have HV : Hid (V = rowV c) := hV
  rw [← hV]
  clear hV
  have hn := new_any (w := w.alloc (.cells V 64)) (fp := []) (fun k hk => by simp at hk)
  have hcol : ∀ W, Calls Try.prog 69 #[.agg V] W fun e w' => e = .returned (.int .u16 c) ∧ Stay W w' := fun W => by rw [HV.out]; exact columns_any W c hc
  go_enter Try.func50, Try.ntmps50
  go_wp2_with (first
    | (go_at_call 66; refine hn.mono ?_; rintro e w1 ⟨rfl, hT1, hs1⟩; have H1 : Hid (Tab w1 ((w.alloc (.cells V 64)).heap.size + 1) [] (.slice none 0 0) (w.alloc (.cells V 64)).heap.size 8 0 0 [] (List.replicate 8 0) ∧ Stay (w.alloc (.cells V 64)) w1) := ⟨hT1, hs1⟩; clear hT1 hs1 hn)
    | (refine wpList_load_row rfl 64 (.tmp 1) rfl w.heap.size rfl 64 V (0, 0) (.array 16 4) (H1.out.2.heap (heap_alloc_new _ _)) Try.underlying64 rfl (by rw [HV.out]; exact sizeRow' _) ?_)
    | (go_at_call 69; refine (hcol _).mono ?_; rintro e w2 ⟨rfl, hs2⟩; have H2 : Hid (Stay w1 w2) := hs2; clear hs2))
  go_ret
  obtain ⟨hT, hs1⟩ := H1.out
  have hs2 := H2.out
  have hz : (w.alloc (.cells V 64)).heap.size = w.heap.size + 1 := by simp
  rw [hz] at hT
  have hS : Stay w w2 := (Stay.new w _).trans (hs1.trans hs2)
  refine ⟨w2.heap.size, rfl, hS.size, ?_, hS.alloc _⟩
  have hT2 := hT.stay (hs2.alloc (.cells #[.int .u16 c, .pointer (some ⟨w.heap.size + 1 + 1, 0, none⟩), .slice none 0 0] 97))
  have hb := hT.lt (w.heap.size + 1 + 1) (.inl (.inl rfl))
  have hp := hT.lt (w.heap.size + 1) (.inl (.inr (.inl rfl)))
  have hz2 := hs2.size
  have hfoot : ∀ k, foot (w.heap.size + 1 + 1) (w.heap.size + 1) (.slice none 0 0) k → k = w.heap.size + 1 + 1 ∨ k = w.heap.size + 1 := by
    rintro k (rfl | rfl | h)
    · exact .inl rfl
    · exact .inr rfl
    · simp [Value.ownBlock] at h
  have hno : ∀ k, ¬ fnfoot [] k := by rintro k ⟨x, hx, _⟩; simp at hx
  refine ⟨w.heap.size + 1 + 1, [], .slice none 0 0, w.heap.size + 1, 8, 0, 0, [], List.replicate 8 0, .slice none 0 0, [], [], fun k => if k = w2.heap.size then 0 else 1, ?_⟩
  refine ⟨heap_new _ _, hT2, ⟨⟨rfl, .inl ⟨rfl, rfl⟩⟩, rfl, fun i v ps h => by simp at h⟩, Cont.empty c, ⟨by simp, ?_, fun k hk => absurd hk (hno k), fun k hk => by simp [Value.ownBlock] at hk, fun i v k h => by simp at h⟩, ⟨?_, ?_, fun k hk => absurd hk (hno k), fun k hk => by simp [Value.ownBlock] at hk, fun i v k h => by simp at h⟩, fun k hk => hk.2, hc, fun t ht => by simp at ht⟩
  · intro k hk
    have := hfoot k hk
    show (if k = w2.heap.size then 0 else 1) = 1
    rw [if_neg (by omega)]
  · simp; exact hS.size
  · intro k hk
    have := hfoot k hk
    simp; omega

section
variable {W W' : World} {F : Nat → Prop} {xb c : Nat} {T : List (List Int)} {tb : Nat} {fp : List LK} {cv : Value} {pb N len reach : Nat} {came : List E} {places : List Nat} {lv : Value} {vs : List Value} {ls : List (List Nat)} {kd : Nat → Nat}

/-- What lies at one of the lists. -/
theorem LsI.at (h : LsI W lv vs ls) {i : Nat} {ps : List Nat} (hi : ls[i]? = some ps) : ∃ g cap v, lv = .slice (some ⟨g, 0, none⟩) vs.length cap ∧ vs.length ≤ cap ∧ cap ≤ maxLen ∧ vs[i]? = some v ∧ W.cell? ⟨g, i, none⟩ = some v ∧ W.frozen? ⟨g, i, none⟩ = false ∧ OwnI 0 W v (ps.map Int.ofNat) := by
  have hil := (List.getElem?_eq_some_iff.1 hi).1
  have hl := h.len
  obtain ⟨v, hv⟩ : ∃ v, vs[i]? = some v := ⟨_, List.getElem?_eq_getElem (by omega)⟩
  have h0 := h.own
  rcases h0.2 with ⟨_, h2⟩ | ⟨g, cap, cur, hx, hb, hh, h1, h2, h3, h4⟩
  · have : vs = [] := by simpa using h2
    subst this; simp at hv
  · refine ⟨g, cap, v, hx, h1, h2, hv, ?_, by simp [World.frozen?, hh], h.each i v ps hv hi⟩
    rw [hx] at h0
    exact row_cell h0 i v hv

set_option maxRecDepth 100000 in
set_option maxHeartbeats 1000000 in
/-- places: the places of a key, as a list in memory. -/
theorem places_any (h : Lk W F xb c T tb fp cv pb N len reach came places lv vs ls kd) (hT : T.length ≤ 68719476736) (k : LK) (hk : IntsS W k.a k.b k.off k.l) (hl : k.l.length ≤ maxLen) (hn : 0 < k.l.length → ¬ F k.b) :
    Calls Try.prog 52 #[.pointer (some ⟨xb, 0, none⟩), k.v] W fun e w' => ∃ a b n cap, e = .returned (.slice a n cap) ∧ n = (plc c T k.l).length ∧ n ≤ cap ∧ cap ≤ maxLen ∧ (a = none → n = 0 ∧ cap = 0) ∧ (∀ x, a = some x → x = ⟨b, 0, none⟩) ∧ IntsS w' a b 0 ((plc c T k.l).map Int.ofNat) ∧ Stay W w' := by
  have c1 := h.c1
  by_cases h0 : plc c T k.l = []
  · have hg := get_no (h.ask k hk hl hn) k (List.mem_cons_self ..) (h.no h0)
    rw [h0]
    clear h hk
    go_enter Try.func52, Try.ntmps52
    go_wp2_with (go_at_call 62; refine hg.mono ?_; rintro e w9 ⟨rfl, hs⟩; have HS : Hid (Stay W w9) := hs; clear hs)
    go_ret
    exact ⟨none, 0, 0, 0, rfl, rfl, Nat.le_refl _, by unfold maxLen; omega, fun _ => ⟨rfl, rfl⟩, fun x hx => by simp at hx, ⟨fun h => by simp at h, fun j hj => by simp at hj⟩, HS.out⟩
  · obtain ⟨t, e, he, hth, hs, hH, _⟩ := h.yes h0
    have hg := get_yes (h.ask k hk hl hn) k (List.mem_cons_self ..) he hth hs
    rcases hH with ⟨p, hv, h2⟩ | ⟨j, hv, h2, h3⟩
    · rw [hv] at hg
      have hp0 : ¬ (p : Int) < 0 := by omega
      rw [h2]
      clear h hk
      go_enter Try.func52, Try.ntmps52
      go_wp2_with (go_at_call 62; refine hg.mono ?_; rintro e w9 ⟨rfl, hs⟩; have HS : Hid (Stay W w9) := hs; clear hs)
      go_ret
      exact ⟨_, w9.heap.size, 1, 1, rfl, rfl, Nat.le_refl _, by unfold maxLen; omega, fun h => by simp at h, fun x hx => (Option.some.inj hx).symm, ints_new _ [Int.ofNat p] _, HS.out.alloc _⟩
    · obtain ⟨g, cap, v, hlv, hc1, hc2, hvs, hcell, _, hown⟩ := h.lst.at h2
      have hfew := h.cont.few
      have hll := h.lst.len
      have hjl := (List.getElem?_eq_some_iff.1 h2).1
      have c2 := h.c2
      rw [hlv] at c2
      rw [hv] at hg
      have hlt : (-1 - (j : Int)) < 0 := by omega
      have hjj : (-1 - (-1 - (j : Int))) = j := by omega
      have hjv : (j : Int) < (vs.length : Int) := by omega
      have hjb : j ≤ 68719476736 := by omega
      obtain ⟨a6, b6, c6, rfl, hI⟩ := hown.ints
      have HO : Hid (OwnI 0 W (.slice a6 ((plc c T k.l).map Int.ofNat).length c6) ((plc c T k.l).map Int.ofNat) ∧ (IntsS W a6 b6 0 ((plc c T k.l).map Int.ofNat)) ∧ 2 ≤ (plc c T k.l).length) := ⟨hown, hI, h3⟩
      rw [List.length_map] at hcell
      clear h hk hown hI hvs h2 h3 h0 he hs hll hfew hjl hlv
      go_enter Try.func52, Try.ntmps52
      go_wp2_with (go_at_call 62; refine hg.mono ?_; rintro e w9 ⟨rfl, hs⟩; have HS : Hid (Stay W w9) := hs; have c2 := hs.cell c2; have hcell := hs.cell hcell; clear hs)
      go_ret
      obtain ⟨hO, hI, h2⟩ := HO.out
      have ha := hI.1 (by simp; omega)
      rcases hO.2 with ⟨hx, _⟩ | ⟨g2, c2', cur, hx, _, hh, h1, h5, _, _⟩
      · rw [ha] at hx; simp at hx
      · simp only [Value.slice.injEq] at hx
        obtain ⟨_, _, rfl⟩ := hx
        refine ⟨a6, b6, _, c6, rfl, by simp, by simpa using h1, h5, fun h => ?_, fun x hx => ?_, hI.stay HS.out, HS.out⟩
        · rw [h] at ha; simp at ha
        · rw [hx] at ha; exact Option.some.inj ha
end
end Go.Proofs.Ytnhmjheipfopoaa.L
