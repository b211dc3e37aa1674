/- InternRanks: its walk. -/
import Derived.Test.YtdmopioiaaecfaaRanksPlain
import Derived.Deep.RegionWith
namespace Go.Proofs.Ytdmopioiaaecfaa
open Go.RowKit Go.Maps

theorem StrsAt.below {w w' : World} {a : Option Addr} {b off : Nat} {ss : List ByteArray} (h : StrsAt w a b off ss) (hB : Below w.heap.size w w') : StrsAt w' a b off ss :=
  ⟨h.1, fun j hj => (hB.cell (p := ⟨b, off + j, none⟩) (World.block_lt_of_cell? w _ (h.2 j hj))).trans (h.2 j hj)⟩

/-- Two tables that share no block. -/
def Apart (bt bm g bu bv k : Nat) : Prop := ∀ i, foot bt bm g i → ¬ foot bu bv k i

/-- The two tables behind k rounds of the first loop. -/
def Both (w : World) (bt bm gt ct bu bv : Nat) (ss : List ByteArray) (k : Nat) (wr : World) : Prop :=
  ∃ gu cu, Tab wr bu bv gu cu (putAll [] (back ss k)) ∧ Tab wr bt bm gt ct (putAll [] ss) ∧ Apart bt bm gt bu bv gu ∧ Below w.heap.size w wr ∧ w.heap.size ≤ gu

theorem Both.drew {w wr : World} {bt bm gt ct bu bv : Nat} {ss : List ByteArray} {k : Nat} (h : Both w bt bm gt ct bu bv ss k wr) : Both w bt bm gt ct bu bv ss k wr.drew := by
  obtain ⟨gu, cu, hU, hT, hA, hB, hg⟩ := h
  exact ⟨gu, cu, hU.kept (Turn.drew (fun _ => False) wr) (fun _ _ e => e), hT.kept (Turn.drew (fun _ => False) wr) (fun _ _ e => e), hA, hB.drew, hg⟩

theorem Both.below {w wr w' : World} {bt bm gt ct bu bv : Nat} {ss : List ByteArray} {k : Nat} (h : Both w bt bm gt ct bu bv ss k wr) (hb : Below wr.heap.size wr w') : Both w bt bm gt ct bu bv ss k w' := by
  obtain ⟨gu, cu, hU, hT, hA, hB, hg⟩ := h
  have h1 := hU.lt
  have h2 := hT.lt
  exact ⟨gu, cu, hU.kept (Turn.of_below hb) (by rintro i (rfl | rfl | rfl) <;> omega), hT.kept (Turn.of_below hb) (by rintro i (rfl | rfl | rfl) <;> omega), hA, hB.trans (hb.mono hB.size), hg⟩

theorem Both.t {w wr : World} {bt bm gt ct bu bv : Nat} {ss : List ByteArray} {k : Nat} (h : Both w bt bm gt ct bu bv ss k wr) : Tab wr bt bm gt ct (putAll [] ss) := by
  obtain ⟨gu, cu, hU, hT, hA, hB, hg⟩ := h
  exact hT

theorem two_strs (w : World) (x y : ByteArray) : StrsAt (w.alloc (.cells #[.string x, .string y] 9)) (some ⟨w.heap.size, 0, none⟩) w.heap.size 0 [x, y] := by
  refine ⟨fun _ => rfl, fun j hj => ?_⟩
  have h := new_cells w [.string x, .string y] 9 j
  rw [add_at] at h
  have hj2 : j < 2 := hj
  match j, hj2 with
  | 0, _ => exact h _ rfl
  | 1, _ => exact h _ rfl

/-- One round of the first loop. -/
theorem Both.step {w wr : World} {bt bm gt ct bu bv : Nat} {ss : List ByteArray} {k : Nat} (h : Both w bt bm gt ct bu bv ss k wr) (hk : k < ss.length) (hsz : ∀ s ∈ ss, s.size ≤ 281474976710656) (hb : (ss.length + 2) * 16 ≤ 140737488355328) (hu : w.heap.size ≤ bu ∧ w.heap.size ≤ bv) (x y : ByteArray)
    (hx : x = ss[ss.length - 1 - k]?.getD ⟨#[]⟩) (hy : y = ss[k]?.getD ⟨#[]⟩) :
    Calls Try.prog 18 #[.pointer (some ⟨bu, 0, none⟩), .slice (some ⟨wr.heap.size, 0, none⟩) 2 2] (wr.alloc (.cells #[.string x, .string y] 9)) fun e w' => (∃ v, e = .returned v) ∧ Both w bt bm gt ct bu bv ss (k + 1) w' := by
  obtain ⟨gu, cu, hU, hT, hA, hB, hg⟩ := h
  have hU2 := hU.kept (Turn.alloc (fun _ => False) wr (.cells #[.string x, .string y] 9)) (fun _ _ e => e)
  have hT2 := hT.kept (Turn.alloc (fun _ => False) wr (.cells #[.string x, .string y] 9)) (fun _ _ e => e)
  have hxm : x ∈ ss := by rw [hx]; exact getD_mem (by omega)
  have hym : y ∈ ss := by rw [hy]; exact getD_mem hk
  have hlen : (putAll [] (back ss k)).length ≤ ss.length := by
    refine nodup_sub _ _ (putAll_nodup List.nodup_nil _) (fun z hz => ?_)
    rw [mem_putAll] at hz
    exact back_sub (k := k) (by omega) z (by simpa using hz)
  have hlt := hU.lt
  have hltT := hT.lt
  refine (putAll_yes hU2 [x, y] _ _ 0 2 (two_strs wr x y) (by rintro i (rfl | rfl | rfl) <;> omega) (by intro s hs; simp at hs; rcases hs with rfl | rfl; exact hsz _ hxm; exact hsz _ hym) (by simp; omega)).mono ?_
  rintro e w' ⟨rfl, _, g2, c2, h1, h2, h3⟩
  refine ⟨⟨_, rfl⟩, g2, c2, ?_, ?_, ?_, ?_, ?_⟩
  · rw [back_succ, ← hx, ← hy, show putAll [] (back ss k ++ [x, y]) = putAll (putAll [] (back ss k)) [x, y] by simp [putAll]]
    exact h1
  · exact hT2.kept h3 (fun i hi e => hA i hi e)
  · intro i hi e
    rcases e with e | e | e
    · exact hA i hi (.inl e)
    · exact hA i hi (.inr (.inl e))
    · rcases h2 with h2 | h2
      · exact hA i hi (.inr (.inr (e.trans h2)))
      · rw [World.size_alloc] at h2
        rcases hi with rfl | rfl | rfl <;> omega
  · exact (hB.alloc hB.size _).trans (h3.below (by have := hB.size; rw [World.size_alloc]; omega) (by rintro i (rfl | rfl | rfl) <;> omega))
  · rcases h2 with h2 | h2
    · omega
    · have := hB.size; rw [World.size_alloc] at h2; omega

/-- What one round of the second loop meets. -/
theorem look_at {w w' : World} {bt bm gt ct bu bv b7 c7 b8 c8 b9 N : Nat} {ss : List ByteArray} {z9 z8 : List Nat} (hN : (putAll [] ss).length = N) (hR9 : Rises (putAll [] ss) z9) (hI7 : IntsAt w' b7 c7 (z9.map Int.ofNat))
    (hR8 : Rises (putAll [] (back ss ss.length)) z8) (hI8 : IntsAt w' b8 c8 (z8.map Int.ofNat)) (hB : Both w bt bm gt ct bu bv ss ss.length w') (hI9 : IntsAt w' b9 N ((rks z9).map Int.ofNat)) {k : Nat} (hk : k < N) :
    ∃ (s : ByteArray) (z y : Nat), z < N ∧ y < N ∧ w'.cell? ⟨b7, k, none⟩ = some (.int .i64 (z : Int)) ∧ w'.cell? ⟨b8, k, none⟩ = some (.int .i64 (y : Int)) ∧ w'.cell? ⟨b9, z, none⟩ = some (.int .i64 (k : Int)) ∧
      (Calls Try.prog 30 #[.pointer (some ⟨bt, 0, none⟩), .int .i64 z] w' fun e w2 => e = .returned (.tuple #[.string s, .bool true]) ∧ w2 = w') ∧
      (Calls Try.prog 30 #[.pointer (some ⟨bu, 0, none⟩), .int .i64 y] w' fun e w2 => e = .returned (.tuple #[.string s, .bool true]) ∧ w2 = w') ∧
      (0 < k → ∀ t, t = (txt (putAll [] ss) z9)[k - 1]?.getD ⟨#[]⟩ → (Op.bytesLess s.toList t.toList || s.toList == t.toList) = false) ∧
      (txt (putAll [] ss) z9)[k + 1 - 1]?.getD ⟨#[]⟩ = s := by
  obtain ⟨gu, cu, hU, hT, hA, hBB, hg⟩ := hB
  have hper := (both ss).length_eq
  have hz := hR9.at_lt (k := k) (by omega)
  have hy := hR8.at_lt (k := k) (by omega)
  have hl9 := hR9.length
  have hl8 := hR8.length
  have e1 := txt_at hR9 (i := k) (by omega) hz
  have e2 := txt_at hR8 (i := k) (by omega) hy
  rw [← txt_same (both ss) hR9 hR8, e1] at e2
  have tz := text_yes hT _ hz
  have ty := text_yes hU _ hy
  rw [← e2] at ty
  have hc9 := hI9.cell (z9[k]?.getD 0) (by simp [rks]; omega)
  refine ⟨_, z9[k]?.getD 0, z8[k]?.getD 0, by omega, by omega, ?_, ?_, ?_, tz, ty, ?_, ?_⟩
  · rw [hI7.cell k (by simp; omega)]
    simp [show k < z9.length by omega]
  · rw [hI8.cell k (by simp; omega)]
    simp [show k < z8.length by omega]
  · rw [hc9]
    have hk9 : k < z9.length := by omega
    have e3 : (rks z9)[z9[k]]'(by simp [rks]; have := hR9.lt (List.getElem_mem hk9); omega) = k := by
      simp only [rks, List.getElem_map, List.getElem_range]
      have hi : z9.idxOf z9[k] < z9.length := List.idxOf_lt_length_iff.2 (List.getElem_mem hk9)
      exact nodup_inj hR9.nodup hi hk9 (List.getElem_idxOf hi)
    simp only [List.getElem?_eq_getElem hk9, Option.getD_some, List.getElem_map]
    rw [e3]
    rfl
  · rintro h0 t rfl
    rw [← e1]
    apply leq_no
    have hp := List.pairwise_iff_getElem.1 (txt_rise hR9) (k - 1) k (by simp [txt]; omega) (by simp [txt]; omega) (by omega)
    rw [List.getElem?_eq_getElem (by simp [txt]; omega), List.getElem?_eq_getElem (by simp [txt]; omega)]
    exact hp
  · rw [← e1, Nat.add_sub_cancel]

set_option maxRecDepth 100000 in
set_option maxHeartbeats 2000000 in
theorem ranks_walk (w : World) (a : Option Addr) (b off cap : Nat) (ss : List ByteArray) (hS : StrsAt w a b off ss) (ha : a = none → cap = 0 ∧ ss = []) (hsz : ∀ s ∈ ss, s.size ≤ 281474976710656) (hb : (ss.length + 2) * 16 ≤ 140737488355328) :
    Calls Try.prog 6 #[.slice a ss.length cap] w fun e w' => e = .returned (.bool true) ∧ Below w.heap.size w w' := by
  have HS : Hid (StrsAt w a b off ss) := hS
  have Hsz : Hid (∀ s ∈ ss, s.size ≤ 281474976710656) := hsz
  have Ha : Hid (a = none → cap = 0 ∧ ss = []) := ha
  clear hS hsz ha
  go_enter Try.func6, Try.ntmps6
  go_wp2_with fail
  refine (new_any _).mono ?_
  rintro e w1 ⟨rfl, bm, g, c1, hT1, h1, h2, h3, hB1⟩
  have HT1 : Hid (Tab w1 (w.heap.size + 2) bm g c1 [] ∧ w.heap.size ≤ bm ∧ w.heap.size ≤ g ∧ Below w.heap.size w w1) := ⟨hT1, h2, h3, hB1⟩
  clear hT1 h1 h2 h3 hB1
  go_wp2_with fail
  refine (new_any _).mono ?_
  rintro e w2 ⟨rfl, bv, gv, c2, hT2, h1, h2, h3, hB2⟩
  have HT2 : Hid (Tab w2 (w1.heap.size + 2) bv gv c2 [] ∧ w1.heap.size ≤ bv ∧ w1.heap.size ≤ gv ∧ Below w1.heap.size w1 w2) := ⟨hT2, h2, h3, hB2⟩
  clear hT2 h1 h2 h3 hB2
  go_wp2_with fail
  refine (known_any _).mono ?_
  rintro e w3 ⟨rfl, hB3⟩
  have HB3 : Hid (Below w2.heap.size w2 w3) := hB3
  clear hB3
  have hB03 : Below w.heap.size w w3 := HT1.out.2.2.2.trans ((HT2.out.2.2.2.mono HT1.out.2.2.2.size).trans (HB3.out.mono (Nat.le_trans HT1.out.2.2.2.size HT2.out.2.2.2.size)))
  have hlent := lent_any w3 a b off cap ss (HS.out.below hB03) Ha.out hb
  have HB03 : Hid (Below w.heap.size w w3) := hB03
  clear hB03
  go_wp2_with fail
  refine hlent.mono ?_
  rintro e w4 ⟨bl, cl, rfl, hrow, hB4⟩
  clear hlent
  have hlt1 := HT1.out.1.lt
  have hlt2 := HT2.out.1.lt
  have hT4 : Tab w4 (w.heap.size + 2) bm g c1 [] := by
    have h1 := HT1.out.1.kept (Turn.of_below HT2.out.2.2.2) (by rintro k (rfl | rfl | rfl) <;> omega)
    have h2 := h1.kept (Turn.of_below HB3.out) (by have := HT2.out.2.2.2.size; rintro k (rfl | rfl | rfl) <;> omega)
    exact h2.kept (Turn.of_below hB4) (by have := HT2.out.2.2.2.size; have := HB3.out.size; rintro k (rfl | rfl | rfl) <;> omega)
  have hU4 : Tab w4 (w1.heap.size + 2) bv gv c2 [] := by
    have h2 := HT2.out.1.kept (Turn.of_below HB3.out) (by rintro k (rfl | rfl | rfl) <;> omega)
    exact h2.kept (Turn.of_below hB4) (by have := HB3.out.size; rintro k (rfl | rfl | rfl) <;> omega)
  have hs2 := HT2.out.2.2.2.size
  have hs3 := HB3.out.size
  obtain ⟨hl1, hl2⟩ := row_lt hrow
  have hput := putAll_yes hT4 ss (some ⟨bl, 0, none⟩) bl 0 cl (strs_of_row hrow) (by rintro k (rfl | rfl | rfl) <;> omega) Hsz.out (by simp; omega)
  have HU4 : Hid (Tab w4 (w1.heap.size + 2) bv gv c2 [] ∧ Below w.heap.size w w4) := ⟨hU4, HB03.out.trans (hB4.mono HB03.out.size)⟩
  clear hT4 hU4 hB4 hrow
  go_wp2_with fail
  refine hput.mono ?_
  rintro e w5 ⟨rfl, _, gt, ct, hT5, hg5, ht5⟩
  have hU5 : Tab w5 (w1.heap.size + 2) bv gv c2 [] := HU4.out.1.kept ht5 (by have := HT2.out.2; rintro k (rfl | rfl | rfl) (e | e | e) <;> omega)
  have hlt4 := HU4.out.1.lt
  have HT5 : Hid (Tab w5 (w.heap.size + 2) bm gt ct (putAll [] ss) ∧ Tab w5 (w1.heap.size + 2) bv gv c2 [] ∧ Apart (w.heap.size + 2) bm gt (w1.heap.size + 2) bv gv ∧ Below w.heap.size w w5 ∧ w.heap.size ≤ bv ∧ w.heap.size ≤ gv) := by
    have hx := HT1.out.2
    have hy := HT2.out.2
    refine ⟨hT5, hU5, ?_, HU4.out.2.trans (ht5.below HU4.out.2.size (by rintro k (rfl | rfl | rfl) <;> omega)), by omega, by omega⟩
    rintro i (rfl | rfl | rfl) (e | e | e) <;> rcases hg5 with hg5 | hg5 <;> omega
  clear hput hT5 hU5 hg5 ht5 HU4 HB03 HB3 hlt1 hlt2 hs2 hs3 hl1 hl2 hlt4
  have HB0 : Hid (Both w (w.heap.size + 2) bm gt ct (w1.heap.size + 2) bv ss 0 w5 ∧ w.heap.size ≤ w1.heap.size + 2 ∧ w.heap.size ≤ bv) := by
    obtain ⟨h1, h2, h3, h4, h5, h6⟩ := HT5.out
    exact ⟨⟨gv, c2, h2, h1, h3, h4, h6⟩, by have := HT1.out.2.2.2.size; omega, h5⟩
  clear HT1 HT2 HT5
  generalize w.heap.size + 2 = bt at HB0 ⊢
  generalize w1.heap.size + 2 = bu at HB0 ⊢
  go_wp2_with fail
  go_loopw [5] (fun i wr => ∃ k : Nat, k ≤ ss.length ∧ i = .int .i64 ((ss.length : Int) - 1 - (k : Int)) ∧ Both w bt bm gt ct bu bv ss k wr) (fun i _ => (intOf i + 1).toNat)
  case atStart => exact ⟨0, Nat.zero_le _, by simp, HB0.out.1⟩
  case round =>
    obtain ⟨k, hk, rfl, hBk⟩ := hrel
    by_cases hlt : k < ss.length
    · obtain ⟨j, hj⟩ : ∃ j : Nat, j + k + 1 = ss.length := ⟨ss.length - 1 - k, by omega⟩
      rw [show (ss.length : Int) - 1 - (k : Int) = (j : Int) by omega]
      obtain rfl := HS.out.1 (by omega)
      have hstep := hBk.drew.step hlt Hsz.out hb HB0.out.2 _ _ rfl rfl
      have hcx : wr.cell? ⟨b, off + j, none⟩ = some (.string (ss[ss.length - 1 - k]?.getD ⟨#[]⟩)) := by
        obtain ⟨_, _, _, _, _, hB, _⟩ := hBk
        rw [show ss.length - 1 - k = j by omega, (HS.out.below hB).2 j (by omega)]
        simp [show j < ss.length by omega]
      have hcy : wr.cell? ⟨b, off + k, none⟩ = some (.string (ss[k]?.getD ⟨#[]⟩)) := by
        obtain ⟨_, _, _, _, _, hB, _⟩ := hBk
        rw [(HS.out.below hB).2 k hlt]
        simp [hlt]
      have hi1 : (j : Int) < (ss.length : Int) := by omega
      have hi2 : (k : Int) < (ss.length : Int) := by omega
      have hd : IntKind.i64.wrap (IntKind.i64.wrap ((ss.length : Int) - 1) - (j : Int)) = (k : Int) := by
        rw [IntKind.wrap_i64, IntKind.wrap_i64]; omega
      generalize ss[ss.length - 1 - k]?.getD ⟨#[]⟩ = x at hstep hcx
      generalize ss[k]?.getD ⟨#[]⟩ = y at hstep hcy
      have HJ : Hid (j + k + 1 = ss.length) := hj
      clear hBk hj hk
      change Calls Try.prog 18 #[.pointer (some ⟨bu, 0, none⟩), .slice (some ⟨wr.heap.size, 0, none⟩) 2 2] (wr.alloc (.cells #[.string x, .string y] 9)).drew _ at hstep
      go_wp2
      go_region_with (go_at_call 18; refine hstep.mono ?_; rintro e w6 ⟨⟨v, rfl⟩, hB6⟩)
      all_goals
        clear hd
        go_wp2
        go_roundw
        case rel => exact ⟨k + 1, by omega, (by have := HJ.out; congr 1; omega), hB6⟩
        case measure => simp [intOf]
    · obtain rfl : k = ss.length := by omega
      have HBk : Hid (Both w bt bm gt ct bu bv ss ss.length wr) := hBk
      clear hBk
      have hlt0 : (putAll [] ss).length ≤ ss.length := by have := (putAll_len [] ss).2; simpa using this
      have hper := (both ss).length_eq
      have hr1 : Calls Try.prog 28 #[.pointer (some ⟨bt, 0, none⟩)] wr _ := rising_calls HBk.out.t (by omega)
      go_wp2_with fail
      refine hr1.mono ?_
      rintro e w7 ⟨b7, c7, z7, rfl, hb7, hR7, hI7, hB7⟩
      have H7 : Hid (Rises (putAll [] ss) z7 ∧ IntsAt w7 b7 c7 (z7.map Int.ofNat) ∧ Both w bt bm gt ct bu bv ss ss.length w7 ∧ wr.heap.size ≤ b7) := ⟨hR7, hI7, HBk.out.below hB7, hb7⟩
      clear hr1 HBk hR7 hI7 hB7 hb7
      obtain ⟨gu, cu, hU7, _⟩ := H7.out.2.2.1
      have hr2 := rising_calls hU7 (by omega)
      clear hU7
      go_wp2_with fail
      refine hr2.mono ?_
      rintro e w8 ⟨b8, c8, z8, rfl, hb8, hR8, hI8, hB8⟩
      have H8 : Hid (Rises (putAll [] ss) z7 ∧ IntsAt w8 b7 c7 (z7.map Int.ofNat) ∧ Rises (putAll [] (back ss ss.length)) z8 ∧ IntsAt w8 b8 c8 (z8.map Int.ofNat) ∧ Both w bt bm gt ct bu bv ss ss.length w8) :=
        ⟨H7.out.1, H7.out.2.1.kept (Turn.of_below hB8) (by have := H7.out.2.1.lt; omega), hR8, hI8, H7.out.2.2.1.below hB8⟩
      clear hr2 H7 hR8 hI8 hB8 hb8
      have hr3 : Calls Try.prog 29 #[.pointer (some ⟨bt, 0, none⟩)] w8 _ := ranks_yes H8.out.2.2.2.2.t (by omega)
      go_wp2_with fail
      refine hr3.mono ?_
      rintro e w9 ⟨b9, z9, rfl, hb9, hR9, hI9, hB9⟩
      obtain rfl := hR9.uniq H8.out.1
      have H9 : Hid (Rises (putAll [] ss) z9 ∧ IntsAt w9 b7 c7 (z9.map Int.ofNat) ∧ Rises (putAll [] (back ss ss.length)) z8 ∧ IntsAt w9 b8 c8 (z8.map Int.ofNat) ∧ Both w bt bm gt ct bu bv ss ss.length w9 ∧ IntsAt w9 b9 (putAll [] ss).length ((rks z9).map Int.ofNat)) :=
        ⟨H8.out.1, H8.out.2.1.kept (Turn.of_below hB9) (by have := H8.out.2.1.lt; omega), H8.out.2.2.1, H8.out.2.2.2.1.kept (Turn.of_below hB9) (by have := H8.out.2.2.2.1.lt; omega), H8.out.2.2.2.2.below hB9, hI9⟩
      have hl9 := len_yes H9.out.2.2.2.2.1.t
      clear hr3 H8 hR9 hI9 hB9 hb9
      rw [← hper] at *
      generalize hN : (putAll [] ss).length = N at *
      go_wp2_with (go_at_call 13; refine Calls.mono hl9 ?_; rintro e w' ⟨rfl, rfl⟩)
      have HN : Hid ((putAll [] ss).length = N) := hN
      have hNb : (N : Int) ≤ 9223372036854775807 := by omega
      clear hN hl9 hper
      go_loop [9, 10] (fun l i => ∃ (k : Nat) (t : ByteArray), k ≤ N ∧ i = .int .i64 k ∧ l = .string t ∧ (0 < k → t = (txt (putAll [] ss) z9)[k - 1]?.getD ⟨#[]⟩)) (fun _ i => N - (intOf i).toNat)
      case atStart => exact ⟨0, _, Nat.zero_le _, rfl, rfl, fun h => absurd h (Nat.lt_irrefl _)⟩
      case round =>
        obtain ⟨k, t, hk, rfl, rfl, ht⟩ := hrel
        by_cases hkN : k < N
        · obtain ⟨s, z, y, hz, hy, hcz, hcy, hcr, hte, hue, hlast, hnext⟩ := look_at HN.out H9.out.1 H9.out.2.1 H9.out.2.2.1 H9.out.2.2.2.1 H9.out.2.2.2.2.1 H9.out.2.2.2.2.2 hkN
          have HL : Hid ((txt (putAll [] ss) z9)[k + 1 - 1]?.getD ⟨#[]⟩ = s) := hnext
          have hzb : (z : Int) < (N : Int) := by omega
          have hkb : (k : Int) < (N : Int) := by omega
          clear hnext
          by_cases hk0 : k = 0
          · subst hk0
            clear hlast ht
            go_wp2_with fail
            refine hte.mono ?_
            rintro e w10 ⟨rfl, hw⟩
            have hw' := hw.symm; subst hw'
            go_wp2_with fail
            refine hue.mono ?_
            rintro e w10 ⟨rfl, hw⟩
            have hw' := hw.symm; subst hw'
            clear hte hue
            go_wp2
            go_round
            case rel => exact ⟨1, s, by omega, rfl, rfl, fun _ => HL.out.symm⟩
            case measure => simp [intOf]; omega
          · have hpos : (0 : Int) < (k : Int) := by omega
            have hle := hlast (by omega) t (ht (by omega))
            clear hlast ht hk0
            go_wp2_with fail
            refine hte.mono ?_
            rintro e w10 ⟨rfl, hw⟩
            have hw' := hw.symm; subst hw'
            go_wp2_with fail
            refine hue.mono ?_
            rintro e w10 ⟨rfl, hw⟩
            have hw' := hw.symm; subst hw'
            clear hte hue
            go_wp2
            go_round
            case rel => exact ⟨k + 1, s, by omega, by go_num, rfl, fun _ => HL.out.symm⟩
            case measure => simp [intOf]; omega
        · clear ht
          have hsb : (ss.length : Int) ≤ 9223372036854775807 := by omega
          go_wp2_with fail
          go_loop [15] (fun i => ∃ m : Nat, m ≤ ss.length ∧ i = .int .i64 m) (fun i => ss.length - (intOf i).toNat)
          case atStart => exact ⟨0, Nat.zero_le _, rfl⟩
          case round =>
            obtain ⟨m, hm, rfl⟩ := hrel
            by_cases hmn : m < ss.length
            · obtain rfl := HS.out.1 (by omega)
              have hmem : ss[m] ∈ putAll [] ss := (mem_putAll [] ss _).2 (.inr (List.getElem_mem hmn))
              have hfi := find_yes H9.out.2.2.2.2.1.t ss[m] (by have := Hsz.out _ (List.getElem_mem hmn); unfold maxLen; omega)
              rw [(contains_iff _ _).2 hmem] at hfi
              have hcm : w'.cell? ⟨b, off + m, none⟩ = some (.string ss[m]) := by
                obtain ⟨_, _, _, _, _, hB, _⟩ := H9.out.2.2.2.2.1
                exact (HS.out.below hB).2 m hmn
              generalize found (putAll [] ss) ss[m] = fd at hfi
              generalize ss[m] = s at hfi hcm
              have hmb : (m : Int) < (ss.length : Int) := by omega
              clear hmem
              go_wp2_with fail
              refine hfi.mono ?_
              rintro e w10 ⟨rfl, hw⟩
              have hw' := hw.symm; subst hw'
              clear hfi
              go_wp2
              go_round
              case rel => exact ⟨m + 1, by omega, by go_num⟩
              case measure => simp [intOf]; omega
            · go_wp2
              go_ret
              obtain ⟨_, _, _, _, _, hB, _⟩ := H9.out.2.2.2.2.1
              exact ⟨rfl, hB⟩
end Go.Proofs.Ytdmopioiaaecfaa
