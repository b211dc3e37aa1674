/- ranks: whatever the tables are. -/
import Derived.Test.YtdmopioiaaecfaaRanksI
namespace Go.Proofs.Ytdmopioiaaecfaa
open Go.RowKit Go.Maps

section
variable {W w : World} {p q : Value} {n : Nat} {X Y : List Int}

theorem cmp_row {zs : List Int} (hz : zs.length = n) {base : Nat} {a3 : Option Addr} {c3 : Nat} (hr : w.ownsRow base 3 1 (.slice a3 n c3) n (zs.map (Value.int .i64))) (a b c : _) (hI : IntsS w a b 0 zs) :
    Calls Try.prog 42 #[.slice a3 n c3, .slice a n c] w fun e w2 => e = .returned (.bool true) ∧ Below w.heap.size w w2 := by
  obtain ⟨_, a', b', c', hv, hI', hm, _⟩ := row_ints hr
  simp only [Value.slice.injEq] at hv
  obtain ⟨rfl, _, rfl⟩ := hv
  have := sameInts_same w a3 a b' 0 b 0 c3 c zs hI' hI hm
  rw [hz] at this
  refine this.mono ?_
  rintro e w' ⟨rfl, m, rfl⟩
  exact ⟨rfl, below_drewN' _ _⟩

theorem cmp_x (h : RkC W p q n X Y) (hB : Below W.heap.size W w) {base : Nat} {a3 : Option Addr} {c3 : Nat} (hr : w.ownsRow base 3 1 (.slice a3 n c3) n (X.map (Value.int .i64))) :
    Calls Try.prog 43 #[q] w fun e w' => ∃ a c, e = .returned (.slice a n c) ∧ Below w.heap.size w w' ∧ Calls Try.prog 42 #[.slice a3 n c3, .slice a n c] w' fun e w2 => e = .returned (.bool true) ∧ Below w'.heap.size w' w2 := by
  refine (h.c43 w hB).mono ?_
  rintro e w' ⟨a, b, c, rfl, hI, hB'⟩
  exact ⟨a, c, rfl, hB', cmp_row h.lens.1 (row_below hr hB') a b c hI⟩

theorem cmp_y (h : RkC W p q n X Y) (hB : Below W.heap.size W w) {base : Nat} {a3 : Option Addr} {c3 : Nat} (hr : w.ownsRow base 3 1 (.slice a3 n c3) n (Y.map (Value.int .i64))) :
    Calls Try.prog 44 #[q] w fun e w' => ∃ a c, e = .returned (.slice a n c) ∧ Below w.heap.size w w' ∧ Calls Try.prog 42 #[.slice a3 n c3, .slice a n c] w' fun e w2 => e = .returned (.bool true) ∧ Below w'.heap.size w' w2 := by
  refine (h.c44 w hB).mono ?_
  rintro e w' ⟨a, b, c, rfl, hI, hB'⟩
  exact ⟨a, c, rfl, hB', cmp_row h.lens.2.1 (row_below hr hB') a b c hI⟩

theorem row_some {base N : Nat} {a : Option Addr} {c : Nat} {xs : List Value} (h : w.ownsRow base 3 1 (.slice a N c) N xs) (hN : 0 < N) : ∃ g, a = some ⟨g, 0, none⟩ := by
  rcases h.2 with ⟨hx, _⟩ | ⟨g, cap, cur, hv, _⟩
  · simp only [Value.slice.injEq] at hx; omega
  · simp only [Value.slice.injEq] at hv; exact ⟨g, hv.1⟩

set_option maxRecDepth 100000 in
set_option maxHeartbeats 4000000 in
theorem ranks_any (h : RkC W p q n X Y) : Calls Try.prog 16 #[p, q] W fun e w' => e = .returned (.bool true) ∧ Below W.heap.size W w' := by
  obtain ⟨i0, hi, hz0, hz1, hz2⟩ := info_parts info3
  have HK : Hid (RkC W p q n X Y) := h
  have hn := h.lens.2.2
  clear h
  go_enter Try.func16, Try.ntmps16
  go_wp2_with (first
    | (go_at_call 29; refine (HK.out.c29 W (Below.refl _ _)).mono ?_; rintro e w1 ⟨a1, k1, rfl, hr, hB⟩; have H1 : Hid (w1.ownsRow W.heap.size 3 1 (.slice a1 n k1) n (X.map (Value.int .i64)) ∧ Below W.heap.size W w1) := ⟨hr, hB⟩; clear hr hB)
    | (go_at_call 28; refine (HK.out.c28 w1 H1.out.2).mono ?_; rintro e w2 ⟨a2, k2x, rfl, hr, hB⟩; have H2 : Hid (w2.ownsRow w1.heap.size 3 1 (.slice a2 n k2x) n (Y.map (Value.int .i64)) ∧ Below w1.heap.size w1 w2) := ⟨hr, hB⟩; clear hr hB)
    | (go_at_call 29; refine (HK.out.c29 w2 (H1.out.2.trans (H2.out.2.mono H1.out.2.size))).mono ?_; rintro e w3 ⟨a3, k3, rfl, hr, hB⟩; have H3 : Hid (w3.ownsRow w2.heap.size 3 1 (.slice a3 n k3) n (X.map (Value.int .i64)) ∧ Below w2.heap.size w2 w3) := ⟨hr, hB⟩; clear hr hB)
    | (go_at_call 28; refine (HK.out.c28 w3 ((H1.out.2.trans (H2.out.2.mono H1.out.2.size)).trans (H3.out.2.mono (Nat.le_trans H1.out.2.size H2.out.2.size)))).mono ?_; rintro e w4 ⟨a4, k4, rfl, hr, hB⟩; have HF : Hid (Four W n X Y (.slice a1 n k1) (.slice a2 n k2x) (.slice a3 n k3) (.slice a4 n k4) w4) := four_of H1.out.1 H1.out.2 H2.out.1 H2.out.2 H3.out.1 H3.out.2 hr hB; clear hr hB H1 H2 H3)
    | (go_at_call 43; refine (cmp_x HK.out HF.out.below HF.out.r1).mono ?_; rintro e w5 ⟨a5, k5, rfl, hB, hc⟩; have HF5 : Hid (Four W n X Y (.slice a1 n k1) (.slice a2 n k2x) (.slice a3 n k3) (.slice a4 n k4) w5) := HF.out.stay hB; clear hB HF)
    | (go_at_call 42; refine hc.mono ?_; rintro e w6 ⟨rfl, hB⟩; have HF6 : Hid (Four W n X Y (.slice a1 n k1) (.slice a2 n k2x) (.slice a3 n k3) (.slice a4 n k4) w6) := HF5.out.stay hB; clear hB HF5 hc)
    | (go_at_call 44; refine (cmp_y HK.out HF6.out.below HF6.out.r2).mono ?_; rintro e w7 ⟨a7, k7, rfl, hB, hc7⟩; have HF7 : Hid (Four W n X Y (.slice a1 n k1) (.slice a2 n k2x) (.slice a3 n k3) (.slice a4 n k4) w7) := HF6.out.stay hB; clear hB HF6)
    | (go_at_call 42; refine hc7.mono ?_; rintro e w8 ⟨rfl, hB⟩; have HF8 : Hid (Four W n X Y (.slice a1 n k1) (.slice a2 n k2x) (.slice a3 n k3) (.slice a4 n k4) w8) := HF7.out.stay hB; clear hB HF7 hc7))
  go_loopw [9] (fun i wr => ∃ k : Nat, k ≤ n ∧ i = .int .i64 k ∧ Wrt W w8 (.slice a1 n k1) n k m5 wr) (fun i _ => n - (intOf i).toNat)
  case atStart => exact ⟨0, Nat.zero_le _, rfl, _, HF8.out.r1, fun j hj => absurd hj (Nat.not_lt_zero _), Turn.refl _ _⟩
  case round =>
    obtain ⟨k, hk, rfl, hW⟩ := hrel
    by_cases hlt : k < n
    · have hkb : (k : Int) < (n : Int) := by omega
      obtain ⟨g, c, hv, ⟨x, hx⟩, hf, hN⟩ := hW.step hlt
      simp only [Value.slice.injEq, true_and] at hv
      obtain ⟨rfl, rfl⟩ := hv
      have HN : Hid _ := hN
      clear hW hN
      go_wp2
      go_roundw
      case rel => exact ⟨k + 1, by omega, by go_num, HN.out⟩
      case measure => simp [intOf]; omega
    · have hkb : ¬ (k : Int) < (n : Int) := by omega
      rename World => wA
      obtain rfl : k = n := by omega
      obtain ⟨hr1, ht1⟩ := hW.done
      have H1 : Hid (wA.ownsRow W.heap.size 3 1 (.slice a1 k k1) k (List.replicate k m5) ∧ Turn (fun j => (Value.slice a1 k k1).ownBlock = some j) w8 wA) := ⟨hr1, ht1⟩
      clear hW hr1 ht1
      go_wp2
      go_loopw [10] (fun i wq => ∃ k2 : Nat, k2 ≤ k ∧ i = .int .i64 k2 ∧ Wrt W wA (.slice a2 k k2x) k k2 m6 wq) (fun i _ => k - (intOf i).toNat)
      case atStart => exact ⟨0, Nat.zero_le _, rfl, _, H1.out.2.row HF8.out.r2 (fun j e1 e2 => HF8.out.a12 j e2 e1), fun j hj => absurd hj (Nat.not_lt_zero _), Turn.refl _ _⟩
      case round =>
        obtain ⟨k9, hk9, rfl, hW⟩ := hrel
        by_cases hlt2 : k9 < k
        · have hkb : (k9 : Int) < (k : Int) := by omega
          obtain ⟨g, c, hv, ⟨x, hx⟩, hf, hN⟩ := hW.step hlt2
          simp only [Value.slice.injEq, true_and] at hv
          obtain ⟨rfl, rfl⟩ := hv
          have HN : Hid _ := hN
          clear hW hN
          go_wp2
          go_roundw
          case rel => exact ⟨k9 + 1, by omega, by go_num, HN.out⟩
          case measure => simp [intOf]; omega
        · have hkb : ¬ (k9 : Int) < (k : Int) := by omega
          obtain rfl : k9 = k := by omega
          obtain ⟨hr2, ht2⟩ := hW.done
          clear hW
          rename World => wq
          have HG0 : Hid (Grow W w8 k9 (.slice a1 k9 k1) (.slice a2 k9 k2x) (.slice a1 k9 k1) (.slice a2 k9 k2x) 0 0 wq) := by
            have h12 := HF8.out.a12
            have hr1' := ht2.row H1.out.1 (fun j e1 e2 => h12 j e1 e2)
            refine ⟨hr1', hr2, fun j e => .inl e, fun j e => .inl e, h12, allM_row hr1' (Nat.le_refl _), allM_row hr2 (Nat.le_refl _), (H1.out.2.mono (fun _ _ e => .inl e)).trans ht2 (fun _ _ e => .inr e)⟩
          clear hr2 ht2 H1
          go_wp2
          go_loopw [11, 12, 13] (fun ve vf i wz => ∃ k : Nat, k ≤ 70 ∧ i = .int .i64 k ∧ Grow W w8 k9 (.slice a1 k9 k1) (.slice a2 k9 k2x) ve vf k k wz) (fun _ _ i _ => 70 - (intOf i).toNat)
          case atStart => exact ⟨0, Nat.zero_le _, rfl, HG0.out⟩
          case round =>
            clear HG0
            obtain ⟨k, hk, rfl, hG⟩ := hrel
            have h12 := HF8.out.a12
            have hl1 : ∀ j, (Value.slice a1 k9 k1).ownBlock = some j → j < w8.heap.size := fun j e => (HF8.out.r1.lt j e).2
            have hl2 : ∀ j, (Value.slice a2 k9 k2x).ownBlock = some j → j < w8.heap.size := fun j e => (HF8.out.r2.lt j e).2
            have HG : Hid (Grow W w8 k9 (.slice a1 k9 k1) (.slice a2 k9 k2x) u11 u12 k k wr ∧ W.heap.size ≤ wr.heap.size) := ⟨hG, Nat.le_trans HF8.out.below.size hG.turn.size⟩
            have HL : Hid ((∀ j, (Value.slice a1 k9 k1).ownBlock = some j → (Value.slice a2 k9 k2x).ownBlock ≠ some j) ∧ (∀ j, (Value.slice a1 k9 k1).ownBlock = some j → j < w8.heap.size) ∧ (∀ j, (Value.slice a2 k9 k2x).ownBlock = some j → j < w8.heap.size)) := ⟨h12, hl1, hl2⟩
            by_cases hlt3 : k < 70
            · have hkb : (k : Int) < 70 := by omega
              clear hG h12 hl1 hl2
              go_wp2_with (first
                | (at_builtin; refine wpList_append_keep0 rfl _ _ rfl i0 hi hz0 hz1 hz2 W.heap.size u11 (k9 + k) (List.replicate (k9 + k) m5) rfl (HG.out.1.alloc _).e ⟨wr.heap.size, 0, none⟩ 1 m5 rfl (cell_one_new _ _ _) (by simp [Value.oneCell']) (by unfold maxLen; omega) (by omega) (by rw [World.size_alloc]; have := HG.out.2; omega) ?_; intro v' w3 hown hgrow hloc hkeep; rw [rep_snoc] at hown; have HG2 : Hid (Grow W w8 k9 (.slice a1 k9 k1) (.slice a2 k9 k2x) v' u12 (k + 1) k w3 ∧ W.heap.size ≤ w3.heap.size) := ⟨(HG.out.1.alloc _).left HL.out.1 HL.out.2.2 hown hgrow hloc hkeep, by have := hgrow.size; rw [World.size_alloc] at this; have := HG.out.2; omega⟩; clear hown hgrow hloc hkeep HG)
                | (at_builtin; refine wpList_append_keep0 rfl _ _ rfl i0 hi hz0 hz1 hz2 W.heap.size u12 (k9 + k) (List.replicate (k9 + k) m6) rfl (HG2.out.1.alloc _).f ⟨w3.heap.size, 0, none⟩ 1 m6 rfl (cell_one_new _ _ _) (by simp [Value.oneCell']) (by unfold maxLen; omega) (by omega) (by rw [World.size_alloc]; have := HG2.out.2; omega) ?_; intro v'' w5 hown hgrow hloc hkeep; rw [rep_snoc] at hown; have HG3 : Hid (Grow W w8 k9 (.slice a1 k9 k1) (.slice a2 k9 k2x) v' v'' (k + 1) (k + 1) w5) := (HG2.out.1.alloc _).right HL.out.1 HL.out.2.1 hown hgrow hloc hkeep; clear hown hgrow hloc hkeep HG2))
              go_roundw
              case rel => exact ⟨k + 1, by omega, by go_num, HG3.out⟩
              case measure => simp [intOf]; omega
            · have hkb : ¬ (k : Int) < 70 := by omega
              obtain rfl : k = 70 := by omega
              obtain ⟨ae, ce, rfl⟩ := row_shape hG.e
              obtain ⟨af, cf, rfl⟩ := row_shape hG.f
              obtain ⟨ge, rfl⟩ := row_some hG.e (by omega)
              obtain ⟨gf, rfl⟩ := row_some hG.f (by omega)
              have HC : Hid ((∀ j, j < k9 + 70 → wr.cell? ⟨ge, j, none⟩ = some m5 ∧ wr.cell? ⟨gf, j, none⟩ = some m6) ∧ ∀ j, j < k9 → ∃ g1 g2, a1 = some ⟨g1, 0, none⟩ ∧ a2 = some ⟨g2, 0, none⟩ ∧ wr.cell? ⟨g1, j, none⟩ = some m5 ∧ wr.cell? ⟨g2, j, none⟩ = some m6) := by
                refine ⟨fun j hj => ⟨row_cell hG.e j m5 (by rw [List.getElem?_replicate, if_pos (by omega)]), row_cell hG.f j m6 (by rw [List.getElem?_replicate, if_pos (by omega)])⟩, fun j hj => ?_⟩
                obtain ⟨g1, h1⟩ := row_some HF8.out.r1 (by omega)
                obtain ⟨g2, h2⟩ := row_some HF8.out.r2 (by omega)
                exact ⟨g1, g2, h1, h2, hG.a g1 j (by rw [h1]; rfl) hj, hG.b g2 j (by rw [h2]; rfl) hj⟩
              have hB9 : Below W.heap.size W wr := HF8.out.below.trans (hG.turn.below HF8.out.below.size (by
                rintro j (e | e)
                · exact (HF8.out.r1.lt j e).1
                · exact (HF8.out.r2.lt j e).1))
              have hr3 : wr.ownsRow W.heap.size 3 1 (.slice a3 k9 k3) k9 (X.map (Value.int .i64)) := hG.turn.row HF8.out.r3 (by
                rintro j e (e2 | e2)
                · exact HF8.out.a13 j e2 e
                · exact HF8.out.a23 j e2 e)
              have hr4 : wr.ownsRow W.heap.size 3 1 (.slice a4 k9 k4) k9 (Y.map (Value.int .i64)) := hG.turn.row HF8.out.r4 (by
                rintro j e (e2 | e2)
                · exact HF8.out.a14 j e2 e
                · exact HF8.out.a24 j e2 e)
              have HE : Hid (Below W.heap.size W wr ∧ wr.ownsRow W.heap.size 3 1 (.slice a3 k9 k3) k9 (X.map (Value.int .i64)) ∧ wr.ownsRow W.heap.size 3 1 (.slice a4 k9 k4) k9 (Y.map (Value.int .i64))) := ⟨hB9, hr3, hr4⟩
              clear hG HG HL h12 hl1 hl2 hB9 hr3 hr4 HF8
              go_wp2
              go_loopw [14] (fun i wz => ∃ j : Nat, j ≤ k9 + 70 ∧ i = .int .i64 j ∧ wr = wz) (fun i _ => k9 + 70 - (intOf i).toNat)
              case atStart => exact ⟨0, Nat.zero_le _, rfl, rfl⟩
              case round =>
                obtain ⟨j, hj, rfl, rfl⟩ := hrel
                by_cases hlt4 : j < k9 + 70
                · have hjb : (j : Int) < ((k9 + 70 : Nat) : Int) := by omega
                  have hjb' : (j : Int) < (k9 : Int) + 70 := by omega
                  obtain ⟨hc1, hc2⟩ := HC.out.1 j hlt4
                  by_cases hlt5 : j < k9
                  · have hj9 : (j : Int) < (k9 : Int) := by omega
                    obtain ⟨g1, g2, rfl, rfl, hc3, hc4⟩ := HC.out.2 j hlt5
                    clear hlt4 hlt5
                    go_wp2
                    go_roundw
                    case rel => exact ⟨j + 1, by omega, by go_num, trivial⟩
                    case measure => simp [intOf]; omega
                  · have hj9 : ¬ (j : Int) < (k9 : Int) := by omega
                    clear hlt4 hlt5
                    go_wp2
                    go_roundw
                    case rel => exact ⟨j + 1, by omega, by go_num, trivial⟩
                    case measure => simp [intOf]; omega
                · have hjb : ¬ (j : Int) < ((k9 + 70 : Nat) : Int) := by omega
                  have hjb' : ¬ (j : Int) < (k9 : Int) + 70 := by omega
                  clear HC
                  go_wp2_with (first
                    | (go_at_call 43; refine (cmp_x HK.out HE.out.1 HE.out.2.1).mono ?_; rintro e w5 ⟨a5, k5, rfl, hB, hc⟩; have HE5 : Hid (Below W.heap.size W w5 ∧ w5.ownsRow W.heap.size 3 1 (.slice a4 k9 k4) k9 (Y.map (Value.int .i64))) := ⟨HE.out.1.trans (hB.mono HE.out.1.size), row_below HE.out.2.2 hB⟩; clear hB HE)
                    | (go_at_call 42; refine hc.mono ?_; rintro e w6 ⟨rfl, hB⟩; have HE6 : Hid (Below W.heap.size W w6 ∧ w6.ownsRow W.heap.size 3 1 (.slice a4 k9 k4) k9 (Y.map (Value.int .i64))) := ⟨HE5.out.1.trans (hB.mono HE5.out.1.size), row_below HE5.out.2 hB⟩; clear hB HE5 hc)
                    | (go_at_call 44; refine (cmp_y HK.out HE6.out.1 HE6.out.2).mono ?_; rintro e w7 ⟨a7, k7, rfl, hB, hc7⟩; have HE7 : Hid (Below W.heap.size W w7) := HE6.out.1.trans (hB.mono HE6.out.1.size); clear hB HE6)
                    | (go_at_call 42; refine hc7.mono ?_; rintro e w8 ⟨rfl, hB⟩; have HE8 : Hid (Below W.heap.size W w8) := HE7.out.trans (hB.mono HE7.out.size); clear hB HE7 hc7))
                  go_ret
                  exact ⟨rfl, HE8.out⟩
end
end Go.Proofs.Ytdmopioiaaecfaa
