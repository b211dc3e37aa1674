/- List, copied: lists that are made. -/
import Derived.Test.YtnhmjheipfopoaaF
namespace Go.Proofs.Ytnhmjheipfopoaa
open Go.RowKit Go.Maps

/-- A list of numbers that lies in memory of its own, at base or behind. -/
def OwnI (base : Nat) (w : World) (v : Value) (zs : List Int) : Prop := w.ownsRow base 3 1 v zs.length (zs.map (Value.int .i64))

theorem OwnI.ints {base : Nat} {w : World} {v : Value} {zs : List Int} (h : OwnI base w v zs) : ∃ a b c, v = .slice a zs.length c ∧ IntsS w a b 0 zs := by
  have h0 := h
  rcases h.2 with ⟨hx, h2⟩ | ⟨b, c, cur, hv, hb, hh, h1, h2, h3, h4⟩
  · have hz : zs = [] := by simpa using h2
    subst hz
    exact ⟨none, 0, 0, hx, fun h => by simp at h, fun j hj => by simp at hj⟩
  · refine ⟨some ⟨b, 0, none⟩, b, c, hv, ?_⟩
    unfold OwnI at h0
    rw [hv] at h0
    exact ints_of_row (r := []) (by simpa using h0)

theorem OwnI.stay {base : Nat} {w w' : World} {v : Value} {zs : List Int} (h : OwnI base w v zs) (hs : Stay w w') : OwnI base w' v zs := by
  refine ⟨h.1, ?_⟩
  rcases h.2 with hx | ⟨b, c, cur, hv, hb, hh, rest⟩
  · exact .inl hx
  · exact .inr ⟨b, c, cur, hv, hb, hs.heap hh, rest⟩

theorem OwnI.mono {base base' : Nat} {w : World} {v : Value} {zs : List Int} (h : OwnI base w v zs) (hb : base' ≤ base) : OwnI base' w v zs := by
  refine ⟨h.1, ?_⟩
  rcases h.2 with hx | ⟨b, c, cur, hv, hb2, rest⟩
  · exact .inl hx
  · exact .inr ⟨b, c, cur, hv, by omega, rest⟩

theorem run_makeInts (l n : Nat) (hl : l ≤ n) (hn : 8 * n ≤ 281474976710656) (W : World) :
    (Instr.makeSlice 23 (.int .i64 l) (.int .i64 n)).run Try.prog W = .ok (.slice (some ⟨W.heap.size, 0, none⟩) l n) (W.alloc (.cells (madeCells #[.int .i64 0] n) 3)) := by
  obtain ⟨i, hi, hz0, hz1, hz2⟩ := info_parts infoInt
  have h := run_make (P := Try.prog) W 23 3 i _ Try.underlying23 hi hz0 .i64 .i64 l n (by omega) (by omega) (by rw [hz2]; omega) (by omega)
  rw [hz1] at h
  simpa [Value.cells] using h

/-- The columns of c below k. -/
def cols (c k : Nat) : List Int := ((List.range k).filter c.testBit).map Int.ofNat

theorem cols_succ (c k : Nat) : cols c (k + 1) = cols c k ++ (if c.testBit k = true then [(k : Int)] else []) := by
  unfold cols
  rw [List.range_succ, List.filter_append, List.map_append]
  congr 1
  by_cases h : c.testBit k = true
  · simp [h]
  · simp [h]
theorem cols_len (c k : Nat) : (cols c k).length ≤ k := by
  have := List.length_filter_le c.testBit (List.range k)
  simpa [cols] using this
theorem cols_all {c k m : Nat} (h : c < 2 ^ k) (hk : k ≤ m) : cols c m = cols c k := by
  induction m with
  | zero => rw [show k = 0 by omega]
  | succ m ih =>
    by_cases e : k = m + 1
    · rw [e]
    · rw [cols_succ, if_neg, List.append_nil, ih (by omega)]
      rw [Nat.testBit_lt_two_pow (Nat.lt_of_lt_of_le h (Nat.pow_le_pow_right (by omega) (by omega)))]
      simp

theorem bitLen_bound (c : Nat) (hc : c < 65536) : c < 2 ^ Lib.bitLen c ∧ Lib.bitLen c ≤ 16 ∧ (c ≠ 0 → 1 ≤ Lib.bitLen c ∧ 2 ^ (Lib.bitLen c - 1) ≤ c) := by
  by_cases h : c = 0
  · subst h; decide
  · have h2 := Lib.bitLenAux_bounds 64 c (by omega) h
    exact ⟨h2.2.2, Lib.bitLenAux_le 64 c 16 (by omega), fun _ => ⟨h2.1, h2.2.1⟩⟩

set_option maxRecDepth 100000 in
set_option maxHeartbeats 1000000 in
theorem list_any (w : World) (c : Nat) (hc : c < 65536) :
    Calls Try.prog 74 #[.int .u16 c] w fun e w' => ∃ v, e = .returned v ∧ OwnI w.heap.size w' v (cols c 16) ∧ Stay w w' := by
  obtain ⟨i0, hi, hz0, hz1, hz2⟩ := info_parts infoInt
  have HC := ones16_any c hc
  have HW := width_any c hc
  have HT := within_any c
  obtain ⟨hb1, hb2, hb3⟩ := bitLen_bound c hc
  have HA : Hid (cols c 16 = cols c (Lib.bitLen c)) := cols_all hb1 hb2
  clear hb1 hb3
  generalize Lib.bitLen c = m at HW HA hb2
  go_enter Try.func74, Try.ntmps74
  go_wp2_with (first | (go_at_call 89; refine Calls.mono (HC _) ?_; rintro e w1 ⟨n, hn, rfl, d, rfl⟩; have hmk := run_makeInts 0 n (Nat.zero_le _) (by omega) (w.drewN d); simp only [Int.natCast_zero] at hmk) | (go_at_call 73; refine Calls.mono (HW _) ?_; rintro e w2 ⟨rfl, rfl⟩))
  have HO : Hid (OwnI w.heap.size ((w.drewN d).alloc (.cells (madeCells #[.int .i64 0] n) 3)) (.slice (some ⟨w.heap.size, 0, none⟩) 0 n) []) := World.ownsRow_made (w.drewN d) _ n (Nat.le_refl _) (by unfold maxLen; omega) (by simp [size_madeCells])
  have HS : Hid (Stay w ((w.drewN d).alloc (.cells (madeCells #[.int .i64 0] n) 3))) := (Stay.drewN w d).alloc _
  go_loopw [3, 10] (fun v i wr => ∃ k : Nat, k ≤ m ∧ i = .int .i64 k ∧ OwnI w.heap.size wr v (cols c k) ∧ Stay w wr) (fun v i _ => m - (intOf i).toNat)
  case atStart => exact ⟨0, Nat.zero_le _, rfl, HO.out, HS.out⟩
  case round =>
    obtain ⟨k, hk, rfl, hown, hst⟩ := hrel
    by_cases hlt : k < m
    · have hi1 : (k : Int) < (m : Int) := by omega
      have HT2 := HT k hc (by omega)
      have HO2 : Hid (OwnI w.heap.size wr u3 (cols c k) ∧ Stay w wr) := ⟨hown, hst⟩
      have hl2 := cols_len c k
      have HN := cols_succ c k
      clear hown hst HO HS hmk HC HW HT
      by_cases ht : c.testBit k = true
      · rw [ht] at HT2
        rw [if_pos ht] at HN
        have HN2 : Hid (cols c (k + 1) = cols c k ++ [(k : Int)]) := HN
        clear HN ht
        go_wp2_with (first | (go_at_call 90; refine Calls.mono (HT2 _) ?_; rintro e w9 ⟨rfl, hw9⟩; subst w9) | (at_builtin; refine wpList_append_own _ rfl _ _ 23 rfl w.heap.size 3 i0 _ 1 8 Try.underlying23 hi hz0 hz1 hz2 rfl (by decide) u3 (cols c k).length ((cols c k).map (Value.int .i64)) rfl (HO2.out.1.alloc _) ⟨wr.heap.size, 0, none⟩ 1 1 [.int .i64 k] rfl rfl (new_cells wr [.int .i64 k] 3) (by simp [Value.oneCell']) (by unfold maxLen; omega) (by omega) (by rw [World.size_alloc]; have := HO2.out.2.size; omega) ?_; intro v2 w2 hown2 hg2 hn2; have HR : Hid (OwnI w.heap.size w2 v2 (cols c (k + 1)) ∧ Stay w w2) := ⟨by rw [HN2.out]; unfold OwnI; rw [List.length_append, List.map_append]; exact hown2, (HO2.out.2.alloc _).grown hg2 (by rw [World.size_alloc]; have := HO2.out.2.size; omega) (fun k e => (HO2.out.1.lt k e).1)⟩; clear hown2 hg2 hn2))
        go_roundw
        case rel => exact ⟨k + 1, by omega, by go_num, HR.out.1, HR.out.2⟩
        case measure => simp [intOf]; omega
      · have ht2 : c.testBit k = false := by simpa using ht
        rw [ht2] at HT2
        rw [if_neg ht, List.append_nil] at HN
        have HR : Hid (OwnI w.heap.size wr u3 (cols c (k + 1)) ∧ Stay w wr) := by rw [HN]; exact HO2.out
        clear HN ht ht2
        go_wp2_with (go_at_call 90; refine Calls.mono (HT2 _) ?_; rintro e w9 ⟨rfl, hw9⟩; subst w9)
        go_roundw
        case rel => exact ⟨k + 1, by omega, by go_num, HR.out.1, HR.out.2⟩
        case measure => simp [intOf]; omega
    · have hi1 : ¬ (k : Int) < (m : Int) := by omega
      obtain rfl : k = m := by omega
      have HR : Hid (OwnI w.heap.size wr u3 (cols c 16) ∧ Stay w wr) := by rw [HA.out]; exact ⟨hown, hst⟩
      clear hown hst
      go_wp2
      go_ret
      exact ⟨_, rfl, HR.out.1, HR.out.2⟩
end Go.Proofs.Ytnhmjheipfopoaa
