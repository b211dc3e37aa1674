/- width, within, Of, List: sets of columns. List, copied: lists that are made. copied, Cut: lists that are made and filled. -/
import Derived.Test.YtnhmjheipfopoaaE
import Derived.Lib.ItoaNum
import Derived.Laws.OwnMore
namespace Go.Proofs.Ytnhmjheipfopoaa
open Go.RowKit Go.Maps

theorem wrap16 (n : Nat) (h : n < 65536) : IntKind.u16.wrap (n : Int) = n := by
  simp [IntKind.wrap, IntKind.signed, IntKind.bits]; omega

theorem and16 (a b : Nat) (ha : a < 65536) (hb : b < 65536) : bits .and .u16 (a : Int) (b : Int) = ((a &&& b : Nat) : Int) := by
  have e : ∀ n : Nat, n < 65536 → (BitVec.ofInt 16 (n : Int)).toNat = n := fun n hn => by simp; omega
  have h : (BitVec.ofInt 16 (a : Int) &&& BitVec.ofInt 16 (b : Int)).toNat = a &&& b := by rw [BitVec.toNat_and, e a ha, e b hb]
  have hl : a &&& b < 65536 := Nat.lt_of_le_of_lt Nat.and_le_left ha
  show IntKind.u16.wrap _ = _
  rw [show (BitVec.ofInt IntKind.u16.bits (a : Int) &&& BitVec.ofInt IntKind.u16.bits (b : Int)).toNat = a &&& b from h]
  exact wrap16 _ hl

theorem or16 (a b : Nat) (ha : a < 65536) (hb : b < 65536) : bits .or .u16 (a : Int) (b : Int) = ((a ||| b : Nat) : Int) := by
  have e : ∀ n : Nat, n < 65536 → (BitVec.ofInt 16 (n : Int)).toNat = n := fun n hn => by simp; omega
  have h : (BitVec.ofInt 16 (a : Int) ||| BitVec.ofInt 16 (b : Int)).toNat = a ||| b := by rw [BitVec.toNat_or, e a ha, e b hb]
  have hl : a ||| b < 2 ^ 16 := Nat.or_lt_two_pow ha hb
  show IntKind.u16.wrap _ = _
  rw [show (BitVec.ofInt IntKind.u16.bits (a : Int) ||| BitVec.ofInt IntKind.u16.bits (b : Int)).toNat = a ||| b from h]
  exact wrap16 _ hl

theorem len8_at (i : Nat) (h : i < Lib.len8tab.size) : (Lib.len8tab[i].toNat : Int) = (Lib.bitLen i : Int) ∧ Lib.bitLen i ≤ 8 := by
  have h2 : i < 256 := by rw [Lib.len8tab_size] at h; exact h
  have h1 := Lib.len8_of (i : Int) (by omega) (by omega)
  unfold Lib.len8 at h1
  simp only [Int.toNat_natCast] at h1
  rw [ByteArray.getElem?_lt' _ _ h] at h1
  exact ⟨h1, Lib.bitLen_le8' (i : Int) (by omega) (by omega)⟩

theorem wrap_small (n : Int) (h0 : 0 ≤ n) (h1 : n < 1000) : RowKit.wrap64 n = n := by
  unfold RowKit.wrap64
  omega

set_option maxRecDepth 100000 in
set_option maxHeartbeats 4000000 in
theorem len16_any (c : Nat) (hc : c < 65536) (w : World) : Calls Try.prog 88 #[.int .u16 c] w fun e w' => e = .returned (.int .i64 (Lib.bitLen c)) ∧ w' = w := by
  have hs := Lib.len8tab_size
  go_enter Try.func88, Try.ntmps88
  rw [show (ByteArray.mk _) = Lib.len8tab from by kernel_rfl]
  go_wp2
  · go_ret
    refine ⟨?_, rfl⟩
    obtain ⟨e1, e2⟩ := len8_at (c / 256) (by omega)
    have s8 := Lib.bitLen_shift8 c (by omega) (by omega)
    have : RowKit.wrap64 (8 + RowKit.wrap64 (Lib.len8tab[c / 256].toNat : Int)) = (Lib.bitLen c : Int) := by
      rw [e1, wrap_small (Lib.bitLen (c / 256) : Int) (by omega) (by omega), wrap_small _ (by omega) (by omega)]; omega
    rw [← this]
    rfl
  · go_ret
    refine ⟨?_, rfl⟩
    obtain ⟨e1, e2⟩ := len8_at c (by omega)
    have : RowKit.wrap64 (RowKit.wrap64 (Lib.len8tab[c].toNat : Int)) = (Lib.bitLen c : Int) := by
      rw [e1, wrap_small (Lib.bitLen c : Int) (by omega) (by omega), wrap_small _ (by omega) (by omega)]
    rw [← this]
    rfl

set_option maxRecDepth 100000 in
set_option maxHeartbeats 4000000 in
theorem ones16_any (c : Nat) (hc : c < 65536) (w : World) : Calls Try.prog 89 #[.int .u16 c] w fun e w' => ∃ n : Nat, n ≤ 255 ∧ e = .returned (.int .i64 n) ∧ ∃ d, w' = w.drewN d := by
  have hs := Lib.pop8tab_size
  have h1 : (0 : Int) ≤ (c : Int) / 256 := by omega
  have h2 : (c : Int) / 256 ≤ 255 := by omega
  have hand : bits .and .u16 (c : Int) 255 = ((c &&& 255 : Nat) : Int) := and16 c 255 hc (by omega)
  have h3 : c &&& 255 ≤ 255 := Nat.and_le_right
  generalize c &&& 255 = m at hand h3
  have h4 : (m : Int) < 256 := by omega
  have h5 : (c : Int) / 256 < 256 := by omega
  go_enter Try.func89, Try.ntmps89
  rw [show (ByteArray.mk _) = Lib.pop8tab from by kernel_rfl]
  go_wp2
  go_quiet (fail)
  go_wp2
  go_ret
  refine ⟨((Lib.pop8 ((c : Int) / 256) + ((Lib.pop8tab[m]'(by omega)).toNat : Int)) % 256).toNat, by omega, ?_, _, rfl⟩
  rw [Int.toNat_of_nonneg (by omega)]
  rfl

theorem bit_eq (c k : Nat) : (((c / 2 ^ k : Nat) : Int) % 2 == 1) = c.testBit k := by
  rw [Nat.testBit_eq_decide_div_mod_eq, Bool.eq_iff_iff, beq_iff_eq, decide_eq_true_iff]
  omega

set_option maxRecDepth 100000 in
theorem within_any (c k : Nat) (hc : c < 65536) (hk : k < 16) (w : World) : Calls Try.prog 90 #[.int .u16 c, .int .i64 k] w fun e w' => e = .returned (.bool (c.testBit k)) ∧ w' = w := by
  go_enter Try.func90, Try.ntmps90
  go_wp2
  go_ret
  refine ⟨?_, rfl⟩
  have hp : 0 < 2 ^ k := Nat.two_pow_pos k
  have h1 : ((c : Int) / 2 ^ k) = ((c / 2 ^ k : Nat) : Int) := by simp
  have h2 : c / 2 ^ k < 65536 := Nat.lt_of_le_of_lt (Nat.div_le_self _ _) hc
  have h3 := and16 (c / 2 ^ k) 1 h2 (by omega)
  rw [Nat.and_one_is_mod] at h3
  rw [← bit_eq, show ((c / 2 ^ k : Nat) : Int) % 2 = ((c / 2 ^ k % 2 : Nat) : Int) by omega, ← h3, ← h1]
  rfl

theorem width_any (c : Nat) (hc : c < 65536) (w : World) : Calls Try.prog 73 #[.int .u16 c] w fun e w' => e = .returned (.int .i64 (Lib.bitLen c)) ∧ w' = w := by
  have h := len16_any c hc w
  go_enter Try.func73, Try.ntmps73
  go_wp2_with (go_at_call 88; refine Calls.mono h ?_; rintro e w' ⟨rfl, rfl⟩)
  go_ret
  exact ⟨rfl, rfl⟩

/-- The set of columns, or none. -/
def ofL : List Int → Nat → Option Nat
  | [], c => some c
  | x :: xs, c => if 0 ≤ x ∧ x < 16 then ofL xs (c ||| 2 ^ x.toNat) else none

def ofV : Option Nat → Array Value
  | some c => #[.int .u16 c, .int .i64 0]
  | none => #[.int .u16 0, .int .i64 2]

theorem ofL_step {xs : List Int} {k : Nat} (h : k < xs.length) (c : Nat) : ofL (xs.drop k) c = if 0 ≤ xs[k] ∧ xs[k] < 16 then ofL (xs.drop (k + 1)) (c ||| 2 ^ xs[k].toNat) else none := by
  rw [List.drop_eq_getElem_cons h]; rfl

theorem pow16 {n : Nat} (h : n < 16) : 2 ^ n < 65536 := by
  have : 2 ^ n ≤ 2 ^ 15 := Nat.pow_le_pow_right (by omega) (by omega)
  omega

set_option maxRecDepth 100000 in
set_option maxHeartbeats 1000000 in
theorem of_any (w : World) (a1 : Option Addr) (b1 o1 c1 : Nat) (xs : List Int) (hx : IntsS w a1 b1 o1 xs) (hlx : xs.length ≤ maxLen) :
    Calls Try.prog 86 #[.slice a1 xs.length c1] w fun e w' => e = .returned (.tuple (ofV (ofL xs 0))) ∧ w' = w := by
  unfold maxLen at hlx
  have HX : Hid (IntsS w a1 b1 o1 xs) := hx
  clear hx
  go_enter Try.func86, Try.ntmps86
  go_wp2
  go_loopw [4, 9] (fun h i wr => ∃ (k c : Nat), k ≤ xs.length ∧ i = .int .i64 k ∧ h = .int .u16 c ∧ c < 65536 ∧ ofL (xs.drop k) c = ofL xs 0 ∧ w = wr) (fun h i _ => xs.length - (intOf i).toNat)
  case atStart => exact ⟨0, 0, Nat.zero_le _, rfl, rfl, by omega, rfl, rfl⟩
  case round =>
    obtain ⟨k, c, hk, rfl, rfl, hc, hh, rfl⟩ := hrel
    by_cases hlt : k < xs.length
    · obtain rfl := HX.out.1 (by omega)
      have hc1 := HX.out.2 k hlt
      have hi1 : (k : Int) < (xs.length : Int) := by omega
      have HH : Hid ((if 0 ≤ xs[k] ∧ xs[k] < 16 then ofL (xs.drop (k + 1)) (c ||| 2 ^ xs[k].toNat) else none) = ofL xs 0) := (ofL_step hlt c).symm.trans hh
      clear hh
      generalize xs[k] = x at hc1 HH
      by_cases h0 : x < 0
      · have HN : Hid (none = ofL xs 0) := by have h := HH.out; rw [if_neg (by omega)] at h; exact h
        clear HH
        go_wp2
        go_ret2
        exact ⟨by rw [← HN.out]; rfl, rfl⟩
      · by_cases h16 : 16 ≤ x
        · have HN : Hid (none = ofL xs 0) := by have h := HH.out; rw [if_neg (by omega)] at h; exact h
          clear HH
          go_wp2
          go_ret2
          exact ⟨by rw [← HN.out]; rfl, rfl⟩
        · obtain ⟨n, rfl⟩ : ∃ n : Nat, x = n := ⟨x.toNat, by omega⟩
          have hn : n < 16 := by omega
          have HN : Hid (ofL (xs.drop (k + 1)) (c ||| 2 ^ n) = ofL xs 0) := by rw [← HH.out, if_pos (by omega)]; rfl
          clear HH
          go_wp2
          have e1 : IntKind.u16.wrap ((2 : Int) ^ n) = ((2 ^ n : Nat) : Int) := by simpa using wrap16 (2 ^ n) (pow16 hn)
          have e2 := or16 c (2 ^ n) hc (pow16 hn)
          refine ⟨⟨k + 1, c ||| 2 ^ n, by omega, by go_num, by rw [e1, e2], Nat.or_lt_two_pow (n := 16) hc (pow16 hn), HN.out, by first | rfl | trivial⟩, ?_⟩
          simp [intOf]; omega
    · rw [List.drop_of_length_le (by omega)] at hh
      have HH : Hid (some c = ofL xs 0) := hh
      clear hh
      go_wp2
      go_ret2
      exact ⟨by rw [← HH.out]; rfl, rfl⟩
end Go.Proofs.Ytnhmjheipfopoaa
namespace Go.Proofs.Ytnhmjheipfopoaa
open Go.RowKit Go.Maps

/-- A list of numbers that lies in memory of its own, at base or behind. -/
def OwnI (base : Nat) (w : World) (v : Value) (zs : List Int) : Prop := w.ownsRow base 3 1 v zs.length (zs.map (Value.int .i64))

theorem OwnI.ints {base : Nat} {w : World} {v : Value} {zs : List Int} (h : OwnI base w v zs) : ∃ a b c, v = .slice a zs.length c ∧ IntsS w a b 0 zs := by
  have h0 := h
  rcases h.2 with ⟨hx, h2⟩ | ⟨b, c, cur, hv, hb, hh, h1, h2, h3, h4⟩
  · have hz : zs = [] := by simpa using h2
    subst hz
    exact ⟨none, 0, 0, hx, fun h => by simp at h, fun j hj => by simp at hj⟩
  · refine ⟨some ⟨b, 0, none⟩, b, c, hv, ?_⟩
    unfold OwnI at h0
    rw [hv] at h0
    exact ints_of_row (r := []) (by simpa using h0)

theorem OwnI.stay {base : Nat} {w w' : World} {v : Value} {zs : List Int} (h : OwnI base w v zs) (hs : Stay w w') : OwnI base w' v zs := by
  refine ⟨h.1, ?_⟩
  rcases h.2 with hx | ⟨b, c, cur, hv, hb, hh, rest⟩
  · exact .inl hx
  · exact .inr ⟨b, c, cur, hv, hb, hs.heap hh, rest⟩

theorem OwnI.mono {base base' : Nat} {w : World} {v : Value} {zs : List Int} (h : OwnI base w v zs) (hb : base' ≤ base) : OwnI base' w v zs := by
  refine ⟨h.1, ?_⟩
  rcases h.2 with hx | ⟨b, c, cur, hv, hb2, rest⟩
  · exact .inl hx
  · exact .inr ⟨b, c, cur, hv, by omega, rest⟩

theorem run_makeInts (l n : Nat) (hl : l ≤ n) (hn : 8 * n ≤ 281474976710656) (W : World) :
    (Instr.makeSlice 23 (.int .i64 l) (.int .i64 n)).run Try.prog W = .ok (.slice (some ⟨W.heap.size, 0, none⟩) l n) (W.alloc (.cells (madeCells #[.int .i64 0] n) 3)) := by
  obtain ⟨i, hi, hz0, hz1, hz2⟩ := info_parts infoInt
  have h := run_make (P := Try.prog) W 23 3 i _ Try.underlying23 hi hz0 .i64 .i64 l n (by omega) (by omega) (by rw [hz2]; omega) (by omega)
  rw [hz1] at h
  simpa [Value.cells] using h

/-- The columns of c below k. -/
def cols (c k : Nat) : List Int := ((List.range k).filter c.testBit).map Int.ofNat

theorem cols_succ (c k : Nat) : cols c (k + 1) = cols c k ++ (if c.testBit k = true then [(k : Int)] else []) := by
  unfold cols
  rw [List.range_succ, List.filter_append, List.map_append]
  congr 1
  by_cases h : c.testBit k = true
  · simp [h]
  · simp [h]
theorem cols_len (c k : Nat) : (cols c k).length ≤ k := by
  have := List.length_filter_le c.testBit (List.range k)
  simpa [cols] using this
theorem cols_all {c k m : Nat} (h : c < 2 ^ k) (hk : k ≤ m) : cols c m = cols c k := by
  induction m with
  | zero => rw [show k = 0 by omega]
  | succ m ih =>
    by_cases e : k = m + 1
    · rw [e]
    · rw [cols_succ, if_neg, List.append_nil, ih (by omega)]
      rw [Nat.testBit_lt_two_pow (Nat.lt_of_lt_of_le h (Nat.pow_le_pow_right (by omega) (by omega)))]
      simp

theorem bitLen_bound (c : Nat) (hc : c < 65536) : c < 2 ^ Lib.bitLen c ∧ Lib.bitLen c ≤ 16 ∧ (c ≠ 0 → 1 ≤ Lib.bitLen c ∧ 2 ^ (Lib.bitLen c - 1) ≤ c) := by
  by_cases h : c = 0
  · subst h; decide
  · have h2 := Lib.bitLenAux_bounds 64 c (by omega) h
    exact ⟨h2.2.2, Lib.bitLenAux_le 64 c 16 (by omega), fun _ => ⟨h2.1, h2.2.1⟩⟩

set_option maxRecDepth 100000 in
set_option maxHeartbeats 1000000 in
theorem list_any (w : World) (c : Nat) (hc : c < 65536) :
    Calls Try.prog 74 #[.int .u16 c] w fun e w' => ∃ v, e = .returned v ∧ OwnI w.heap.size w' v (cols c 16) ∧ Stay w w' := by
  obtain ⟨i0, hi, hz0, hz1, hz2⟩ := info_parts infoInt
  have HC := ones16_any c hc
  have HW := width_any c hc
  have HT := within_any c
  obtain ⟨hb1, hb2, hb3⟩ := bitLen_bound c hc
  have HA : Hid (cols c 16 = cols c (Lib.bitLen c)) := cols_all hb1 hb2
  clear hb1 hb3
  generalize Lib.bitLen c = m at HW HA hb2
  go_enter Try.func74, Try.ntmps74
  go_wp2_with (first | (go_at_call 89; refine Calls.mono (HC _) ?_; rintro e w1 ⟨n, hn, rfl, d, rfl⟩; have hmk := run_makeInts 0 n (Nat.zero_le _) (by omega) (w.drewN d); simp only [Int.natCast_zero] at hmk) | (go_at_call 73; refine Calls.mono (HW _) ?_; rintro e w2 ⟨rfl, rfl⟩))
  have HO : Hid (OwnI w.heap.size ((w.drewN d).alloc (.cells (madeCells #[.int .i64 0] n) 3)) (.slice (some ⟨w.heap.size, 0, none⟩) 0 n) []) := World.ownsRow_made (w.drewN d) _ n (Nat.le_refl _) (by unfold maxLen; omega) (by simp [size_madeCells])
  have HS : Hid (Stay w ((w.drewN d).alloc (.cells (madeCells #[.int .i64 0] n) 3))) := (Stay.drewN w d).alloc _
  go_loopw [3, 10] (fun v i wr => ∃ k : Nat, k ≤ m ∧ i = .int .i64 k ∧ OwnI w.heap.size wr v (cols c k) ∧ Stay w wr) (fun v i _ => m - (intOf i).toNat)
  case atStart => exact ⟨0, Nat.zero_le _, rfl, HO.out, HS.out⟩
  case round =>
    obtain ⟨k, hk, rfl, hown, hst⟩ := hrel
    by_cases hlt : k < m
    · have hi1 : (k : Int) < (m : Int) := by omega
      have HT2 := HT k hc (by omega)
      have HO2 : Hid (OwnI w.heap.size wr u3 (cols c k) ∧ Stay w wr) := ⟨hown, hst⟩
      have hl2 := cols_len c k
      have HN := cols_succ c k
      clear hown hst HO HS hmk HC HW HT
      by_cases ht : c.testBit k = true
      · rw [ht] at HT2
        rw [if_pos ht] at HN
        have HN2 : Hid (cols c (k + 1) = cols c k ++ [(k : Int)]) := HN
        clear HN ht
        go_wp2_with (first | (go_at_call 90; refine Calls.mono (HT2 _) ?_; rintro e w9 ⟨rfl, hw9⟩; subst w9) | (at_builtin; refine wpList_append_own _ rfl _ _ 23 rfl w.heap.size 3 i0 _ 1 8 Try.underlying23 hi hz0 hz1 hz2 rfl (by decide) u3 (cols c k).length ((cols c k).map (Value.int .i64)) rfl (HO2.out.1.alloc _) ⟨wr.heap.size, 0, none⟩ 1 1 [.int .i64 k] rfl rfl (new_cells wr [.int .i64 k] 3) (by simp [Value.oneCell']) (by unfold maxLen; omega) (by omega) (by rw [World.size_alloc]; have := HO2.out.2.size; omega) ?_; intro v2 w2 hown2 hg2 hn2; have HR : Hid (OwnI w.heap.size w2 v2 (cols c (k + 1)) ∧ Stay w w2) := ⟨by rw [HN2.out]; unfold OwnI; rw [List.length_append, List.map_append]; exact hown2, (HO2.out.2.alloc _).grown hg2 (by rw [World.size_alloc]; have := HO2.out.2.size; omega) (fun k e => (HO2.out.1.lt k e).1)⟩; clear hown2 hg2 hn2))
        go_roundw
        case rel => exact ⟨k + 1, by omega, by go_num, HR.out.1, HR.out.2⟩
        case measure => simp [intOf]; omega
      · have ht2 : c.testBit k = false := by simpa using ht
        rw [ht2] at HT2
        rw [if_neg ht, List.append_nil] at HN
        have HR : Hid (OwnI w.heap.size wr u3 (cols c (k + 1)) ∧ Stay w wr) := by rw [HN]; exact HO2.out
        clear HN ht ht2
        go_wp2_with (go_at_call 90; refine Calls.mono (HT2 _) ?_; rintro e w9 ⟨rfl, hw9⟩; subst w9)
        go_roundw
        case rel => exact ⟨k + 1, by omega, by go_num, HR.out.1, HR.out.2⟩
        case measure => simp [intOf]; omega
    · have hi1 : ¬ (k : Int) < (m : Int) := by omega
      obtain rfl : k = m := by omega
      have HR : Hid (OwnI w.heap.size wr u3 (cols c 16) ∧ Stay w wr) := by rw [HA.out]; exact ⟨hown, hst⟩
      clear hown hst
      go_wp2
      go_ret
      exact ⟨_, rfl, HR.out.1, HR.out.2⟩
end Go.Proofs.Ytnhmjheipfopoaa
namespace Go.Proofs.Ytnhmjheipfopoaa
open Go.RowKit Go.Maps

theorem splice_all {Z X : List Value} (h : X.length = Z.length) : splice Z 0 X = X := by
  simp [splice, h]

theorem own_block {w : World} {base b : Nat} {zs : List Int} (hb : base ≤ b) (hh : w.heap[b]? = some (.cells (zs.map (Value.int .i64)).toArray 3 (0, 0))) (hl : zs.length ≤ maxLen) :
    OwnI base w (.slice (some ⟨b, 0, none⟩) zs.length zs.length) zs :=
  ⟨by simp, .inr ⟨b, zs.length, _, rfl, hb, hh, Nat.le_refl _, hl, by simp, by rw [Nat.mul_one]; exact List.take_of_length_le (by simp)⟩⟩

theorem src_of {w : World} {a : Option Addr} {b o : Nat} {xs : List Int} (hx : IntsS w a b o xs) (h : 0 < (xs.map (Value.int .i64)).length) : ∃ ad, a = some ad ∧ ∀ j v, (xs.map (Value.int .i64))[j]? = some v → w.cell? (ad.add j) = some v := by
  refine ⟨_, hx.1 (by simpa using h), fun j v hv => ?_⟩
  rw [List.getElem?_map, Option.map_eq_some_iff] at hv
  obtain ⟨z, h1, rfl⟩ := hv
  obtain ⟨hj, rfl⟩ := List.getElem?_eq_some_iff.1 h1
  rw [add_at]
  exact hx.2 j hj


theorem cols_mem {c m : Nat} {x : Int} (h : x ∈ cols c m) : ∃ q : Nat, x = q ∧ q < m ∧ c.testBit q = true := by
  unfold cols at h
  rw [List.mem_map] at h
  obtain ⟨q, hq, rfl⟩ := h
  rw [List.mem_filter, List.mem_range] at hq
  exact ⟨q, rfl, hq.1, hq.2⟩

theorem col_lt {c q : Nat} (hc : c < 65536) (h : c.testBit q = true) : q < Lib.bitLen c := by
  have h1 := Nat.ge_two_pow_of_testBit h
  have h2 := (bitLen_bound c hc).1
  exact (Nat.pow_lt_pow_iff_right (a := 2) (by omega)).1 (Nat.lt_of_le_of_lt h1 h2)

/-- A tuple's numbers at the columns of c. -/
def cutL (xs : List Int) (c : Nat) : List Int := (cols c 16).map fun k => xs.getD k.toNat 0

def fillL (M : List Int) (k : Nat) : List Int := M.take k ++ List.replicate (M.length - k) 0
theorem fillL_len (M : List Int) (k : Nat) (h : k ≤ M.length) : (fillL M k).length = M.length := by simp [fillL]; omega
theorem fillL_set (M : List Int) (k : Nat) (h : k < M.length) : (fillL M k).set k M[k] = fillL M (k + 1) := by
  unfold fillL
  rw [List.set_append_right _ _ (by simp; omega), List.take_succ_eq_append_getElem h, show M.length - k = (M.length - (k + 1)) + 1 by omega, List.replicate_succ]
  rw [show k - (M.take k).length = 0 by simp; omega, List.set_cons_zero, List.append_assoc]
  rfl
theorem fillL_all (M : List Int) : fillL M M.length = M := by simp [fillL]
theorem fillL_none (M : List Int) : fillL M 0 = List.replicate M.length 0 := by simp [fillL]

def rowI (w : World) (g : Nat) (zs : List Int) : Prop := w.heap[g]? = some (.cells (zs.map (Value.int .i64)).toArray 3 (0, 0))

theorem rowI.set {w : World} {g : Nat} {zs : List Int} (h : rowI w g zs) (k : Nat) (z : Int) : rowI (w.setCell ⟨g, k, none⟩ (.int .i64 z)) g (zs.set k z) := by
  unfold rowI at *
  rw [heap_setCell_same w g k _ _ _ h]
  simp
theorem rowI.cell {w : World} {g : Nat} {zs : List Int} (h : rowI w g zs) (k : Nat) (hk : k < zs.length) : w.cell? ⟨g, k, none⟩ = some (.int .i64 zs[k]) := by
  unfold rowI at h
  simp [World.cell?, h, hk]
theorem rowI.free {w : World} {g : Nat} {zs : List Int} (h : rowI w g zs) (k : Nat) : w.frozen? ⟨g, k, none⟩ = false := by
  unfold rowI at h
  simp [World.frozen?, h]

theorem stay_set {w w' : World} {g k : Nat} (h : Stay w w') (hg : w.heap.size ≤ g) (v : Value) : Stay w (w'.setCell ⟨g, k, none⟩ v) :=
  Below.trans h ⟨rfl, rfl, rfl, by simp [World.setCell], fun j hj => Below.heap_setCell _ _ _ _ (by show j ≠ g; omega)⟩

theorem cut_short (w : World) (a1 : Option Addr) (c1 n c : Nat) (hc : c < 65536) (h : n < Lib.bitLen c) :
    Calls Try.prog 61 #[.slice a1 n c1, .int .u16 c] w fun e w' => e = .returned (.tuple #[.slice none 0 0, .int .i64 2]) ∧ w' = w := by
  have HW := width_any c hc w
  generalize Lib.bitLen c = m at HW h
  go_enter Try.func61, Try.ntmps61
  go_wp2_with (go_at_call 73; refine Calls.mono HW ?_; rintro e w9 ⟨rfl, hw9⟩; subst w9)
  go_ret2
  exact ⟨rfl, rfl⟩

set_option maxRecDepth 100000 in
set_option maxHeartbeats 1000000 in
theorem cut_any (w : World) (a1 : Option Addr) (b1 o1 c1 c : Nat) (xs : List Int) (hx : IntsS w a1 b1 o1 xs) (hlx : xs.length ≤ maxLen) (hc : c < 65536) (h : Lib.bitLen c ≤ xs.length) :
    Calls Try.prog 61 #[.slice a1 xs.length c1, .int .u16 c] w fun e w' => ∃ v, e = .returned (.tuple #[v, .int .i64 0]) ∧ OwnI w.heap.size w' v (cutL xs c) ∧ Stay w w' := by
  unfold maxLen at hlx
  have HW := width_any c hc w
  have HL := list_any w c hc
  have hlen := cols_len c 16
  have HQ : Hid (∀ k (hk : k < (cols c 16).length), ∃ q : Nat, (cols c 16)[k] = (q : Int) ∧ q < xs.length ∧ (cutL xs c)[k]? = xs[q]?) := fun k hk => by
    obtain ⟨q, h1, h2, h3⟩ := cols_mem (List.getElem_mem hk)
    have h4 := col_lt hc h3
    refine ⟨q, h1, by omega, ?_⟩
    unfold cutL
    rw [List.getElem?_map, List.getElem?_eq_getElem hk, Option.map_some, h1]
    have h5 : q < xs.length := by omega
    simp [h5]
  have HM : Hid ((cutL xs c).length = (cols c 16).length) := List.length_map ..
  obtain ⟨L, hL⟩ : ∃ L, L = cols c 16 := ⟨_, rfl⟩
  obtain ⟨M, hM⟩ : ∃ M, M = cutL xs c := ⟨_, rfl⟩
  rw [← hL] at HL hlen
  rw [← hL, ← hM] at HQ HM
  rw [← hM]
  have HX : Hid (IntsS w a1 b1 o1 xs) := hx
  clear hx hL hM
  have h2 : (Lib.bitLen c : Int) ≤ (xs.length : Int) := by omega
  generalize Lib.bitLen c = m at HW h h2
  go_enter Try.func61, Try.ntmps61
  go_wp2_with (first | (go_at_call 73; refine Calls.mono HW ?_; rintro e w9 ⟨rfl, hw9⟩; subst w9) | (go_at_call 74; refine Calls.mono HL ?_; rintro e w1 ⟨v, rfl, hown, hst⟩; obtain ⟨a6, b6, c6, rfl, hI6⟩ := hown.ints; have HB1 : Hid (Stay w w1 ∧ IntsS w1 a6 b6 0 L) := ⟨hst, hI6⟩; have hmk := run_makeInts L.length L.length (Nat.le_refl _) (by omega) w1; rw [show madeCells #[.int .i64 0] L.length = ((fillL M 0).map (Value.int .i64)).toArray by rw [fillL_none, HM.out, List.map_replicate, ← toList_madeCells_one]] at hmk; clear hown hst hI6 HL HW))
  have HR : Hid (rowI (w1.alloc (.cells ((fillL M 0).map (Value.int .i64)).toArray 3)) w1.heap.size (fillL M 0) ∧ Stay w1 (w1.alloc (.cells ((fillL M 0).map (Value.int .i64)).toArray 3))) := ⟨heap_alloc_new _ _, Stay.new _ _⟩
  generalize w1.alloc (.cells ((fillL M 0).map (Value.int .i64)).toArray 3) = W0 at HR ⊢
  clear hmk
  go_loopw [22] (fun i wr => ∃ k : Nat, k ≤ L.length ∧ i = .int .i64 k ∧ rowI wr w1.heap.size (fillL M k) ∧ Stay w1 wr) (fun i _ => L.length - (intOf i).toNat)
  case atStart => exact ⟨0, Nat.zero_le _, rfl, HR.out.1, HR.out.2⟩
  case round =>
    obtain ⟨k, hk, rfl, hrow, hst⟩ := hrel
    by_cases hlt : k < L.length
    · have hi1 : (k : Int) < (L.length : Int) := by omega
      obtain ⟨q, hq1, hq2, hq3⟩ := HQ.out k hlt
      have hkM : k < M.length := by rw [HM.out]; exact hlt
      obtain rfl := HB1.out.2.1 (by omega)
      obtain rfl := HX.out.1 (by omega)
      have hc6 := hst.cell (HB1.out.2.2 k hlt)
      rw [hq1, Nat.zero_add] at hc6
      have hcx := hst.cell (HB1.out.1.cell (HX.out.2 q hq2))
      have hcg := hrow.cell k (by rw [fillL_len _ _ (by omega)]; exact hkM)
      have hfg := hrow.free k
      have e3 : M[k] = xs[q] := by
        rw [List.getElem?_eq_getElem hkM, List.getElem?_eq_getElem hq2] at hq3
        exact Option.some.inj hq3
      have HN : Hid (rowI (wr.setCell ⟨w1.heap.size, k, none⟩ (.int .i64 xs[q])) w1.heap.size (fillL M (k + 1)) ∧ Stay w1 (wr.setCell ⟨w1.heap.size, k, none⟩ (.int .i64 xs[q]))) := by
        have h1 := hrow.set k xs[q]
        rw [← e3, fillL_set M k hkM, e3] at h1
        exact ⟨h1, stay_set hst (Nat.le_refl _) _⟩
      have hq4 : (q : Int) < (xs.length : Int) := by omega
      clear hrow hst hq3 e3 hq1 HR
      generalize xs[q] = x at hcx HN
      generalize (fillL M k)[k]'_ = y at hcg
      go_wp2
      go_roundw
      case rel => exact ⟨k + 1, by omega, by go_num, HN.out.1, HN.out.2⟩
      case measure => simp [intOf]; omega
    · have hi1 : ¬ (k : Int) < (L.length : Int) := by omega
      obtain rfl : k = L.length := by omega
      rw [← HM.out, fillL_all] at hrow
      have HN : Hid (OwnI w.heap.size wr (.slice (some ⟨w1.heap.size, 0, none⟩) L.length L.length) M ∧ Stay w wr) := by
        rw [← HM.out]
        exact ⟨own_block HB1.out.1.size hrow (by rw [HM.out]; unfold maxLen; omega), HB1.out.1.trans hst⟩
      clear hrow hst
      go_wp2
      go_ret2
      exact ⟨_, rfl, HN.out.1, HN.out.2⟩
end Go.Proofs.Ytnhmjheipfopoaa
