/- Compare and Hash at u16: what each answers. -/
import Derived.Test.YtpflbaniijbpaaaKA
namespace Go.Proofs.Ytpflbaniijbpaaa
open Go.RowKit Go.Maps

theorem isNaN_any_u16 (x : Int) (w : World) : Calls Try.prog 41 #[.int .u16 x] w fun e w' => e = .returned (.bool false) ∧ w' = w := by
  go_enter Try.func41, Try.ntmps41
  go_wp2
  go_ret
  exact ⟨by simp, rfl⟩

theorem cmp_any_u16 (x y : Int) (w : World) : Calls Try.prog 33 #[.int .u16 x, .int .u16 y] w fun e w' => e = .returned (.int .i64 (cmp1 x y)) ∧ w' = w := by
  have h1 := isNaN_any_u16
  go_enter Try.func33, Try.ntmps33
  go_wp2_with (go_at_call 41; refine Calls.mono (h1 _ _) ?_; rintro e w' ⟨rfl, rfl⟩)
  · go_ret
    exact ⟨by simp_all [cmp1], rfl⟩
  · go_ret
    exact ⟨by simp_all [cmp1] <;> omega, rfl⟩
  · go_ret
    exact ⟨by simp_all [cmp1] <;> omega, rfl⟩

set_option maxRecDepth 100000 in
set_option maxHeartbeats 1000000 in
theorem slCompare_any_u16 (w : World) (a1 a2 : Option Addr) (b1 o1 b2 o2 c1 c2 : Nat) (xs ys : List Int) (hx : IntsK .u16 w a1 b1 o1 xs) (hy : IntsK .u16 w a2 b2 o2 ys) (hlx : xs.length ≤ maxLen) (hly : ys.length ≤ maxLen) :
    Calls Try.prog 19 #[.slice a1 xs.length c1, .slice a2 ys.length c2] w fun e w' => e = .returned (.int .i64 (cmpL xs ys)) ∧ w' = w := by
  unfold maxLen at hlx hly
  have HC := cmp_any_u16
  have HX : Hid (IntsK .u16 w a1 b1 o1 xs ∧ IntsK .u16 w a2 b2 o2 ys) := ⟨hx, hy⟩
  clear hx hy
  go_enter Try.func19, Try.ntmps19
  go_wp2
  go_loopw [11] (fun i wr => ∃ k : Nat, k ≤ xs.length ∧ k ≤ ys.length ∧ i = .int .i64 k ∧ cmpL xs ys = cmpL (xs.drop k) (ys.drop k) ∧ wr = w) (fun i _ => xs.length - (intOf i).toNat)
  case atStart => exact ⟨0, Nat.zero_le _, Nat.zero_le _, rfl, by simp, rfl⟩
  case round =>
    obtain ⟨k, hk, hk2, rfl, htk, rfl⟩ := hrel
    by_cases hlt : k < xs.length
    · obtain rfl := HX.out.1.1 (by omega)
      have hc1 := HX.out.1.2 k hlt
      have hi1 : (k : Int) < (xs.length : Int) := by omega
      by_cases hlt2 : k < ys.length
      · obtain rfl := HX.out.2.1 (by omega)
        have hc2 := HX.out.2.2 k hlt2
        have hi2 : (k : Int) < (ys.length : Int) := by omega
        have HS : Hid (cmpL xs ys = if cmp1 xs[k] ys[k] = 0 then cmpL (xs.drop (k + 1)) (ys.drop (k + 1)) else cmp1 xs[k] ys[k]) := htk.trans (cmpL_step hlt hlt2)
        generalize xs[k] = x at hc1 HS
        generalize ys[k] = y at hc2 HS
        clear htk
        go_wp2_with (go_at_call 33; refine Calls.mono (HC _ _ _) ?_; rintro e w' ⟨rfl, rfl⟩)
        · go_ret
          have h : (cmp1 x y != 0) = true := by assumption
          exact ⟨by rw [HS.out, if_neg (by simpa using h)]; rfl, rfl⟩
        · have h : (cmp1 x y != 0) = false := by assumption
          go_roundw
          case rel => exact ⟨k + 1, by omega, by omega, by go_num, by rw [HS.out, if_pos (by simpa using h)], by first | rfl | trivial⟩
          case measure => simp [intOf]; omega
      · have hi2 : ¬ ((k : Int) < (ys.length : Int)) := by omega
        have HS : Hid (cmpL xs ys = 1) := htk.trans (cmpL_left hlt (by omega))
        have hge : (ys.length : Int) ≤ (k : Int) := by omega
        clear htk
        go_wp2
        go_ret
        exact ⟨by rw [HS.out]; rfl, rfl⟩
    · have HS : Hid (cmpL xs ys = if k < ys.length then -1 else 0) := htk.trans (cmpL_end (by omega) hk2)
      clear htk
      by_cases hlt2 : xs.length < ys.length
      · go_wp2
        go_ret
        exact ⟨by rw [HS.out, if_pos (by omega)]; rfl, rfl⟩
      · go_wp2
        go_ret
        exact ⟨by rw [HS.out, if_neg (by omega)]; rfl, rfl⟩

theorem compare_any_u16 (w : World) (a1 a2 : Option Addr) (b1 o1 b2 o2 c1 c2 : Nat) (xs ys : List Int) (hx : IntsK .u16 w a1 b1 o1 xs) (hy : IntsK .u16 w a2 b2 o2 ys) (hlx : xs.length ≤ maxLen) (hly : ys.length ≤ maxLen) :
    Calls Try.prog 6 #[.slice a1 xs.length c1, .slice a2 ys.length c2] w fun e w' => e = .returned (.int .i64 (cmpL xs ys)) ∧ w' = w := by
  have h := slCompare_any_u16 w a1 a2 b1 o1 b2 o2 c1 c2 xs ys hx hy hlx hly
  clear hx hy
  go_enter Try.func6, Try.ntmps6
  go_wp2_with (go_at_call 19; refine Calls.mono h ?_; rintro e w' ⟨rfl, rfl⟩)
  go_ret
  exact ⟨rfl, rfl⟩

set_option maxRecDepth 100000 in
set_option maxHeartbeats 1000000 in
theorem hash_any_u16 (w : World) (a1 : Option Addr) (b1 o1 c1 : Nat) (xs : List Int) (hx : IntsK .u16 w a1 b1 o1 xs) (hlx : xs.length ≤ maxLen) (hr : ∀ z ∈ xs, -9223372036854775808 ≤ z ∧ z < 9223372036854775808) :
    Calls Try.prog 14 #[.slice a1 xs.length c1] w fun e w' => e = .returned (.int .u64 (hashOf xs)) ∧ w' = w := by
  unfold maxLen at hlx
  have HX : Hid (IntsK .u16 w a1 b1 o1 xs) := hx
  have HRG : Hid (∀ z ∈ xs, -9223372036854775808 ≤ z ∧ z < 9223372036854775808) := hr
  clear hx hr
  go_enter Try.func14, Try.ntmps14
  go_wp2
  go_loopw [3, 9] (fun h i wr => ∃ (k : Nat) (z : Int), k ≤ xs.length ∧ i = .int .i64 k ∧ h = .int .u64 z ∧ (0 ≤ z ∧ z < 18446744073709551616) ∧ hashL (xs.drop k) z = hashOf xs ∧ w = wr) (fun h i _ => xs.length - (intOf i).toNat)
  case atStart => exact ⟨0, 14695981039346656037, Nat.zero_le _, rfl, rfl, by omega, rfl, rfl⟩
  case round =>
    obtain ⟨k, z, hk, rfl, rfl, hz, hh, rfl⟩ := hrel
    by_cases hlt : k < xs.length
    · obtain rfl := HX.out.1 (by omega)
      have hc1 := HX.out.2 k hlt
      have hi1 : (k : Int) < (xs.length : Int) := by omega
      have HH : Hid (hashL (xs.drop (k + 1)) (h8 8 z (IntKind.u64.wrap xs[k])) = hashOf xs) := (hashL_step hlt z).symm.trans hh
      have HZ : Hid (0 ≤ z ∧ z < 18446744073709551616) := hz
      clear hh hz
      have hrx := HRG.out xs[k] (List.getElem_mem hlt)
      generalize xs[k] = x at hc1 HH hrx
      have HRX : Hid (-9223372036854775808 ≤ x ∧ x < 9223372036854775808) := hrx
      have hrx1 := hrx.1
      have hrx2 := hrx.2
      clear hrx
      go_wp2
      go_loopw [3, 6, 16] (fun h r i wr => ∃ (j : Nat) (z' x' : Int), j ≤ 8 ∧ i = .int .i64 j ∧ h = .int .u64 z' ∧ r = .int .u64 x' ∧ (0 ≤ z' ∧ z' < 18446744073709551616) ∧ (0 ≤ x' ∧ x' < 18446744073709551616) ∧ h8 (8 - j) z' x' = h8 8 z (IntKind.u64.wrap x) ∧ w = wr) (fun h r i _ => 8 - (intOf i).toNat)
      case atStart => exact ⟨0, z, _, by omega, rfl, rfl, rfl, HZ.out, wrap64_range x, rfl, rfl⟩
      case round =>
        obtain ⟨j, z', x', hj, rfl, rfl, rfl, hz, hx, hh, rfl⟩ := hrel
        by_cases hlt : j < 8
        · have hj2 : (j : Int) < 8 := by omega
          have HH2 : Hid (h8 (8 - (j + 1)) (hmix z' x') (x' / 256) = h8 8 z (IntKind.u64.wrap x)) := by
            rw [show 8 - j = (8 - (j + 1)) + 1 by omega] at hh
            exact hh
          have HX2 : Hid (0 ≤ x' ∧ x' < 18446744073709551616) := hx
          clear hh hz
          obtain ⟨hx0, hx1⟩ := hx
          go_wp2
          go_roundw
          case rel => exact ⟨j + 1, _, _, by omega, by go_num, rfl, rfl, wrap64_range _, by have := HX2.out; omega, HH2.out, by first | rfl | trivial⟩
          case measure => simp [intOf]; omega
        · have hj2 : ¬ ((j : Int) < 8) := by omega
          obtain rfl : j = 8 := by omega
          have HH2 : Hid (hashL (xs.drop (k + 1)) z' = hashOf xs) := by rw [← HH.out, ← hh]; rfl
          have HZ2 : Hid (0 ≤ z' ∧ z' < 18446744073709551616) := hz
          clear hh hz hx
          go_wp2
          refine ⟨⟨k + 1, z', by omega, by go_num, rfl, HZ2.out, HH2.out, by first | rfl | trivial⟩, ?_⟩
          simp [intOf]; omega
    · rw [List.drop_of_length_le (by omega)] at hh
      have HH : Hid (z = hashOf xs) := hh
      clear hh
      go_wp2
      go_ret
      exact ⟨by rw [← HH.out]; rfl, rfl⟩

end Go.Proofs.Ytpflbaniijbpaaa
