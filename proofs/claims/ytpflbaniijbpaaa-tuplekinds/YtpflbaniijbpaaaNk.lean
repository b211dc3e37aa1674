/- The document's own answers: Compare, Hash. -/
import Derived.Test.YtpflbaniijbpaaaNak
namespace Go.Proofs.Ytpflbaniijbpaaa
open Go.RowKit Go.Maps

theorem and255 (x : Int) (h0 : 0 ≤ x) (h1 : x < 18446744073709551616) : bits .and .u64 x 255 = x % 256 := by
  obtain ⟨n, rfl⟩ : ∃ n : Nat, x = n := ⟨x.toNat, by omega⟩
  have h := bits_and_u64_nat n 255 (by omega) (by omega)
  rw [show n &&& 255 = n % 256 from Nat.and_two_pow_sub_one_eq_mod n 8] at h
  exact h

set_option maxRecDepth 100000 in
set_option maxHeartbeats 1000000 in
theorem rhash_any (w : World) (a1 : Option Addr) (b1 o1 c1 : Nat) (xs : List Int) (hx : IntsS w a1 b1 o1 xs) (hlx : xs.length ≤ maxLen) :
    Calls Try.prog 13 #[.slice a1 xs.length c1] w fun e w' => e = .returned (.int .u64 (hashOf xs)) ∧ w' = w := by
  unfold maxLen at hlx
  have HX : Hid (IntsS w a1 b1 o1 xs) := hx
  clear hx
  go_enter Try.func13, Try.ntmps13
  go_wp2
  go_loopw [3, 4] (fun h i wr => ∃ (k : Nat) (z : Int), k ≤ xs.length ∧ i = .int .i64 k ∧ h = .int .u64 z ∧ (0 ≤ z ∧ z < 18446744073709551616) ∧ hashL (xs.drop k) z = hashOf xs ∧ w = wr) (fun h i _ => xs.length - (intOf i).toNat)
  case atStart => exact ⟨0, 14695981039346656037, Nat.zero_le _, rfl, rfl, by omega, rfl, rfl⟩
  case round =>
    obtain ⟨k, z, hk, rfl, rfl, hz, hh, rfl⟩ := hrel
    by_cases hlt : k < xs.length
    · obtain rfl := HX.out.1 (by omega)
      have hc1 := HX.out.2 k hlt
      have hi1 : (k : Int) < (xs.length : Int) := by omega
      have HH : Hid (hashL (xs.drop (k + 1)) (h8 8 z (IntKind.u64.wrap xs[k])) = hashOf xs) := (hashL_step hlt z).symm.trans hh
      have HZ : Hid (0 ≤ z ∧ z < 18446744073709551616) := hz
      clear hh hz
      generalize xs[k] = x at hc1 HH
      go_wp2
      go_loopw [3, 5, 6] (fun h r i wr => ∃ (j : Nat) (z' x' : Int), j ≤ 8 ∧ i = .int .i64 j ∧ h = .int .u64 z' ∧ r = .int .u64 x' ∧ (0 ≤ z' ∧ z' < 18446744073709551616) ∧ (0 ≤ x' ∧ x' < 18446744073709551616) ∧ h8 (8 - j) z' x' = h8 8 z (IntKind.u64.wrap x) ∧ w = wr) (fun h r i _ => 8 - (intOf i).toNat)
      case atStart => exact ⟨0, z, _, by omega, rfl, rfl, rfl, HZ.out, wrap64_range x, rfl, rfl⟩
      case round =>
        obtain ⟨j, z', x', hj, rfl, rfl, rfl, hz, hx, hh, rfl⟩ := hrel
        by_cases hlt : j < 8
        · have hj2 : (j : Int) < 8 := by omega
          have HH2 : Hid (h8 (8 - (j + 1)) (hmix z' x') (x' / 256) = h8 8 z (IntKind.u64.wrap x)) := by
            rw [show 8 - j = (8 - (j + 1)) + 1 by omega] at hh
            exact hh
          have HX2 : Hid (0 ≤ x' ∧ x' < 18446744073709551616) := hx
          clear hh hz
          obtain ⟨hx0, hx1⟩ := hx
          go_wp2
          go_roundw
          case rel =>
            rw [← and255 x' HX2.out.1 HX2.out.2]
            exact ⟨j + 1, _, _, by omega, by go_num, rfl, rfl, wrap64_range _, by have := HX2.out; omega, HH2.out, by first | rfl | trivial⟩
          case measure => simp [intOf]; omega
        · have hj2 : ¬ ((j : Int) < 8) := by omega
          obtain rfl : j = 8 := by omega
          have HH2 : Hid (hashL (xs.drop (k + 1)) z' = hashOf xs) := by rw [← HH.out, ← hh]; rfl
          have HZ2 : Hid (0 ≤ z' ∧ z' < 18446744073709551616) := hz
          clear hh hz hx
          go_wp2
          refine ⟨⟨k + 1, z', by omega, by go_num, rfl, HZ2.out, HH2.out, by first | rfl | trivial⟩, ?_⟩
          simp [intOf]; omega
    · rw [List.drop_of_length_le (by omega)] at hh
      have HH : Hid (z = hashOf xs) := hh
      clear hh
      go_wp2
      go_ret
      exact ⟨by rw [← HH.out]; rfl, rfl⟩
end Go.Proofs.Ytpflbaniijbpaaa
