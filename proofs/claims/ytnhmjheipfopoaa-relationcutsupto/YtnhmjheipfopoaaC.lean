/- Hash: what it answers. -/
import Derived.Test.YtnhmjheipfopoaaB
namespace Go.Proofs.Ytnhmjheipfopoaa
open Go.RowKit Go.Maps

theorem wrap64 (n : Int) : IntKind.u64.wrap n = n % 18446744073709551616 := by
  simp [IntKind.wrap, IntKind.signed, IntKind.bits]

theorem wrap64_range (n : Int) : 0 ≤ IntKind.u64.wrap n ∧ IntKind.u64.wrap n < 18446744073709551616 := by
  rw [wrap64]; omega

/-- One byte into the hash. -/
def hmix (z x : Int) : Int := IntKind.u64.wrap (bits .xor .u64 z (bits .and .u64 x 255) * 1099511628211)
def h8 : Nat → Int → Int → Int
  | 0, z, _ => z
  | n + 1, z, x => h8 n (hmix z x) (x / 256)
def hashL : List Int → Int → Int
  | [], z => z
  | x :: xs, z => hashL xs (h8 8 z (IntKind.u64.wrap x))
/-- The hash of a tuple. -/
def hashOf (xs : List Int) : Int := hashL xs 14695981039346656037

theorem hashL_step {xs : List Int} {k : Nat} (h : k < xs.length) (z : Int) : hashL (xs.drop k) z = hashL (xs.drop (k + 1)) (h8 8 z (IntKind.u64.wrap xs[k])) := by
  rw [List.drop_eq_getElem_cons h]; rfl

set_option maxRecDepth 100000 in
set_option maxHeartbeats 1000000 in
theorem hash_any (w : World) (a1 : Option Addr) (b1 o1 c1 : Nat) (xs : List Int) (hx : IntsS w a1 b1 o1 xs) (hlx : xs.length ≤ maxLen) :
    Calls Try.prog 67 #[.slice a1 xs.length c1] w fun e w' => e = .returned (.int .u64 (hashOf xs)) ∧ w' = w := by
  unfold maxLen at hlx
  have HX : Hid (IntsS w a1 b1 o1 xs) := hx
  clear hx
  go_enter Try.func67, Try.ntmps67
  go_wp2
  go_loopw [3, 9] (fun h i wr => ∃ (k : Nat) (z : Int), k ≤ xs.length ∧ i = .int .i64 k ∧ h = .int .u64 z ∧ (0 ≤ z ∧ z < 18446744073709551616) ∧ hashL (xs.drop k) z = hashOf xs ∧ w = wr) (fun h i _ => xs.length - (intOf i).toNat)
  case atStart => exact ⟨0, 14695981039346656037, Nat.zero_le _, rfl, rfl, by omega, rfl, rfl⟩
  case round =>
    obtain ⟨k, z, hk, rfl, rfl, hz, hh, rfl⟩ := hrel
    by_cases hlt : k < xs.length
    · obtain rfl := HX.out.1 (by omega)
      have hc1 := HX.out.2 k hlt
      have hi1 : (k : Int) < (xs.length : Int) := by omega
      have HH : Hid (hashL (xs.drop (k + 1)) (h8 8 z (IntKind.u64.wrap xs[k])) = hashOf xs) := (hashL_step hlt z).symm.trans hh
      have HZ : Hid (0 ≤ z ∧ z < 18446744073709551616) := hz
      clear hh hz
      generalize xs[k] = x at hc1 HH
      go_wp2
      go_loopw [3, 6, 15] (fun h r i wr => ∃ (j : Nat) (z' x' : Int), j ≤ 8 ∧ i = .int .i64 j ∧ h = .int .u64 z' ∧ r = .int .u64 x' ∧ (0 ≤ z' ∧ z' < 18446744073709551616) ∧ (0 ≤ x' ∧ x' < 18446744073709551616) ∧ h8 (8 - j) z' x' = h8 8 z (IntKind.u64.wrap x) ∧ w = wr) (fun h r i _ => 8 - (intOf i).toNat)
      case atStart => exact ⟨0, z, _, by omega, rfl, rfl, rfl, HZ.out, wrap64_range x, rfl, rfl⟩
      case round =>
        obtain ⟨j, z', x', hj, rfl, rfl, rfl, hz, hx, hh, rfl⟩ := hrel
        by_cases hlt : j < 8
        · have hj2 : (j : Int) < 8 := by omega
          have HH2 : Hid (h8 (8 - (j + 1)) (hmix z' x') (x' / 256) = h8 8 z (IntKind.u64.wrap x)) := by
            rw [show 8 - j = (8 - (j + 1)) + 1 by omega] at hh
            exact hh
          have HX2 : Hid (0 ≤ x' ∧ x' < 18446744073709551616) := hx
          clear hh hz
          obtain ⟨hx0, hx1⟩ := hx
          go_wp2
          go_roundw
          case rel => exact ⟨j + 1, _, _, by omega, by go_num, rfl, rfl, wrap64_range _, by have := HX2.out; omega, HH2.out, by first | rfl | trivial⟩
          case measure => simp [intOf]; omega
        · have hj2 : ¬ ((j : Int) < 8) := by omega
          obtain rfl : j = 8 := by omega
          have HH2 : Hid (hashL (xs.drop (k + 1)) z' = hashOf xs) := by rw [← HH.out, ← hh]; rfl
          have HZ2 : Hid (0 ≤ z' ∧ z' < 18446744073709551616) := hz
          clear hh hz hx
          go_wp2
          refine ⟨⟨k + 1, z', by omega, by go_num, rfl, HZ2.out, HH2.out, by first | rfl | trivial⟩, ?_⟩
          simp [intOf]; omega
    · rw [List.drop_of_length_le (by omega)] at hh
      have HH : Hid (z = hashOf xs) := hh
      clear hh
      go_wp2
      go_ret
      exact ⟨by rw [← HH.out]; rfl, rfl⟩

theorem hash_zero : hashOf [0] = 12161962213042174405 := by decide +kernel
end Go.Proofs.Ytnhmjheipfopoaa
