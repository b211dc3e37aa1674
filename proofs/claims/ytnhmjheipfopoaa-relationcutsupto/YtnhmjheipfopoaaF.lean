/- width, within, Of, List: sets of columns. -/
import Derived.Test.YtnhmjheipfopoaaE
import Derived.Lib.ItoaNum
namespace Go.Proofs.Ytnhmjheipfopoaa
open Go.RowKit Go.Maps

theorem wrap16 (n : Nat) (h : n < 65536) : IntKind.u16.wrap (n : Int) = n := by
  simp [IntKind.wrap, IntKind.signed, IntKind.bits]; omega

theorem and16 (a b : Nat) (ha : a < 65536) (hb : b < 65536) : bits .and .u16 (a : Int) (b : Int) = ((a &&& b : Nat) : Int) := by
  have e : ∀ n : Nat, n < 65536 → (BitVec.ofInt 16 (n : Int)).toNat = n := fun n hn => by simp; omega
  have h : (BitVec.ofInt 16 (a : Int) &&& BitVec.ofInt 16 (b : Int)).toNat = a &&& b := by rw [BitVec.toNat_and, e a ha, e b hb]
  have hl : a &&& b < 65536 := Nat.lt_of_le_of_lt Nat.and_le_left ha
  show IntKind.u16.wrap _ = _
  rw [show (BitVec.ofInt IntKind.u16.bits (a : Int) &&& BitVec.ofInt IntKind.u16.bits (b : Int)).toNat = a &&& b from h]
  exact wrap16 _ hl

theorem or16 (a b : Nat) (ha : a < 65536) (hb : b < 65536) : bits .or .u16 (a : Int) (b : Int) = ((a ||| b : Nat) : Int) := by
  have e : ∀ n : Nat, n < 65536 → (BitVec.ofInt 16 (n : Int)).toNat = n := fun n hn => by simp; omega
  have h : (BitVec.ofInt 16 (a : Int) ||| BitVec.ofInt 16 (b : Int)).toNat = a ||| b := by rw [BitVec.toNat_or, e a ha, e b hb]
  have hl : a ||| b < 2 ^ 16 := Nat.or_lt_two_pow ha hb
  show IntKind.u16.wrap _ = _
  rw [show (BitVec.ofInt IntKind.u16.bits (a : Int) ||| BitVec.ofInt IntKind.u16.bits (b : Int)).toNat = a ||| b from h]
  exact wrap16 _ hl

theorem len8_at (i : Nat) (h : i < Lib.len8tab.size) : (Lib.len8tab[i].toNat : Int) = (Lib.bitLen i : Int) ∧ Lib.bitLen i ≤ 8 := by
  have h2 : i < 256 := by rw [Lib.len8tab_size] at h; exact h
  have h1 := Lib.len8_of (i : Int) (by omega) (by omega)
  unfold Lib.len8 at h1
  simp only [Int.toNat_natCast] at h1
  rw [ByteArray.getElem?_lt' _ _ h] at h1
  exact ⟨h1, Lib.bitLen_le8' (i : Int) (by omega) (by omega)⟩

theorem wrap_small (n : Int) (h0 : 0 ≤ n) (h1 : n < 1000) : RowKit.wrap64 n = n := by
  unfold RowKit.wrap64
  omega

set_option maxRecDepth 100000 in
set_option maxHeartbeats 4000000 in
theorem len16_any (c : Nat) (hc : c < 65536) (w : World) : Calls Try.prog 88 #[.int .u16 c] w fun e w' => e = .returned (.int .i64 (Lib.bitLen c)) ∧ w' = w := by
  have hs := Lib.len8tab_size
  go_enter Try.func88, Try.ntmps88
  rw [show (ByteArray.mk _) = Lib.len8tab from by kernel_rfl]
  go_wp2
  · go_ret
    refine ⟨?_, rfl⟩
    obtain ⟨e1, e2⟩ := len8_at (c / 256) (by omega)
    have s8 := Lib.bitLen_shift8 c (by omega) (by omega)
    have : RowKit.wrap64 (8 + RowKit.wrap64 (Lib.len8tab[c / 256].toNat : Int)) = (Lib.bitLen c : Int) := by
      rw [e1, wrap_small (Lib.bitLen (c / 256) : Int) (by omega) (by omega), wrap_small _ (by omega) (by omega)]; omega
    rw [← this]
    rfl
  · go_ret
    refine ⟨?_, rfl⟩
    obtain ⟨e1, e2⟩ := len8_at c (by omega)
    have : RowKit.wrap64 (RowKit.wrap64 (Lib.len8tab[c].toNat : Int)) = (Lib.bitLen c : Int) := by
      rw [e1, wrap_small (Lib.bitLen c : Int) (by omega) (by omega), wrap_small _ (by omega) (by omega)]
    rw [← this]
    rfl

set_option maxRecDepth 100000 in
set_option maxHeartbeats 4000000 in
theorem ones16_any (c : Nat) (hc : c < 65536) (w : World) : Calls Try.prog 89 #[.int .u16 c] w fun e w' => ∃ n : Nat, n ≤ 255 ∧ e = .returned (.int .i64 n) ∧ ∃ d, w' = w.drewN d := by
  have hs := Lib.pop8tab_size
  have h1 : (0 : Int) ≤ (c : Int) / 256 := by omega
  have h2 : (c : Int) / 256 ≤ 255 := by omega
  have hand : bits .and .u16 (c : Int) 255 = ((c &&& 255 : Nat) : Int) := and16 c 255 hc (by omega)
  have h3 : c &&& 255 ≤ 255 := Nat.and_le_right
  generalize c &&& 255 = m at hand h3
  have h4 : (m : Int) < 256 := by omega
  have h5 : (c : Int) / 256 < 256 := by omega
  go_enter Try.func89, Try.ntmps89
  rw [show (ByteArray.mk _) = Lib.pop8tab from by kernel_rfl]
  go_wp2
  go_quiet (fail)
  go_wp2
  go_ret
  refine ⟨((Lib.pop8 ((c : Int) / 256) + ((Lib.pop8tab[m]'(by omega)).toNat : Int)) % 256).toNat, by omega, ?_, _, rfl⟩
  rw [Int.toNat_of_nonneg (by omega)]
  rfl

theorem bit_eq (c k : Nat) : (((c / 2 ^ k : Nat) : Int) % 2 == 1) = c.testBit k := by
  rw [Nat.testBit_eq_decide_div_mod_eq, Bool.eq_iff_iff, beq_iff_eq, decide_eq_true_iff]
  omega

set_option maxRecDepth 100000 in
theorem within_any (c k : Nat) (hc : c < 65536) (hk : k < 16) (w : World) : Calls Try.prog 90 #[.int .u16 c, .int .i64 k] w fun e w' => e = .returned (.bool (c.testBit k)) ∧ w' = w := by
  go_enter Try.func90, Try.ntmps90
  go_wp2
  go_ret
  refine ⟨?_, rfl⟩
  have hp : 0 < 2 ^ k := Nat.two_pow_pos k
  have h1 : ((c : Int) / 2 ^ k) = ((c / 2 ^ k : Nat) : Int) := by simp
  have h2 : c / 2 ^ k < 65536 := Nat.lt_of_le_of_lt (Nat.div_le_self _ _) hc
  have h3 := and16 (c / 2 ^ k) 1 h2 (by omega)
  rw [Nat.and_one_is_mod] at h3
  rw [← bit_eq, show ((c / 2 ^ k : Nat) : Int) % 2 = ((c / 2 ^ k % 2 : Nat) : Int) by omega, ← h3, ← h1]
  rfl

theorem width_any (c : Nat) (hc : c < 65536) (w : World) : Calls Try.prog 73 #[.int .u16 c] w fun e w' => e = .returned (.int .i64 (Lib.bitLen c)) ∧ w' = w := by
  have h := len16_any c hc w
  go_enter Try.func73, Try.ntmps73
  go_wp2_with (go_at_call 88; refine Calls.mono h ?_; rintro e w' ⟨rfl, rfl⟩)
  go_ret
  exact ⟨rfl, rfl⟩

/-- The set of columns, or none. -/
def ofL : List Int → Nat → Option Nat
  | [], c => some c
  | x :: xs, c => if 0 ≤ x ∧ x < 16 then ofL xs (c ||| 2 ^ x.toNat) else none

def ofV : Option Nat → Array Value
  | some c => #[.int .u16 c, .int .i64 0]
  | none => #[.int .u16 0, .int .i64 2]

theorem ofL_step {xs : List Int} {k : Nat} (h : k < xs.length) (c : Nat) : ofL (xs.drop k) c = if 0 ≤ xs[k] ∧ xs[k] < 16 then ofL (xs.drop (k + 1)) (c ||| 2 ^ xs[k].toNat) else none := by
  rw [List.drop_eq_getElem_cons h]; rfl

theorem pow16 {n : Nat} (h : n < 16) : 2 ^ n < 65536 := by
  have : 2 ^ n ≤ 2 ^ 15 := Nat.pow_le_pow_right (by omega) (by omega)
  omega

set_option maxRecDepth 100000 in
set_option maxHeartbeats 1000000 in
theorem of_any (w : World) (a1 : Option Addr) (b1 o1 c1 : Nat) (xs : List Int) (hx : IntsS w a1 b1 o1 xs) (hlx : xs.length ≤ maxLen) :
    Calls Try.prog 86 #[.slice a1 xs.length c1] w fun e w' => e = .returned (.tuple (ofV (ofL xs 0))) ∧ w' = w := by
  unfold maxLen at hlx
  have HX : Hid (IntsS w a1 b1 o1 xs) := hx
  clear hx
  go_enter Try.func86, Try.ntmps86
  go_wp2
  go_loopw [4, 9] (fun h i wr => ∃ (k c : Nat), k ≤ xs.length ∧ i = .int .i64 k ∧ h = .int .u16 c ∧ c < 65536 ∧ ofL (xs.drop k) c = ofL xs 0 ∧ w = wr) (fun h i _ => xs.length - (intOf i).toNat)
  case atStart => exact ⟨0, 0, Nat.zero_le _, rfl, rfl, by omega, rfl, rfl⟩
  case round =>
    obtain ⟨k, c, hk, rfl, rfl, hc, hh, rfl⟩ := hrel
    by_cases hlt : k < xs.length
    · obtain rfl := HX.out.1 (by omega)
      have hc1 := HX.out.2 k hlt
      have hi1 : (k : Int) < (xs.length : Int) := by omega
      have HH : Hid ((if 0 ≤ xs[k] ∧ xs[k] < 16 then ofL (xs.drop (k + 1)) (c ||| 2 ^ xs[k].toNat) else none) = ofL xs 0) := (ofL_step hlt c).symm.trans hh
      clear hh
      generalize xs[k] = x at hc1 HH
      by_cases h0 : x < 0
      · have HN : Hid (none = ofL xs 0) := by have h := HH.out; rw [if_neg (by omega)] at h; exact h
        clear HH
        go_wp2
        go_ret2
        exact ⟨by rw [← HN.out]; rfl, rfl⟩
      · by_cases h16 : 16 ≤ x
        · have HN : Hid (none = ofL xs 0) := by have h := HH.out; rw [if_neg (by omega)] at h; exact h
          clear HH
          go_wp2
          go_ret2
          exact ⟨by rw [← HN.out]; rfl, rfl⟩
        · obtain ⟨n, rfl⟩ : ∃ n : Nat, x = n := ⟨x.toNat, by omega⟩
          have hn : n < 16 := by omega
          have HN : Hid (ofL (xs.drop (k + 1)) (c ||| 2 ^ n) = ofL xs 0) := by rw [← HH.out, if_pos (by omega)]; rfl
          clear HH
          go_wp2
          have e1 : IntKind.u16.wrap ((2 : Int) ^ n) = ((2 ^ n : Nat) : Int) := by simpa using wrap16 (2 ^ n) (pow16 hn)
          have e2 := or16 c (2 ^ n) hc (pow16 hn)
          refine ⟨⟨k + 1, c ||| 2 ^ n, by omega, by go_num, by rw [e1, e2], Nat.or_lt_two_pow (n := 16) hc (pow16 hn), HN.out, by first | rfl | trivial⟩, ?_⟩
          simp [intOf]; omega
    · rw [List.drop_of_length_le (by omega)] at hh
      have HH : Hid (some c = ofL xs 0) := hh
      clear hh
      go_wp2
      go_ret2
      exact ⟨by rw [← HH.out]; rfl, rfl⟩
end Go.Proofs.Ytnhmjheipfopoaa
