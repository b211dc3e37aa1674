/- The document's small: a number from 0 to 16 as a text. -/
import Derived.Test.YtiobhadchakoiaaGreatDoorDH
namespace Go.Proofs.YtiobhadchakoiaaGreatDoor
open Go.RowKit Go.Maps

theorem convert_one (W : World) (b : UInt8) : (convert 64 9 (.slice (some ⟨W.heap.size, 0, none⟩) 1 1)).run Tryz.prog (W.alloc (.cells #[.int .u8 (b.toNat : Int)] 5)) = .ok (.string ⟨#[b]⟩) (W.alloc (.cells #[.int .u8 (b.toNat : Int)] 5)) := by
  refine run_convert_bytes_back (P := Tryz.prog) (W.alloc (.cells #[.int .u8 (b.toNat : Int)] 5)) 64 9 5 ⟨W.heap.size, 0, none⟩ 1 [b] Tryz.underlying64 Tryz.underlying5 Tryz.underlying9 (fun j hj => ?_)
  have hj0 : j = 0 := by simpa using hj
  subst hj0
  simp [Addr.add]

set_option maxHeartbeats 1000000 in
theorem y9small_lt (n : Nat) (hn : n < 10) (w : World) : Calls Tryz.prog 10 #[.int .i64 (n : Int)] w fun e w' => e = .returned (.string ⟨#[UInt8.ofNat (48 + n)]⟩) ∧ Stay w w' := by
  have hb : ((UInt8.ofNat (48 + n)).toNat : Int) = 48 + (n : Int) := by
    have : (UInt8.ofNat (48 + n)).toNat = 48 + n := by simp; omega
    omega
  have hc := convert_one w (UInt8.ofNat (48 + n))
  rw [hb] at hc
  have h10 : (n : Int) < 10 := by omega
  have h0 : (0 : Int) ≤ (n : Int) := by omega
  have hw8 : IntKind.u8.wrap (48 + (n : Int)) = 48 + (n : Int) := by
    unfold IntKind.wrap
    rw [if_neg (fun h => by rw [Bool.and_eq_true] at h; cases h.1)]
    show (48 + (n : Int)) % 256 = _
    omega
  generalize UInt8.ofNat (48 + n) = b at *
  go_enter Tryz.func10, Tryz.ntmps10
  go_wp2
  go_ret
  exact ⟨rfl, Stay.new _ _⟩
set_option maxHeartbeats 1000000 in
theorem y9small_any (n : Nat) (hn : n ≤ 16) (w : World) : Calls Tryz.prog 10 #[.int .i64 (n : Int)] w fun e w' => e = .returned (.string ⟨(Lib.decDigits n).toArray⟩) ∧ Stay w w' := by
  by_cases h9 : n < 10
  · rw [Lib.decDigits_one h9]
    exact y9small_lt n h9 w
  · have hs := y9small_lt (n - 10) (by omega) w
    rw [show ((n - 10 : Nat) : Int) = (n : Int) - 10 by omega] at hs
    rw [Lib.decDigits_two (by omega) (by omega)]
    have e : n / 10 = 1 ∧ n % 10 = n - 10 := by omega
    rw [e.1, e.2]
    have h10 : ¬ (n : Int) < 10 := by omega
    have happ : (⟨#[49]⟩ : ByteArray) ++ (⟨#[UInt8.ofNat (48 + (n - 10))]⟩ : ByteArray) = ⟨[UInt8.ofNat (48 + 1), UInt8.ofNat (48 + (n - 10))].toArray⟩ := by
      apply ByteArray.ext
      rw [ByteArray.data_append]
      rfl
    have hz : (⟨#[UInt8.ofNat (48 + (n - 10))]⟩ : ByteArray).size = 1 := rfl
    obtain ⟨X, hX⟩ : ∃ X, X = (⟨[UInt8.ofNat (48 + 1), UInt8.ofNat (48 + (n - 10))].toArray⟩ : ByteArray) := ⟨_, rfl⟩
    rw [← hX] at happ ⊢
    have hi : (0 : Int) ≤ (n : Int) - 10 := by omega
    clear hX e
    generalize (⟨#[UInt8.ofNat (48 + (n - 10))]⟩ : ByteArray) = Y at *
    go_enter Tryz.func10, Tryz.ntmps10
    go_wp2_with (go_at_call 10; refine hs.mono ?_; rintro e W1 ⟨rfl, hs1⟩)
    go_ret
    exact ⟨rfl, hs1⟩
end Go.Proofs.YtiobhadchakoiaaGreatDoor
