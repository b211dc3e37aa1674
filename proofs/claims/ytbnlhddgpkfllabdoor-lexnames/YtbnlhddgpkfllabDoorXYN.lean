/- LexNames' walk. -/
import Derived.Test.YtbnlhddgpkfllabDoorXX
namespace Go.Proofs.YtbnlhddgpkfllabDoor
open Go.RowKit Go.Maps

theorem names_cells (w : World) (T : TypeId) (k : Nat) (hk : k < 14) : (w.alloc (.cells #[.int .i64 1, .int .i64 2, .int .i64 3, .int .i64 4, .int .i64 5, .int .i64 6, .int .i64 7, .int .i64 8, .int .i64 9, .int .i64 10, .int .i64 11, .int .i64 12, .int .i64 13, .int .i64 14] T)).cell? ⟨w.heap.size, k, none⟩ = some (.int .i64 ((k : Int) + 1)) := by
  have h := new_cells w ((List.range 14).map fun i : Nat => Value.int .i64 ((i : Int) + 1)) T k (.int .i64 ((k : Int) + 1)) (by simp [hk])
  rw [add_at, Nat.zero_add] at h
  exact h

set_option maxRecDepth 100000 in
set_option maxHeartbeats 1000000 in
theorem lexNames_walk (w : World) (hT : Tabs w) : Calls Tryd.prog 4 #[] w fun e w' => e = .returned (.bool true) ∧ Stay w w' := by
  have hkn := fun (W : World) (hW : Stay w W) => known_any W (hT.stay hW)
  go_enter Tryd.func4, Tryd.ntmps4
  go_wp2
  obtain ⟨X, hX⟩ : ∃ X, X = w.alloc (.cells #[.int .i64 1, .int .i64 2, .int .i64 3, .int .i64 4, .int .i64 5, .int .i64 6, .int .i64 7, .int .i64 8, .int .i64 9, .int .i64 10, .int .i64 11, .int .i64 12, .int .i64 13, .int .i64 14] 24) := ⟨_, rfl⟩
  have hc : ∀ k : Nat, k < 14 → X.cell? ⟨w.heap.size, k, none⟩ = some (.int .i64 ((k : Int) + 1)) := fun k hk => by rw [hX]; exact names_cells w _ k hk
  have hS : Stay w X := by rw [hX]; exact Stay.new _ _
  rw [← hX]
  clear hX
  go_loopw [2] (fun i wr => wr = X ∧ ∃ k : Nat, k ≤ 14 ∧ i = .int .i64 (k : Int)) (fun i _ => 14 - (intOf i).toNat)
  case atStart => exact ⟨rfl, 0, Nat.zero_le _, rfl⟩
  case round =>
    obtain ⟨rfl, k, hk, rfl⟩ := hrel
    by_cases hlt : k < 14
    · have hck := hc k hlt
      have hki : (k : Int) < 14 := by omega
      clear hc hkn
      go_wp2
      go_roundw
      case rel => exact ⟨by trivial, k + 1, by omega, by simp⟩
      case measure => simp [intOf]; omega
    · obtain rfl : k = 14 := by omega
      have hk1 := hkn wr hS
      clear hc hkn
      go_wp2_with (go_at_call 5; refine hk1.mono ?_; rintro e w2 ⟨rfl, hs2⟩)
      go_ret
      exact ⟨rfl, hS.trans hs2⟩
end Go.Proofs.YtbnlhddgpkfllabDoor
