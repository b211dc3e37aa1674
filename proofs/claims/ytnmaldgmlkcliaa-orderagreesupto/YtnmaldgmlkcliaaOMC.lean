/- What Merge's order of heads tells: the heads' first things, then the lists' numbers. -/
import Derived.Test.YtnmaldgmlkcliaaRC
import Derived.Test.YtnmaldgmlkcliaaA
namespace Go.Proofs.Ytnmaldgmlkcliaa
open Go.RowKit Go.Maps

theorem misNaN_any (x : Int) (w : World) : Calls Try.prog 40 #[.int .i64 x] w fun e w' => e = .returned (.bool false) ∧ w' = w := by
  go_enter Try.func40, Try.ntmps40
  go_wp2
  go_ret
  exact ⟨by simp, rfl⟩
theorem mcmp_any (x y : Int) (w : World) : Calls Try.prog 25 #[.int .i64 x, .int .i64 y] w fun e w' => e = .returned (.int .i64 (cmp1 x y)) ∧ w' = w := by
  have h1 := misNaN_any
  go_enter Try.func25, Try.ntmps25
  go_wp2_with (go_at_call 40; refine Calls.mono (h1 _ _) ?_; rintro e w' ⟨rfl, rfl⟩)
  · go_ret
    exact ⟨by simp_all [cmp1], rfl⟩
  · go_ret
    exact ⟨by simp_all [cmp1] <;> omega, rfl⟩
  · go_ret
    exact ⟨by simp_all [cmp1] <;> omega, rfl⟩
/-- The first of two numbers that is not 0. -/
def or2 (x y : Int) : Int := if x = 0 then y else x
theorem mor_any (x y : Int) (b : Nat) (w : World) (h0 : w.cell? ⟨b, 0, none⟩ = some (.int .i64 x)) (h1 : w.cell? ⟨b, 1, none⟩ = some (.int .i64 y)) :
    Calls Try.prog 24 #[.slice (some ⟨b, 0, none⟩) 2 2] w fun e w' => e = .returned (.int .i64 (or2 x y)) ∧ w' = w := by
  go_enter Try.func24, Try.ntmps24
  go_wp2
  go_loopw [8] (fun i wr => ∃ k : Nat, k ≤ 2 ∧ i = .int .i64 k ∧ (0 < k → x = 0) ∧ (1 < k → y = 0) ∧ wr = w) (fun i _ => 2 - (intOf i).toNat)
  case atStart => exact ⟨0, by omega, rfl, by omega, by omega, rfl⟩
  case round =>
    obtain ⟨k, hk, rfl, hx, hy, rfl⟩ := hrel
    match k, hk with
    | 0, _ =>
      clear hx hy
      by_cases hz : x = 0
      · subst hz
        go_wp2
        go_roundw
        case rel => exact ⟨1, by omega, by go_num, by simp, by omega, by simp⟩
        case measure => simp [intOf]
      · have hzb : (x != 0) = true := by simpa using hz
        go_wp2
        go_ret
        exact ⟨by simp [or2, hz], rfl⟩
    | 1, _ =>
      have hx0 := hx (by omega)
      clear hx hy
      by_cases hz : y = 0
      · subst hz
        go_wp2
        go_roundw
        case rel => exact ⟨2, by omega, by go_num, fun _ => hx0, by simp, by simp⟩
        case measure => simp [intOf]
      · have hzb : (y != 0) = true := by simpa using hz
        go_wp2
        go_ret
        exact ⟨by simp [or2, hx0], rfl⟩
    | 2, _ =>
      have hx0 := hx (by omega)
      have hy0 := hy (by omega)
      clear hx hy
      go_wp2
      go_ret
      exact ⟨by simp [or2, hx0, hy0], rfl⟩
end Go.Proofs.Ytnmaldgmlkcliaa
