/- Compare, Ints, num: what each answers. -/
import Derived.Test.YtnhmjheipfopoaaA
namespace Go.Proofs.Ytnhmjheipfopoaa
open Go.RowKit Go.Maps

theorem isNaN_any (x : Int) (w : World) : Calls Try.prog 87 #[.int .i64 x] w fun e w' => e = .returned (.bool false) ∧ w' = w := by
  go_enter Try.func87, Try.ntmps87
  go_wp2
  go_ret
  exact ⟨by simp, rfl⟩

theorem cmp_any (x y : Int) (w : World) : Calls Try.prog 97 #[.int .i64 x, .int .i64 y] w fun e w' => e = .returned (.int .i64 (cmp1 x y)) ∧ w' = w := by
  have h1 := isNaN_any
  go_enter Try.func97, Try.ntmps97
  go_wp2_with (go_at_call 87; refine Calls.mono (h1 _ _) ?_; rintro e w' ⟨rfl, rfl⟩)
  · go_ret
    exact ⟨by simp_all [cmp1], rfl⟩
  · go_ret
    exact ⟨by simp_all [cmp1] <;> omega, rfl⟩
  · go_ret
    exact ⟨by simp_all [cmp1] <;> omega, rfl⟩


set_option maxRecDepth 100000 in
set_option maxHeartbeats 1000000 in
theorem slCompare_any (w : World) (a1 a2 : Option Addr) (b1 o1 b2 o2 c1 c2 : Nat) (xs ys : List Int) (hx : IntsS w a1 b1 o1 xs) (hy : IntsS w a2 b2 o2 ys) (hlx : xs.length ≤ maxLen) (hly : ys.length ≤ maxLen) :
    Calls Try.prog 95 #[.slice a1 xs.length c1, .slice a2 ys.length c2] w fun e w' => e = .returned (.int .i64 (cmpL xs ys)) ∧ w' = w := by
  unfold maxLen at hlx hly
  have HC := cmp_any
  have HX : Hid (IntsS w a1 b1 o1 xs ∧ IntsS w a2 b2 o2 ys) := ⟨hx, hy⟩
  clear hx hy
  go_enter Try.func95, Try.ntmps95
  go_wp2
  go_loopw [11] (fun i wr => ∃ k : Nat, k ≤ xs.length ∧ k ≤ ys.length ∧ i = .int .i64 k ∧ cmpL xs ys = cmpL (xs.drop k) (ys.drop k) ∧ wr = w) (fun i _ => xs.length - (intOf i).toNat)
  case atStart => exact ⟨0, Nat.zero_le _, Nat.zero_le _, rfl, by simp, rfl⟩
  case round =>
    obtain ⟨k, hk, hk2, rfl, htk, rfl⟩ := hrel
    by_cases hlt : k < xs.length
    · obtain rfl := HX.out.1.1 (by omega)
      have hc1 := HX.out.1.2 k hlt
      have hi1 : (k : Int) < (xs.length : Int) := by omega
      by_cases hlt2 : k < ys.length
      · obtain rfl := HX.out.2.1 (by omega)
        have hc2 := HX.out.2.2 k hlt2
        have hi2 : (k : Int) < (ys.length : Int) := by omega
        have HS : Hid (cmpL xs ys = if cmp1 xs[k] ys[k] = 0 then cmpL (xs.drop (k + 1)) (ys.drop (k + 1)) else cmp1 xs[k] ys[k]) := htk.trans (cmpL_step hlt hlt2)
        generalize xs[k] = x at hc1 HS
        generalize ys[k] = y at hc2 HS
        clear htk
        go_wp2_with (go_at_call 97; refine Calls.mono (HC _ _ _) ?_; rintro e w' ⟨rfl, rfl⟩)
        · go_ret
          have h : (cmp1 x y != 0) = true := by assumption
          exact ⟨by rw [HS.out, if_neg (by simpa using h)]; rfl, rfl⟩
        · have h : (cmp1 x y != 0) = false := by assumption
          go_roundw
          case rel => exact ⟨k + 1, by omega, by omega, by go_num, by rw [HS.out, if_pos (by simpa using h)], by first | rfl | trivial⟩
          case measure => simp [intOf]; omega
      · have hi2 : ¬ ((k : Int) < (ys.length : Int)) := by omega
        have HS : Hid (cmpL xs ys = 1) := htk.trans (cmpL_left hlt (by omega))
        have hge : (ys.length : Int) ≤ (k : Int) := by omega
        clear htk
        go_wp2
        go_ret
        exact ⟨by rw [HS.out]; rfl, rfl⟩
    · have HS : Hid (cmpL xs ys = if k < ys.length then -1 else 0) := htk.trans (cmpL_end (by omega) hk2)
      clear htk
      by_cases hlt2 : xs.length < ys.length
      · go_wp2
        go_ret
        exact ⟨by rw [HS.out, if_pos (by omega)]; rfl, rfl⟩
      · go_wp2
        go_ret
        exact ⟨by rw [HS.out, if_neg (by omega)]; rfl, rfl⟩

theorem compare_any (w : World) (a1 a2 : Option Addr) (b1 o1 b2 o2 c1 c2 : Nat) (xs ys : List Int) (hx : IntsS w a1 b1 o1 xs) (hy : IntsS w a2 b2 o2 ys) (hlx : xs.length ≤ maxLen) (hly : ys.length ≤ maxLen) :
    Calls Try.prog 84 #[.slice a1 xs.length c1, .slice a2 ys.length c2] w fun e w' => e = .returned (.int .i64 (cmpL xs ys)) ∧ w' = w := by
  have h := slCompare_any w a1 a2 b1 o1 b2 o2 c1 c2 xs ys hx hy hlx hly
  clear hx hy
  go_enter Try.func84, Try.ntmps84
  go_wp2_with (go_at_call 95; refine Calls.mono h ?_; rintro e w' ⟨rfl, rfl⟩)
  go_ret
  exact ⟨rfl, rfl⟩

end Go.Proofs.Ytnhmjheipfopoaa
