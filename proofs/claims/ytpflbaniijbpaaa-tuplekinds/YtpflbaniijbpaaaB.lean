/- Compare, Ints, num: what each answers. -/
import Derived.Test.YtpflbaniijbpaaaA
namespace Go.Proofs.Ytpflbaniijbpaaa
open Go.RowKit Go.Maps

theorem isNaN_any (x : Int) (w : World) : Calls Try.prog 48 #[.int .i64 x] w fun e w' => e = .returned (.bool false) ∧ w' = w := by
  go_enter Try.func48, Try.ntmps48
  go_wp2
  go_ret
  exact ⟨by simp, rfl⟩

theorem cmp_any (x y : Int) (w : World) : Calls Try.prog 47 #[.int .i64 x, .int .i64 y] w fun e w' => e = .returned (.int .i64 (cmp1 x y)) ∧ w' = w := by
  have h1 := isNaN_any
  go_enter Try.func47, Try.ntmps47
  go_wp2_with (go_at_call 48; refine Calls.mono (h1 _ _) ?_; rintro e w' ⟨rfl, rfl⟩)
  · go_ret
    exact ⟨by simp_all [cmp1], rfl⟩
  · go_ret
    exact ⟨by simp_all [cmp1] <;> omega, rfl⟩
  · go_ret
    exact ⟨by simp_all [cmp1] <;> omega, rfl⟩

theorem num_any (e : Int) (w : World) : Calls Try.prog 28 #[.int .i64 e] w fun r w' => r = .returned (.int .i64 e) ∧ w' = w := by
  go_enter Try.func28, Try.ntmps28
  go_wp2
  go_ret
  exact ⟨rfl, rfl⟩

set_option maxRecDepth 100000 in
set_option maxHeartbeats 1000000 in
theorem slCompare_any (w : World) (a1 a2 : Option Addr) (b1 o1 b2 o2 c1 c2 : Nat) (xs ys : List Int) (hx : IntsS w a1 b1 o1 xs) (hy : IntsS w a2 b2 o2 ys) (hlx : xs.length ≤ maxLen) (hly : ys.length ≤ maxLen) :
    Calls Try.prog 39 #[.slice a1 xs.length c1, .slice a2 ys.length c2] w fun e w' => e = .returned (.int .i64 (cmpL xs ys)) ∧ w' = w := by
  unfold maxLen at hlx hly
  have HC := cmp_any
  have HX : Hid (IntsS w a1 b1 o1 xs ∧ IntsS w a2 b2 o2 ys) := ⟨hx, hy⟩
  clear hx hy
  go_enter Try.func39, Try.ntmps39
  go_wp2
  go_loopw [11] (fun i wr => ∃ k : Nat, k ≤ xs.length ∧ k ≤ ys.length ∧ i = .int .i64 k ∧ cmpL xs ys = cmpL (xs.drop k) (ys.drop k) ∧ wr = w) (fun i _ => xs.length - (intOf i).toNat)
  case atStart => exact ⟨0, Nat.zero_le _, Nat.zero_le _, rfl, by simp, rfl⟩
  case round =>
    obtain ⟨k, hk, hk2, rfl, htk, rfl⟩ := hrel
    by_cases hlt : k < xs.length
    · obtain rfl := HX.out.1.1 (by omega)
      have hc1 := HX.out.1.2 k hlt
      have hi1 : (k : Int) < (xs.length : Int) := by omega
      by_cases hlt2 : k < ys.length
      · obtain rfl := HX.out.2.1 (by omega)
        have hc2 := HX.out.2.2 k hlt2
        have hi2 : (k : Int) < (ys.length : Int) := by omega
        have HS : Hid (cmpL xs ys = if cmp1 xs[k] ys[k] = 0 then cmpL (xs.drop (k + 1)) (ys.drop (k + 1)) else cmp1 xs[k] ys[k]) := htk.trans (cmpL_step hlt hlt2)
        generalize xs[k] = x at hc1 HS
        generalize ys[k] = y at hc2 HS
        clear htk
        go_wp2_with (go_at_call 47; refine Calls.mono (HC _ _ _) ?_; rintro e w' ⟨rfl, rfl⟩)
        · go_ret
          have h : (cmp1 x y != 0) = true := by assumption
          exact ⟨by rw [HS.out, if_neg (by simpa using h)]; rfl, rfl⟩
        · have h : (cmp1 x y != 0) = false := by assumption
          go_roundw
          case rel => exact ⟨k + 1, by omega, by omega, by go_num, by rw [HS.out, if_pos (by simpa using h)], by first | rfl | trivial⟩
          case measure => simp [intOf]; omega
      · have hi2 : ¬ ((k : Int) < (ys.length : Int)) := by omega
        have HS : Hid (cmpL xs ys = 1) := htk.trans (cmpL_left hlt (by omega))
        have hge : (ys.length : Int) ≤ (k : Int) := by omega
        clear htk
        go_wp2
        go_ret
        exact ⟨by rw [HS.out]; rfl, rfl⟩
    · have HS : Hid (cmpL xs ys = if k < ys.length then -1 else 0) := htk.trans (cmpL_end (by omega) hk2)
      clear htk
      by_cases hlt2 : xs.length < ys.length
      · go_wp2
        go_ret
        exact ⟨by rw [HS.out, if_pos (by omega)]; rfl, rfl⟩
      · go_wp2
        go_ret
        exact ⟨by rw [HS.out, if_neg (by omega)]; rfl, rfl⟩

theorem compare_any (w : World) (a1 a2 : Option Addr) (b1 o1 b2 o2 c1 c2 : Nat) (xs ys : List Int) (hx : IntsS w a1 b1 o1 xs) (hy : IntsS w a2 b2 o2 ys) (hlx : xs.length ≤ maxLen) (hly : ys.length ≤ maxLen) :
    Calls Try.prog 30 #[.slice a1 xs.length c1, .slice a2 ys.length c2] w fun e w' => e = .returned (.int .i64 (cmpL xs ys)) ∧ w' = w := by
  have h := slCompare_any w a1 a2 b1 o1 b2 o2 c1 c2 xs ys hx hy hlx hly
  clear hx hy
  go_enter Try.func30, Try.ntmps30
  go_wp2_with (go_at_call 39; refine Calls.mono h ?_; rintro e w' ⟨rfl, rfl⟩)
  go_ret
  exact ⟨rfl, rfl⟩

set_option maxRecDepth 100000 in
set_option maxHeartbeats 1000000 in
theorem ints_any (w : World) (a1 a2 : Option Addr) (b1 o1 b2 o2 c1 c2 : Nat) (xs ys : List Int) (hx : IntsS w a1 b1 o1 xs) (hy : IntsS w a2 b2 o2 ys) (hlx : xs.length ≤ maxLen) (hly : ys.length ≤ maxLen) :
    Calls Try.prog 10 #[.slice a1 xs.length c1, .slice a2 ys.length c2] w fun e w' => e = .returned (.bool (decide (xs = ys))) ∧ ∃ n, w' = w.drewN n := by
  unfold maxLen at hlx hly
  by_cases hl : xs.length = ys.length
  · have hne : ((xs.length : Int) != (ys.length : Int)) = false := by simp [hl]
    have HX : Hid (IntsS w a1 b1 o1 xs ∧ IntsS w a2 b2 o2 ys) := ⟨hx, hy⟩
    have HL : Hid (xs.length = ys.length) := hl
    clear hx hy hl
    go_enter Try.func10, Try.ntmps10
    go_wp2
    go_loopw [5] (fun i wr => ∃ k : Nat, k ≤ xs.length ∧ i = .int .i64 k ∧ xs.take k = ys.take k ∧ ∃ n, wr = w.drewN n) (fun i _ => xs.length - (intOf i).toNat)
    case atStart => exact ⟨0, Nat.zero_le _, rfl, by simp, 0, rfl⟩
    case round =>
      obtain ⟨k, hk, rfl, htk, n, rfl⟩ := hrel
      by_cases hlt : k < xs.length
      · have hl := HL.out
        have hlt2 : k < ys.length := by omega
        obtain rfl := HX.out.1.1 (by omega)
        obtain rfl := HX.out.2.1 (by omega)
        have hc1 := HX.out.1.2 k hlt
        have hc2 := HX.out.2.2 k hlt2
        have hi1 : (k : Int) < (xs.length : Int) := by omega
        have hi2 : (k : Int) < (ys.length : Int) := by omega
        have HT : Hid (∀ z, z = decide (xs[k] = ys[k]) → z = true → xs.take (k + 1) = ys.take (k + 1)) := by
          rintro z rfl h2
          rw [List.take_succ_eq_append_getElem hlt, List.take_succ_eq_append_getElem hlt2, htk, of_decide_eq_true h2]
        have HF : Hid (xs[k] ≠ ys[k] → decide (xs = ys) = false) := fun h => by
          rw [decide_eq_false_iff_not]; rintro rfl; exact h rfl
        generalize xs[k] = x at hc1 HT HF
        generalize ys[k] = y at hc2 HT HF
        clear hl htk
        go_wp2
        go_quiet (fail)
        go_wp2
        · have hxy : (x != y) = true := by assumption
          go_ret
          exact ⟨by rw [HF.out (by simpa using hxy)]; rfl, _, World.drewN_drewN _ _ _⟩
        · have hxy : (x != y) = false := by assumption
          go_roundw
          case rel => exact ⟨k + 1, by omega, by go_num, HT.out _ rfl (by simpa using hxy), _, rfl⟩
          case measure => simp [intOf]; omega
      · go_wp2
        go_ret
        have hl := HL.out
        rw [List.take_of_length_le (by omega), List.take_of_length_le (by omega)] at htk
        exact ⟨by simp [htk], n, rfl⟩
  · have hne : ((xs.length : Int) != (ys.length : Int)) = true := by simp; omega
    have hd : decide (xs = ys) = false := by rw [decide_eq_false_iff_not]; rintro rfl; exact hl rfl
    have HD : Hid (decide (xs = ys) = false) := hd
    clear hx hy hd hl
    go_enter Try.func10, Try.ntmps10
    go_wp2
    go_ret
    exact ⟨by rw [HD.out]; rfl, 0, rfl⟩
end Go.Proofs.Ytpflbaniijbpaaa
