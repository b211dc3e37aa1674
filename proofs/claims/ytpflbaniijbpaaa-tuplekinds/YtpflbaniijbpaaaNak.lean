/- inklingref02.Compare. -/
import Derived.Test.YtpflbaniijbpaaaJ
import Derived.Laws.Bits64b
namespace Go.Proofs.Ytpflbaniijbpaaa
open Go.RowKit Go.Maps

theorem drew3 (w : World) (a b c : Nat) : ∃ n, ((w.drewN a).drewN b).drewN c = w.drewN n := ⟨a + (b + c), by rw [World.drewN_drewN, World.drewN_drewN]⟩

theorem cmpL_out {xs ys : List Int} {k : Nat} (hk : k ≤ xs.length) (hk2 : k ≤ ys.length) (h : ¬ (k < xs.length ∧ k < ys.length)) : cmpL (xs.drop k) (ys.drop k) = if xs.length < ys.length then -1 else if ys.length < xs.length then 1 else 0 := by
  by_cases h1 : k < xs.length
  · rw [cmpL_left h1 (by omega), if_neg (by omega), if_pos (by omega)]
  · rw [cmpL_end (by omega) hk2]
    by_cases h2 : k < ys.length
    · rw [if_pos h2, if_pos (by omega)]
    · rw [if_neg h2, if_neg (by omega), if_neg (by omega)]

set_option maxRecDepth 100000 in
set_option maxHeartbeats 1000000 in
theorem rcompare_any (w : World) (a1 a2 : Option Addr) (b1 o1 b2 o2 c1 c2 : Nat) (xs ys : List Int) (hx : IntsS w a1 b1 o1 xs) (hy : IntsS w a2 b2 o2 ys) (hlx : xs.length ≤ maxLen) (hly : ys.length ≤ maxLen) :
    Calls Try.prog 5 #[.slice a1 xs.length c1, .slice a2 ys.length c2] w fun e w' => e = .returned (.int .i64 (cmpL xs ys)) ∧ ∃ n, w' = w.drewN n := by
  unfold maxLen at hlx hly
  have HX : Hid (IntsS w a1 b1 o1 xs ∧ IntsS w a2 b2 o2 ys) := ⟨hx, hy⟩
  clear hx hy
  go_enter Try.func5, Try.ntmps5
  go_wp2
  go_loopw [5] (fun i wr => ∃ k : Nat, k ≤ xs.length ∧ k ≤ ys.length ∧ i = .int .i64 k ∧ cmpL xs ys = cmpL (xs.drop k) (ys.drop k) ∧ ∃ n, wr = w.drewN n) (fun i _ => xs.length - (intOf i).toNat)
  case atStart => exact ⟨0, Nat.zero_le _, Nat.zero_le _, rfl, by simp, 0, rfl⟩
  case round =>
    obtain ⟨k, hk, hk2, rfl, htk, n, rfl⟩ := hrel
    by_cases hlt : k < xs.length ∧ k < ys.length
    · obtain ⟨hl1, hl2⟩ := hlt
      obtain rfl := HX.out.1.1 (by omega)
      obtain rfl := HX.out.2.1 (by omega)
      have hc1 := HX.out.1.2 k hl1
      have hc2 := HX.out.2.2 k hl2
      have hi1 : (k : Int) < (xs.length : Int) := by omega
      have hi2 : (k : Int) < (ys.length : Int) := by omega
      have HS : Hid (cmpL xs ys = if cmp1 xs[k] ys[k] = 0 then cmpL (xs.drop (k + 1)) (ys.drop (k + 1)) else cmp1 xs[k] ys[k]) := htk.trans (cmpL_step hl1 hl2)
      generalize xs[k] = x at hc1 HS
      generalize ys[k] = y at hc2 HS
      clear htk
      by_cases h1 : x < y
      · have HN : Hid (cmpL xs ys = -1) := (by have := HS.out; simpa [cmp1, h1] using this : cmpL xs ys = -1)
        clear HS
        go_wp2
        go_quiet (fail)
        go_wp2
        go_ret
        exact ⟨by rw [HN.out]; rfl, _, World.drewN_drewN _ _ _⟩
      · by_cases h2 : y < x
        · have HN : Hid (cmpL xs ys = 1) := (by have := HS.out; simpa [cmp1, h1, h2] using this : cmpL xs ys = 1)
          clear HS
          go_wp2
          go_quiet (fail)
          go_wp2
          go_quiet (fail)
          go_wp2
          go_ret
          refine ⟨by rw [HN.out]; rfl, ?_⟩
          exact drew3 _ _ _ _
        · have HN : Hid (cmpL xs ys = cmpL (xs.drop (k + 1)) (ys.drop (k + 1))) := (by have := HS.out; simpa [cmp1, h1, h2] using this : cmpL xs ys = cmpL (xs.drop (k + 1)) (ys.drop (k + 1)))
          clear HS
          go_wp2
          go_quiet (fail)
          go_wp2
          go_quiet (fail)
          go_wp2
          go_roundw
          case rel => exact ⟨k + 1, by omega, by omega, by go_num, HN.out, ⟨_, rfl⟩⟩
          case measure => simp [intOf]; omega
    · have HS : Hid (cmpL xs ys = if xs.length < ys.length then -1 else if ys.length < xs.length then 1 else 0) := htk.trans (cmpL_out hk hk2 hlt)
      clear htk
      by_cases hl1 : k < xs.length
      · have hi1 : (k : Int) < (xs.length : Int) := by omega
        have hi2 : ¬ (k : Int) < (ys.length : Int) := by omega
        have hi3 : ¬ (xs.length : Int) < (ys.length : Int) := by omega
        have hi4 : (ys.length : Int) < (xs.length : Int) := by omega
        have HN : Hid (cmpL xs ys = 1) := by have := HS.out; rw [if_neg (by omega), if_pos (by omega)] at this; exact this
        clear HS
        go_wp2
        go_ret
        exact ⟨by rw [HN.out]; rfl, n, rfl⟩
      · have hi1 : ¬ (k : Int) < (xs.length : Int) := by omega
        by_cases hl2 : xs.length < ys.length
        · have hi3 : (xs.length : Int) < (ys.length : Int) := by omega
          have HN : Hid (cmpL xs ys = -1) := by have := HS.out; rw [if_pos (by omega)] at this; exact this
          clear HS
          go_wp2
          go_ret
          exact ⟨by rw [HN.out]; rfl, n, rfl⟩
        · have hi3 : ¬ (xs.length : Int) < (ys.length : Int) := by omega
          have hi4 : ¬ (ys.length : Int) < (xs.length : Int) := by omega
          have HN : Hid (cmpL xs ys = 0) := by have := HS.out; rw [if_neg (by omega), if_neg (by omega)] at this; exact this
          clear HS
          go_wp2
          go_ret
          exact ⟨by rw [HN.out]; rfl, n, rfl⟩

end Go.Proofs.Ytpflbaniijbpaaa
