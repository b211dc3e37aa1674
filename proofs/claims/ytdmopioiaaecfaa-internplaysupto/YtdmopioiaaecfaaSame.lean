/- SameInts, num: small helpers of the statements. -/
import Derived.Test.YtdmopioiaaecfaaWalksC
import Derived.Deep.QuietTactic
import Derived.BigQuiet
namespace Go.Proofs.Ytdmopioiaaecfaa
open Go.RowKit Go.Maps

/-- The slice value with the address a and the length of zs holds the numbers zs. -/
def IntsS (w : World) (a : Option Addr) (b off : Nat) (zs : List Int) : Prop :=
  (0 < zs.length → a = some ⟨b, off, none⟩) ∧ ∀ j (h : j < zs.length), w.cell? ⟨b, off + j, none⟩ = some (.int .i64 zs[j])

theorem IntsAt.s {w : World} {b c : Nat} {zs : List Int} (h : IntsAt w b c zs) : IntsS w (some ⟨b, 0, none⟩) b 0 zs :=
  ⟨fun _ => rfl, fun j hj => by rw [Nat.zero_add]; exact h.cell j hj⟩

theorem num_any (e : Int) (w : World) : Calls Try.prog 24 #[.int .i64 e] w fun r w' => r = .returned (.int .i64 e) ∧ w' = w := by
  go_enter Try.func24, Try.ntmps24
  go_wp2
  go_ret
  exact ⟨rfl, rfl⟩

set_option maxRecDepth 100000 in
set_option maxHeartbeats 1000000 in
theorem sameInts_any (w : World) (a1 a2 : Option Addr) (b1 o1 b2 o2 c1 c2 : Nat) (xs ys : List Int) (hx : IntsS w a1 b1 o1 xs) (hy : IntsS w a2 b2 o2 ys) (hlx : xs.length ≤ maxLen) (hly : ys.length ≤ maxLen) :
    Calls Try.prog 42 #[.slice a1 xs.length c1, .slice a2 ys.length c2] w fun e w' => e = .returned (.bool (decide (xs = ys))) ∧ ∃ n, w' = w.drewN n := by
  unfold maxLen at hlx hly
  by_cases hl : xs.length = ys.length
  · have hne : ((xs.length : Int) != (ys.length : Int)) = false := by simp [hl]
    have HX : Hid (IntsS w a1 b1 o1 xs ∧ IntsS w a2 b2 o2 ys) := ⟨hx, hy⟩
    have HL : Hid (xs.length = ys.length) := hl
    clear hx hy hl
    go_enter Try.func42, Try.ntmps42
    go_wp2
    go_loopw [5] (fun i wr => ∃ k : Nat, k ≤ xs.length ∧ i = .int .i64 k ∧ xs.take k = ys.take k ∧ ∃ n, wr = w.drewN n) (fun i _ => xs.length - (intOf i).toNat)
    case atStart => exact ⟨0, Nat.zero_le _, rfl, by simp, 0, rfl⟩
    case round =>
      obtain ⟨k, hk, rfl, htk, n, rfl⟩ := hrel
      by_cases hlt : k < xs.length
      · have hl := HL.out
        have hlt2 : k < ys.length := by omega
        obtain rfl := HX.out.1.1 (by omega)
        obtain rfl := HX.out.2.1 (by omega)
        have hc1 := HX.out.1.2 k hlt
        have hc2 := HX.out.2.2 k hlt2
        have hi1 : (k : Int) < (xs.length : Int) := by omega
        have hi2 : (k : Int) < (ys.length : Int) := by omega
        have HT : Hid (∀ z, z = decide (xs[k] = ys[k]) → z = true → xs.take (k + 1) = ys.take (k + 1)) := by
          rintro z rfl h2
          rw [List.take_succ_eq_append_getElem hlt, List.take_succ_eq_append_getElem hlt2, htk, of_decide_eq_true h2]
        have HF : Hid (xs[k] ≠ ys[k] → decide (xs = ys) = false) := fun h => by
          rw [decide_eq_false_iff_not]; rintro rfl; exact h rfl
        generalize xs[k] = x at hc1 HT HF
        generalize ys[k] = y at hc2 HT HF
        clear hl htk
        go_wp2
        go_quiet (fail)
        go_wp2
        · have hxy : (x != y) = true := by assumption
          go_ret
          exact ⟨by rw [HF.out (by simpa using hxy)]; rfl, _, World.drewN_drewN _ _ _⟩
        · have hxy : (x != y) = false := by assumption
          go_roundw
          case rel => exact ⟨k + 1, by omega, by go_num, HT.out _ rfl (by simpa using hxy), _, rfl⟩
          case measure => simp [intOf]; omega
      · go_wp2
        go_ret
        have hl := HL.out
        rw [List.take_of_length_le (by omega), List.take_of_length_le (by omega)] at htk
        exact ⟨by simp [htk], n, rfl⟩
  · have hne : ((xs.length : Int) != (ys.length : Int)) = true := by simp; omega
    have hd : decide (xs = ys) = false := by rw [decide_eq_false_iff_not]; rintro rfl; exact hl rfl
    have HD : Hid (decide (xs = ys) = false) := hd
    clear hx hy hd hl
    go_enter Try.func42, Try.ntmps42
    go_wp2
    go_ret
    exact ⟨by rw [HD.out]; rfl, 0, rfl⟩
end Go.Proofs.Ytdmopioiaaecfaa
