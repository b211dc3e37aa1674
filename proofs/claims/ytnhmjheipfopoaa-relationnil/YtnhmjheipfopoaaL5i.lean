/- takes. -/
import Derived.Test.YtnhmjheipfopoaaL5h
namespace Go.Proofs.Ytnhmjheipfopoaa.L
open Go.RowKit Go.Maps Go.Shelf Go.Proofs.Ytnhmjheipfopoaa

/-- The first that is below nought, from k on; -1 if there is none. -/
def fneg : List Int → Nat → Int
  | [], _ => -1
  | x :: xs, k => if x < 0 then k else fneg xs (k + 1)
theorem fneg_step {xs : List Int} {k : Nat} (h : k < xs.length) : fneg (xs.drop k) k = if xs[k] < 0 then (k : Int) else fneg (xs.drop (k + 1)) (k + 1) := by
  rw [List.drop_eq_getElem_cons h]; rfl
theorem fneg_ge : ∀ (xs : List Int) (k : Nat), (0 ≤ fneg xs k) ↔ ∃ x ∈ xs, x < 0
  | [], k => by simp [fneg]
  | x :: xs, k => by
    rw [fneg]
    by_cases h : x < 0
    · simp [h]
    · simp [h, fneg_ge xs (k + 1)]

set_option maxRecDepth 100000 in
set_option maxHeartbeats 1000000 in
theorem indexNeg_any (w : World) (a1 : Option Addr) (b1 o1 c1 : Nat) (xs : List Int) (hx : IntsS w a1 b1 o1 xs) (hlx : xs.length ≤ maxLen) :
    Calls Try.prog 72 #[.slice a1 xs.length c1, .func (.func 58) #[] #[]] w fun e w' => e = .returned (.int .i64 (fneg xs 0)) ∧ w' = w := by
  unfold maxLen at hlx
  have HX : Hid (IntsS w a1 b1 o1 xs) := hx
  clear hx
  go_enter Try.func72, Try.ntmps72
  go_wp2
  go_loopw [8] (fun i wr => ∃ k : Nat, k ≤ xs.length ∧ i = .int .i64 k ∧ fneg (xs.drop k) k = fneg xs 0 ∧ wr = w) (fun i _ => xs.length - (intOf i).toNat)
  case atStart => exact ⟨0, Nat.zero_le _, rfl, rfl, rfl⟩
  case round =>
    obtain ⟨k, hk, rfl, hh, hw⟩ := hrel
    have hw' := hw.symm; subst hw'
    by_cases hlt : k < xs.length
    · obtain rfl := HX.out.1 (by omega)
      have hc1 := HX.out.2 k hlt
      have hi1 : (k : Int) < (xs.length : Int) := by omega
      rw [fneg_step hlt] at hh
      have hn := neg_any xs[k] w
      by_cases hneg : xs[k] < 0
      · rw [if_pos hneg] at hh
        have hb : decide (xs[k] < 0) = true := by simpa using hneg
        rw [hb] at hn
        have HH : Hid (fneg xs 0 = (k : Int)) := hh.symm
        clear hh hneg hb
        generalize xs[k] = x at hc1 hn
        go_wp2_with (go_at_call 58; refine hn.mono ?_; rintro e w9 ⟨rfl, hw⟩; have hw' := hw.symm; subst hw')
        go_ret
        exact ⟨by rw [HH.out]; rfl, rfl⟩
      · rw [if_neg hneg] at hh
        have hb : decide (xs[k] < 0) = false := by simpa using hneg
        rw [hb] at hn
        have HH : Hid (fneg (xs.drop (k + 1)) (k + 1) = fneg xs 0) := hh
        clear hh hneg hb
        generalize xs[k] = x at hc1 hn
        go_wp2_with (go_at_call 58; refine hn.mono ?_; rintro e w9 ⟨rfl, hw⟩; have hw' := hw.symm; subst hw')
        go_roundw
        case rel => exact ⟨k + 1, by omega, by go_num, HH.out, trivial⟩
        case measure => simp [intOf]; omega
    · obtain rfl : k = xs.length := by omega
      rw [List.drop_length] at hh
      have HH : Hid (fneg xs 0 = -1) := hh.symm
      clear hh
      go_wp2
      go_ret
      exact ⟨by rw [HH.out]; rfl, rfl⟩

theorem contains_any (w : World) (a1 : Option Addr) (b1 o1 c1 : Nat) (xs : List Int) (hx : IntsS w a1 b1 o1 xs) (hlx : xs.length ≤ maxLen) :
    Calls Try.prog 57 #[.slice a1 xs.length c1, .func (.func 58) #[] #[]] w fun e w' => e = .returned (.bool (decide (∃ x ∈ xs, x < 0))) ∧ w' = w := by
  have h := indexNeg_any w a1 b1 o1 c1 xs hx hlx
  have hg := fneg_ge xs 0
  generalize fneg xs 0 = r at h hg
  have HG : Hid (decide (0 ≤ r) = decide (∃ x ∈ xs, x < 0)) := decide_eq_decide.2 hg
  clear hx hg
  go_enter Try.func57, Try.ntmps57
  go_wp2_with (go_at_call 72; refine h.mono ?_; rintro e w9 ⟨rfl, hw⟩; have hw' := hw.symm; subst hw')
  go_ret
  exact ⟨by rw [← HG.out]; rfl, rfl⟩

section
variable {W W' : World} {rb ar n : Nat} {vv : Value} {mb : Nat}
/-- takes: a tuple of the relation's arity, of numbers from nought on. -/
def okT (ar : Nat) (t : List Int) : Bool := t.length == ar && !decide (∃ x ∈ t, x < 0)

set_option maxRecDepth 100000 in
theorem takes_any (h : RBox W rb ar n vv mb) (a : Option Addr) (b o cap : Nat) (t : List Int) (hI : IntsS W a b o t) (hl : t.length ≤ maxLen) :
    Calls Try.prog 41 #[.pointer (some ⟨rb, 0, none⟩), .slice a t.length cap] W fun e w' => e = .returned (.bool (okT ar t)) ∧ w' = W := by
  have hc := contains_any W a b o cap t hI hl
  have c0 := h.c0
  unfold okT
  generalize decide (∃ x ∈ t, x < 0) = d at hc ⊢
  clear h hI
  unfold maxLen at hl
  by_cases he : t.length = ar
  · have h1 : ((t.length : Int) == (ar : Int)) = true := by simp [he]
    have h2 : (t.length == ar) = true := by simp [he]
    rw [h2]
    clear he h2
    go_enter Try.func41, Try.ntmps41
    go_wp2_with (go_at_call 57; refine hc.mono ?_; rintro e w9 ⟨rfl, hw⟩; have hw' := hw.symm; subst hw')
    go_ret
    exact ⟨by simp, rfl⟩
  · have h1 : ((t.length : Int) == (ar : Int)) = false := by simp; omega
    have h2 : (t.length == ar) = false := by simp [he]
    rw [h2]
    clear he h2 hc
    go_enter Try.func41, Try.ntmps41
    go_wp2
    go_ret
    exact ⟨by simp, rfl⟩
end
end Go.Proofs.Ytnhmjheipfopoaa.L
