/- The document's Ahead; among. -/
import Derived.Test.YtbbgembkdhcidaaFX
namespace Go.Proofs.Ytbbgembkdhcidaa
open Go.RowKit Go.Maps

/-- What Ahead answers. -/
def aheadZ : List ByteArray → List ByteArray → Int
  | x :: xs, y :: ys => if cmpT x y = 0 then aheadZ xs ys else cmpT x y
  | xs, ys => (xs.length : Int) - (ys.length : Int)
theorem ahead_step {xs ys : List ByteArray} {k : Nat} (h1 : k < xs.length) (h2 : k < ys.length) :
    aheadZ (xs.drop k) (ys.drop k) = if cmpT xs[k] ys[k] = 0 then aheadZ (xs.drop (k + 1)) (ys.drop (k + 1)) else cmpT xs[k] ys[k] := by
  rw [List.drop_eq_getElem_cons h1, List.drop_eq_getElem_cons h2]
  simp only [aheadZ]
theorem ahead_end {xs ys : List ByteArray} {k : Nat} (h : xs.length ≤ k ∨ ys.length ≤ k) (h1 : k ≤ xs.length) (h2 : k ≤ ys.length) : aheadZ (xs.drop k) (ys.drop k) = (xs.length : Int) - (ys.length : Int) := by
  rcases h with h | h
  · rw [List.drop_eq_nil_of_le h]
    show ((0 : Nat) : Int) - ((ys.drop k).length : Int) = _
    rw [List.length_drop]; omega
  · rw [List.drop_eq_nil_of_le h]
    have : ∀ l : List ByteArray, aheadZ l [] = (l.length : Int) := fun l => by cases l <;> simp [aheadZ]
    rw [this, List.length_drop]; omega
theorem ahead_cmp : ∀ xs ys : List ByteArray, (aheadZ xs ys < 0 ↔ cmpS xs ys < 0) ∧ (aheadZ xs ys = 0 ↔ cmpS xs ys = 0)
  | [], [] => by simp [aheadZ, cmpS]
  | [], y :: ys => by simp [aheadZ, cmpS]; omega
  | x :: xs, [] => by simp [aheadZ, cmpS]; omega
  | x :: xs, y :: ys => by
    simp only [aheadZ, cmpS]
    split
    · exact ahead_cmp xs ys
    · exact ⟨Iff.rfl, Iff.rfl⟩

set_option maxRecDepth 100000 in
set_option maxHeartbeats 2000000 in
theorem ahead_any (w : World) (a1 a2 : Option Addr) (b1 o1 b2 o2 c1 c2 : Nat) (xs ys : List ByteArray) (hx : StrsS w a1 b1 o1 xs) (hy : StrsS w a2 b2 o2 ys) (hlx : xs.length ≤ maxLen) (hly : ys.length ≤ maxLen) :
    Calls Try.prog 41 #[.slice a1 xs.length c1, .slice a2 ys.length c2] w fun e w' => e = .returned (.int .i64 (aheadZ xs ys)) ∧ ∃ q, w' = w.drewN q := by
  unfold maxLen at hlx hly
  obtain ⟨n, hn⟩ : ∃ n, n = xs.length := ⟨_, rfl⟩
  obtain ⟨m, hm⟩ : ∃ m, m = ys.length := ⟨_, rfl⟩
  obtain ⟨R, hR⟩ : ∃ R, R = aheadZ xs ys := ⟨_, rfl⟩
  have HX : Hid (StrsS w a1 b1 o1 xs ∧ StrsS w a2 b2 o2 ys ∧ n = xs.length ∧ m = ys.length ∧ R = aheadZ xs ys) := ⟨hx, hy, hn, hm, hR⟩
  rw [← hn, ← hm, ← hR]
  rw [← hn] at hlx
  rw [← hm] at hly
  clear hx hy hn hm hR
  go_enter Try.func41, Try.ntmps41
  go_wp2
  go_loopw [5] (fun i wr => ∃ k : Nat, k ≤ n ∧ k ≤ m ∧ i = .int .i64 (k : Int) ∧ R = aheadZ (xs.drop k) (ys.drop k) ∧ ∃ q, wr = w.drewN q) (fun i _ => n - (intOf i).toNat)
  case atStart => exact ⟨0, Nat.zero_le _, Nat.zero_le _, rfl, HX.out.2.2.2.2, 0, rfl⟩
  case round =>
    obtain ⟨k, hk, hk2, rfl, hu, hdr⟩ := hrel
    have HD : Hid (∃ d, wr = w.drewN d) := hdr
    have hsw : Stay w wr := by obtain ⟨d, rfl⟩ := hdr; exact Stay.drewN _ _
    clear hdr
    by_cases hlt : k < n ∧ k < m
    · obtain ⟨l1, l2⟩ := hlt
      have h1 : k < xs.length := by rw [← HX.out.2.2.1]; exact l1
      have h2 : k < ys.length := by rw [← HX.out.2.2.2.1]; exact l2
      obtain rfl := HX.out.1.1 (by omega)
      obtain rfl := HX.out.2.1.1 (by omega)
      have hc1 := (HX.out.1.stay hsw).2 k h1
      have hc2 := (HX.out.2.1.stay hsw).2 k h2
      have hi1 : (k : Int) < (n : Int) := by omega
      have hi2 : (k : Int) < (m : Int) := by omega
      rw [ahead_step h1 h2] at hu
      have q1 := less_bytes xs[k] ys[k]
      have q2 := less_bytes ys[k] xs[k]
      rw [cmpT_swap xs[k] ys[k]] at q2
      have h3 := cmpT_three xs[k] ys[k]
      have h4 : (xs[k].toList == ys[k].toList) = decide (cmpT xs[k] ys[k] = 0) := by
        rw [tl_eq]
        by_cases e : xs[k] = ys[k]
        · rw [e, cmpT_self]; simp
        · rw [decide_eq_false e, decide_eq_false (fun h => e (cmpT_eq h))]
      generalize cmpT xs[k] ys[k] = C at *
      generalize xs[k] = x at *
      generalize ys[k] = y at *
      rcases h3 with rfl | rfl | rfl
      · have HU : Hid (R = -1) := hu
        rw [show decide ((-1 : Int) < 0) = true from rfl] at q1
        clear hu q2 h4
        go_wp2_with fail
        go_quiet (fail)
        go_wp2
        go_ret
        exact ⟨by rw [HU.out]; rfl, drew_on HD.out nq⟩
      · have HU : Hid (R = aheadZ (xs.drop (k + 1)) (ys.drop (k + 1))) := hu
        rw [show decide ((0 : Int) < 0) = false from rfl] at q1
        rw [show decide (-(0 : Int) < 0) = false from rfl] at q2
        rw [show decide ((0 : Int) = 0) = true from rfl] at h4
        clear hu
        go_wp2_with fail
        go_quiet (fail)
        go_wp2_with fail
        have HD2 : Hid (∃ d, wr.drewN nq = w.drewN d) := drew_on HD.out nq
        have hc3 : (wr.drewN nq).cell? _ = _ := hc1
        have hc4 : (wr.drewN nq).cell? _ = _ := hc2
        generalize wr.drewN nq = wr2 at *
        go_quiet (fail)
        go_wp2
        exact ⟨⟨k + 1, by omega, by omega, by first | rfl | go_num | simp, HU.out, drew_on HD2.out nq⟩, by simp [intOf]; omega⟩
      · have HU : Hid (R = 1) := hu
        rw [show decide ((1 : Int) < 0) = false from rfl] at q1
        rw [show decide (-(1 : Int) < 0) = true from rfl] at q2
        rw [show decide ((1 : Int) = 0) = false from rfl] at h4
        clear hu
        go_wp2_with fail
        go_quiet (fail)
        go_wp2_with fail
        have HD2 : Hid (∃ d, wr.drewN nq = w.drewN d) := drew_on HD.out nq
        have hc3 : (wr.drewN nq).cell? _ = _ := hc1
        have hc4 : (wr.drewN nq).cell? _ = _ := hc2
        generalize wr.drewN nq = wr2 at *
        go_quiet (fail)
        go_wp2
        go_ret
        exact ⟨by rw [HU.out]; rfl, drew_on HD2.out nq⟩
    · rw [ahead_end (by rw [← HX.out.2.2.1, ← HX.out.2.2.2.1]; omega) (by rw [← HX.out.2.2.1]; exact hk) (by rw [← HX.out.2.2.2.1]; exact hk2), ← HX.out.2.2.1, ← HX.out.2.2.2.1] at hu
      have HU : Hid (R = (n : Int) - (m : Int)) := hu
      clear hu
      by_cases hl1 : k < n
      · have hi1 : (k : Int) < (n : Int) := by omega
        have hi2 : ¬ (k : Int) < (m : Int) := by omega
        clear hlt
        go_wp2
        go_ret
        exact ⟨by rw [HU.out]; rfl, HD.out⟩
      · have hi1 : ¬ (k : Int) < (n : Int) := by omega
        clear hlt
        go_wp2
        go_ret
        exact ⟨by rw [HU.out]; rfl, HD.out⟩
end Go.Proofs.Ytbbgembkdhcidaa
