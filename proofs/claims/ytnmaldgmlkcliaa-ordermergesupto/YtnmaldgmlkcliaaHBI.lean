/- Heaps: the function's order, ahead, Len, Peek. -/
import Derived.Test.YtnmaldgmlkcliaaHAI
import Derived.Shelf.SlSortCmp.QuietGrown
import Derived.BigRegion
namespace Go.Proofs.Ytnmaldgmlkcliaa.HI
open Go.RowKit Go.Maps Go.Shelf Go.Sort Go.Proofs.Ytnmaldgmlkcliaa

/-- Which of two entries comes first: by the order, then by the turns. -/
def ahd (cf : (Int) → (Int) → Int) (a b : E) : Bool := if cf a.1 b.1 = 0 then decide (a.2 < b.2) else decide (cf a.1 b.1 < 0)
theorem ahd_of {lt : E → E → Bool} {r : E → Int} (h : ∀ a b, lt a b = decide (r a < r b ∨ r a = r b ∧ a.2 < b.2)) : Ahd lt where
  asym a b h1 := by rw [h] at *; simp only [decide_eq_true_eq, decide_eq_false_iff_not] at *; omega
  trans a b c h1 h2 := by rw [h] at *; simp only [decide_eq_true_eq] at *; omega
  ntrans a b c h1 h2 := by rw [h] at *; simp only [decide_eq_false_iff_not] at *; omega
def cfN (x y : Int) : Int := if x < y then -1 else if y < x then 1 else 0
theorem numbers_any (x y : Int) (w : World) : Calls Try.prog 29 #[.int .i64 x, .int .i64 y] w fun e w' => e = .returned (.int .i64 (cfN x y)) ∧ w' = w := by
  by_cases h1 : x < y
  · rw [show cfN x y = -1 by unfold cfN; rw [if_pos h1]]
    go_enter Try.func29, Try.ntmps29
    go_wp2
    go_ret
    exact ⟨rfl, rfl⟩
  · by_cases h2 : y < x
    · rw [show cfN x y = 1 by unfold cfN; rw [if_neg h1, if_pos h2]]
      go_enter Try.func29, Try.ntmps29
      go_wp2
      go_ret
      exact ⟨rfl, rfl⟩
    · rw [show cfN x y = 0 by unfold cfN; rw [if_neg h1, if_neg h2]]
      go_enter Try.func29, Try.ntmps29
      go_wp2
      go_ret
      exact ⟨rfl, rfl⟩
theorem eql_fn (g : Nat) (lb : Array Value) (w : World) : (binOp .eql 49 (.func (.func g) #[] lb) .nilFunc).run Try.prog w = .ok (.bool false) w := by kernel_rfl
theorem orderOf_yes (w : World) : Calls Try.prog 44 #[.func (.func 29) #[] #[]] w fun e w' => e = .returned (.func (.func 29) #[] #[]) ∧ w' = w := by
  have he := eql_fn 29 #[]
  go_enter Try.func44, Try.ntmps44
  go_wp2
  go_ret
  exact ⟨rfl, rfl⟩
theorem ahd_num (a b : E) : ahd cfN a b = decide (a.1 < b.1 ∨ a.1 = b.1 ∧ a.2 < b.2) := by
  unfold ahd cfN
  rw [Bool.eq_iff_iff]
  rcases Int.lt_trichotomy a.1 b.1 with h | h | h
  · simp [h]
  · simp [h]
  · have h1 : ¬ a.1 < b.1 := by omega
    have h2 : ¬ a.1 = b.1 := by omega
    simp [h, h1, h2]
/-- The function of a heap, and the order that it is. -/
def Fv (fv : Value) (cf : Int → Int → Int) : Prop := fv = .func (.func 29) #[] #[] ∧ cf = cfN
theorem ahd_ok {fv : Value} {cf : Int → Int → Int} (h : Fv fv cf) : Ahd (ahd cf) := by
  obtain ⟨_, rfl⟩ := h
  exact ahd_of ahd_num
theorem stay_grow (w : World) (n : Nat) (os : Array Obj) : Stay w (grow (w.drewN n) os) :=
  ⟨rfl, rfl, rfl, by rw [size_grow]; exact Nat.le_add_right _ _, fun k hk => heap_grow_old _ _ hk⟩
set_option maxRecDepth 100000 in
set_option maxHeartbeats 2000000 in
theorem ahead_num {w : World} {hb g cap turns : Nat} {came : List E} (h : Hp w hb (.func (.func 29) #[] #[]) (.slice (some ⟨g, 0, none⟩) came.length cap) turns came) (hC : Came w g cap came) (i j : Nat) (a b : E) (hi : came[i]? = some a) (hj : came[j]? = some b) :
    Calls Try.prog 56 #[.pointer (some ⟨hb, 0, none⟩), .int .i64 (i : Int), .int .i64 (j : Int)] w fun e w' => e = .returned (.bool (ahd cfN a b)) ∧ Stay w w' := by
  have c1 := h.c1
  have li := (List.getElem?_eq_some_iff.1 hi).1
  have lj := (List.getElem?_eq_some_iff.1 hj).1
  have lc := hC.len
  unfold maxLen at lc
  have i1 : (i : Int) < (came.length : Int) := by omega
  have j1 : (j : Int) < (came.length : Int) := by omega
  obtain ⟨a1, a3⟩ := a
  obtain ⟨b1, b3⟩ := b
  have ho := orderOf_yes
  have hb' := numbers_any a1 b1
  have HH : Hid (Hp w hb (.func (.func 29) #[] #[]) (.slice (some ⟨g, 0, none⟩) came.length cap) turns came ∧ Came w g cap came ∧ came[i]? = some (a1, a3) ∧ came[j]? = some (b1, b3)) := ⟨h, hC, hi, hj⟩
  have HR : Hid (∀ c, c = cfN a1 b1 → ahd cfN (a1, a3) (b1, b3) = if c = 0 then decide (a3 < b3) else decide (c < 0)) := by rintro c rfl; rfl
  clear h hC hi hj
  go_enter Try.func56, Try.ntmps56
  go_wp2
  go_quiet (fail)
  have HW : Hid (Stay w (w.drewN nq)) := Stay.drewN w nq
  have HH2 : Hid (Hp (w.drewN nq) hb (.func (.func 29) #[] #[]) (.slice (some ⟨g, 0, none⟩) came.length cap) turns came ∧ Came (w.drewN nq) g cap came) := ⟨HH.out.1.stay HW.out, HH.out.2.1.stay HW.out⟩
  clear c1
  generalize w.drewN nq = W at HW HH2 ⊢
  have c0 := HH2.out.1.c0
  have d0 : W.cell? ⟨g, i * 2, none⟩ = some (.int .i64 a1) := HH2.out.2.cell i _ HH.out.2.2.1 0 (by decide)
  have e0 : W.cell? ⟨g, j * 2, none⟩ = some (.int .i64 b1) := HH2.out.2.cell j _ HH.out.2.2.2 0 (by decide)
  have d2 : W.cell? ⟨g, i * 2 + 1, none⟩ = some (.int .i64 (a3 : Int)) := HH2.out.2.cell i _ HH.out.2.2.1 1 (by decide)
  have e2 : W.cell? ⟨g, j * 2 + 1, none⟩ = some (.int .i64 (b3 : Int)) := HH2.out.2.cell j _ HH.out.2.2.2 1 (by decide)
  obtain ⟨c, hc⟩ : ∃ c, c = cfN a1 b1 := ⟨_, rfl⟩
  rw [← hc] at hb'
  have HC : Hid (c = cfN a1 b1) := hc
  clear hc
  go_wp2_with fail
  go_quiet ((first | (go_at_call 44; exact Calls.quiet_of_same (ho _)) | (go_at_call 29; exact Calls.quiet_of_same (hb' _))))
  clear ho hb'
  by_cases hcz : c = 0
  · have hcb : (c != 0) = false := by simp [hcz]
    have HZ : Hid (c = 0) := hcz
    clear hcz
    go_wp2
    go_quiet (fail)
    go_wp2
    go_ret
    refine ⟨?_, HW.out.trans ((Stay.drewN _ _).trans (Stay.drewN _ _))⟩
    rw [HR.out c HC.out, if_pos HZ.out]
    simp
  · have hcb : (c != 0) = true := by simpa using hcz
    have HZ : Hid (¬ c = 0) := hcz
    clear hcz
    go_wp2
    go_ret
    refine ⟨?_, HW.out.trans (Stay.drewN _ _)⟩
    rw [HR.out c HC.out, if_neg HZ.out]
    rfl
theorem ahead_any {w : World} {hb g cap turns : Nat} {came : List E} {fv : Value} {cf : Int → Int → Int} (hf : Fv fv cf) (h : Hp w hb fv (.slice (some ⟨g, 0, none⟩) came.length cap) turns came) (hC : Came w g cap came) (i j : Nat) (a b : E) (hi : came[i]? = some a) (hj : came[j]? = some b) :
    Calls Try.prog 56 #[.pointer (some ⟨hb, 0, none⟩), .int .i64 (i : Int), .int .i64 (j : Int)] w fun e w' => e = .returned (.bool (ahd cf a b)) ∧ Stay w w' := by
  obtain ⟨rfl, rfl⟩ := hf
  exact ahead_num h hC i j a b hi hj
end Go.Proofs.Ytnmaldgmlkcliaa.HI
