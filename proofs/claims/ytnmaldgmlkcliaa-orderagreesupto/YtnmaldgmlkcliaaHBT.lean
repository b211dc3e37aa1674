/- Heaps: the function's order, ahead, Len, Peek. -/
import Derived.Test.YtnmaldgmlkcliaaHAT
import Derived.Shelf.SlSortCmp.QuietGrown
import Derived.BigRegion
namespace Go.Proofs.Ytnmaldgmlkcliaa.HT
open Go.RowKit Go.Maps Go.Shelf Go.Sort Go.Proofs.Ytnmaldgmlkcliaa

/-- Which of two entries comes first: by the order, then by the turns. -/
def ahd (cf : (Int × Int) → (Int × Int) → Int) (a b : E) : Bool := if cf a.1 b.1 = 0 then decide (a.2 < b.2) else decide (cf a.1 b.1 < 0)
theorem ahd_of {lt : E → E → Bool} {r : E → Int} (h : ∀ a b, lt a b = decide (r a < r b ∨ r a = r b ∧ a.2 < b.2)) : Ahd lt where
  asym a b h1 := by rw [h] at *; simp only [decide_eq_true_eq, decide_eq_false_iff_not] at *; omega
  trans a b c h1 h2 := by rw [h] at *; simp only [decide_eq_true_eq] at *; omega
  ntrans a b c h1 h2 := by rw [h] at *; simp only [decide_eq_false_iff_not] at *; omega
theorem stay_grow (w : World) (n : Nat) (os : Array Obj) : Stay w (grow (w.drewN n) os) :=
  ⟨rfl, rfl, rfl, by rw [size_grow]; exact Nat.le_add_right _ _, fun k hk => heap_grow_old _ _ hk⟩
def byC (x y : Int × Int) : Int := if x.1 < y.1 then -5 else if y.1 < x.1 then 7 else 0
def noC (_x _y : Int × Int) : Int := 0
/-- The function of a heap, and the order that it is. -/
def Fv (fv : Value) (cf : (Int × Int) → (Int × Int) → Int) : Prop := fv = .func (.func 9) #[] #[] ∧ cf = byC ∨ fv = .nilFunc ∧ cf = noC
theorem eql_fn (g : Nat) (lb : Array Value) (w : World) : (binOp .eql 29 (.func (.func g) #[] lb) .nilFunc).run Try.prog w = .ok (.bool false) w := by kernel_rfl
theorem eql_nil (w : World) : (binOp .eql 29 .nilFunc .nilFunc).run Try.prog w = .ok (.bool true) w := by kernel_rfl
theorem orderOf_yes (w : World) : Calls Try.prog 21 #[.func (.func 9) #[] #[]] w fun e w' => e = .returned (.func (.func 9) #[] #[]) ∧ w' = w := by
  have he := eql_fn 9 #[]
  go_enter Try.func21, Try.ntmps21
  go_wp2
  go_ret
  exact ⟨rfl, rfl⟩
theorem orderOf_nil (w : World) : Calls Try.prog 21 #[.nilFunc] w fun e w' => e = .returned (.func (.func 39) #[] #[]) ∧ w' = w := by
  have he := eql_nil
  go_enter Try.func21, Try.ntmps21
  go_wp2
  go_ret
  exact ⟨rfl, rfl⟩
theorem byG (x y : Int × Int) (w : World) : Calls Try.prog 9 #[.agg #[.int .i64 x.1, .int .i64 x.2], .agg #[.int .i64 y.1, .int .i64 y.2]] w fun e w' => e = .returned (.int .i64 (byC x y)) ∧ ∃ q os', w' = grow (w.drewN q) os' := by
  refine (by_any x y w).mono ?_
  rintro e w' ⟨rfl, rfl⟩
  exact ⟨rfl, 0, _, by rw [alloc_eq_grow, alloc_eq_grow, grow_grow]; rfl⟩
theorem noG (x y : Int × Int) (w : World) : Calls Try.prog 39 #[.agg #[.int .i64 x.1, .int .i64 x.2], .agg #[.int .i64 y.1, .int .i64 y.2]] w fun e w' => e = .returned (.int .i64 (noC x y)) ∧ ∃ q os', w' = grow (w.drewN q) os' := by
  go_enter Try.func39, Try.ntmps39
  go_wp2
  go_ret
  exact ⟨rfl, 0, _, by rw [alloc_eq_grow, alloc_eq_grow, grow_grow]; rfl⟩
theorem ahd_by (a b : E) : ahd byC a b = decide (a.1.1 < b.1.1 ∨ a.1.1 = b.1.1 ∧ a.2 < b.2) := by
  unfold ahd byC
  rw [Bool.eq_iff_iff]
  rcases Int.lt_trichotomy a.1.1 b.1.1 with h | h | h
  · simp [h]
  · simp [h]
  · have h1 : ¬ a.1.1 < b.1.1 := by omega
    have h2 : ¬ a.1.1 = b.1.1 := by omega
    simp [h, h1, h2]
theorem ahd_no (a b : E) : ahd noC a b = decide ((0 : Int) < 0 ∨ (0 : Int) = 0 ∧ a.2 < b.2) := by simp [ahd, noC]
theorem ahd_ok {fv : Value} {cf : (Int × Int) → (Int × Int) → Int} (h : Fv fv cf) : Ahd (ahd cf) := by
  rcases h with ⟨_, rfl⟩ | ⟨_, rfl⟩
  · exact ahd_of ahd_by
  · exact ahd_of (r := fun _ => 0) ahd_no

set_option maxRecDepth 100000 in
set_option maxHeartbeats 2000000 in
theorem ahead_by {w : World} {hb g cap turns : Nat} {came : List E} (h : Hp w hb (.func (.func 9) #[] #[]) (.slice (some ⟨g, 0, none⟩) came.length cap) turns came) (hC : Came w g cap came) (i j : Nat) (a b : E) (hi : came[i]? = some a) (hj : came[j]? = some b) :
    Calls Try.prog 51 #[.pointer (some ⟨hb, 0, none⟩), .int .i64 (i : Int), .int .i64 (j : Int)] w fun e w' => e = .returned (.bool (ahd byC a b)) ∧ Stay w w' := by
  have c1 := h.c1
  have li := (List.getElem?_eq_some_iff.1 hi).1
  have lj := (List.getElem?_eq_some_iff.1 hj).1
  have lc := hC.len
  unfold maxLen at lc
  have i1 : (i : Int) < (came.length : Int) := by omega
  have j1 : (j : Int) < (came.length : Int) := by omega
  obtain ⟨⟨a1, a2⟩, a3⟩ := a
  obtain ⟨⟨b1, b2⟩, b3⟩ := b
  have ho := orderOf_yes
  have hb' := byG
  have HH : Hid (Hp w hb (.func (.func 9) #[] #[]) (.slice (some ⟨g, 0, none⟩) came.length cap) turns came ∧ Came w g cap came ∧ came[i]? = some ((a1, a2), a3) ∧ came[j]? = some ((b1, b2), b3)) := ⟨h, hC, hi, hj⟩
  have HR : Hid (∀ c, c = byC (a1, a2) (b1, b2) → ahd byC ((a1, a2), a3) ((b1, b2), b3) = if c = 0 then decide (a3 < b3) else decide (c < 0)) := by rintro c rfl; rfl
  clear h hC hi hj
  go_enter Try.func51, Try.ntmps51
  go_wp2
  go_quiet (fail)
  have HW : Hid (Stay w (w.drewN nq)) := Stay.drewN w nq
  have HH2 : Hid (Hp (w.drewN nq) hb (.func (.func 9) #[] #[]) (.slice (some ⟨g, 0, none⟩) came.length cap) turns came ∧ Came (w.drewN nq) g cap came) := ⟨HH.out.1.stay HW.out, HH.out.2.1.stay HW.out⟩
  clear c1
  generalize w.drewN nq = W at HW HH2 ⊢
  have hbl := HH2.out.1.lt hb (.inl rfl)
  have gl := HH2.out.2.lt
  have c0 : ∀ n os, (grow (W.drewN n) os).cell? ⟨hb, 0, none⟩ = some (.func (.func 9) #[] #[]) := fun n os => cell_grown hbl HH2.out.1.c0 n os
  have d0 : ∀ n os, (grow (W.drewN n) os).cell? ⟨g, i * 3, none⟩ = some (.int .i64 a1) := fun n os => cell_grown gl (HH2.out.2.cell i _ HH.out.2.2.1 0 (by decide)) n os
  have d1 : ∀ n os, (grow (W.drewN n) os).cell? ⟨g, i * 3 + 1, none⟩ = some (.int .i64 a2) := fun n os => cell_grown gl (HH2.out.2.cell i _ HH.out.2.2.1 1 (by decide)) n os
  have e0 : ∀ n os, (grow (W.drewN n) os).cell? ⟨g, j * 3, none⟩ = some (.int .i64 b1) := fun n os => cell_grown gl (HH2.out.2.cell j _ HH.out.2.2.2 0 (by decide)) n os
  have e1 : ∀ n os, (grow (W.drewN n) os).cell? ⟨g, j * 3 + 1, none⟩ = some (.int .i64 b2) := fun n os => cell_grown gl (HH2.out.2.cell j _ HH.out.2.2.2 1 (by decide)) n os
  have ho' : ∀ n os, Calls Try.prog 21 #[.func (.func 9) #[] #[]] (grow (W.drewN n) os) fun e w' => e = .returned (.func (.func 9) #[] #[]) ∧ ∃ q os', w' = grow ((grow (W.drewN n) os).drewN q) os' := fun n os => (ho _).mono fun e w' ⟨h1, h2⟩ => ⟨h1, 0, #[], by rw [h2, grow_empty]; rfl⟩
  have hb2 : ∀ n os, Calls Try.prog 9 #[.agg #[.int .i64 a1, .int .i64 a2], .agg #[.int .i64 b1, .int .i64 b2]] (grow (W.drewN n) os) fun e w' => e = .returned (.int .i64 (byC (a1, a2) (b1, b2))) ∧ ∃ q os', w' = grow ((grow (W.drewN n) os).drewN q) os' := fun n os => hb' (a1, a2) (b1, b2) _
  clear ho hb'
  obtain ⟨c, hc⟩ : ∃ c, c = byC (a1, a2) (b1, b2) := ⟨_, rfl⟩
  rw [← hc] at hb2
  have HC : Hid (c = byC (a1, a2) (b1, b2)) := hc
  clear hc
  have mixed : Try.prog.follows .mixedOrders = true := by kernel_rfl
  go_wp2_with fail
  go_quiet_grown (first | (go_at_call 21; refine Calls.grown_of (ho' _ _)) | (go_at_call 9; refine Calls.grown_of (hb2 _ _)))
  clear ho' hb2 c0 d0 d1 e0 e1
  have HW2 : Hid (Stay W (grow (W.drewN nq) osq)) := stay_grow W nq osq
  have HC2 : Hid (Came (grow (W.drewN nq) osq) g cap came) := HH2.out.2.stay HW2.out
  generalize grow (W.drewN nq) osq = W2 at HW2 HC2 ⊢
  have d2 : W2.cell? ⟨g, i * 3 + 2, none⟩ = some (.int .i64 (a3 : Int)) := HC2.out.cell i _ HH.out.2.2.1 2 (by decide)
  have e2 : W2.cell? ⟨g, j * 3 + 2, none⟩ = some (.int .i64 (b3 : Int)) := HC2.out.cell j _ HH.out.2.2.2 2 (by decide)
  by_cases hcz : c = 0
  · have hcb : (c != 0) = false := by simp [hcz]
    have HZ : Hid (c = 0) := hcz
    clear hcz
    go_wp2
    go_quiet (fail)
    go_wp2
    go_ret
    refine ⟨?_, (HW.out.trans HW2.out).trans (Stay.drewN _ _)⟩
    rw [HR.out c HC.out, if_pos HZ.out]
    simp
  · have hcb : (c != 0) = true := by simpa using hcz
    have HZ : Hid (¬ c = 0) := hcz
    clear hcz
    go_wp2
    go_ret
    refine ⟨?_, HW.out.trans HW2.out⟩
    rw [HR.out c HC.out, if_neg HZ.out]
    rfl
set_option maxRecDepth 100000 in
set_option maxHeartbeats 2000000 in
theorem ahead_no {w : World} {hb g cap turns : Nat} {came : List E} (h : Hp w hb (.nilFunc) (.slice (some ⟨g, 0, none⟩) came.length cap) turns came) (hC : Came w g cap came) (i j : Nat) (a b : E) (hi : came[i]? = some a) (hj : came[j]? = some b) :
    Calls Try.prog 51 #[.pointer (some ⟨hb, 0, none⟩), .int .i64 (i : Int), .int .i64 (j : Int)] w fun e w' => e = .returned (.bool (ahd noC a b)) ∧ Stay w w' := by
  have c1 := h.c1
  have li := (List.getElem?_eq_some_iff.1 hi).1
  have lj := (List.getElem?_eq_some_iff.1 hj).1
  have lc := hC.len
  unfold maxLen at lc
  have i1 : (i : Int) < (came.length : Int) := by omega
  have j1 : (j : Int) < (came.length : Int) := by omega
  obtain ⟨⟨a1, a2⟩, a3⟩ := a
  obtain ⟨⟨b1, b2⟩, b3⟩ := b
  have ho := orderOf_nil
  have hb' := noG
  have HH : Hid (Hp w hb (.nilFunc) (.slice (some ⟨g, 0, none⟩) came.length cap) turns came ∧ Came w g cap came ∧ came[i]? = some ((a1, a2), a3) ∧ came[j]? = some ((b1, b2), b3)) := ⟨h, hC, hi, hj⟩
  have HR : Hid (∀ c, c = noC (a1, a2) (b1, b2) → ahd noC ((a1, a2), a3) ((b1, b2), b3) = if c = 0 then decide (a3 < b3) else decide (c < 0)) := by rintro c rfl; rfl
  clear h hC hi hj
  go_enter Try.func51, Try.ntmps51
  go_wp2
  go_quiet (fail)
  have HW : Hid (Stay w (w.drewN nq)) := Stay.drewN w nq
  have HH2 : Hid (Hp (w.drewN nq) hb (.nilFunc) (.slice (some ⟨g, 0, none⟩) came.length cap) turns came ∧ Came (w.drewN nq) g cap came) := ⟨HH.out.1.stay HW.out, HH.out.2.1.stay HW.out⟩
  clear c1
  generalize w.drewN nq = W at HW HH2 ⊢
  have hbl := HH2.out.1.lt hb (.inl rfl)
  have gl := HH2.out.2.lt
  have c0 : ∀ n os, (grow (W.drewN n) os).cell? ⟨hb, 0, none⟩ = some (.nilFunc) := fun n os => cell_grown hbl HH2.out.1.c0 n os
  have d0 : ∀ n os, (grow (W.drewN n) os).cell? ⟨g, i * 3, none⟩ = some (.int .i64 a1) := fun n os => cell_grown gl (HH2.out.2.cell i _ HH.out.2.2.1 0 (by decide)) n os
  have d1 : ∀ n os, (grow (W.drewN n) os).cell? ⟨g, i * 3 + 1, none⟩ = some (.int .i64 a2) := fun n os => cell_grown gl (HH2.out.2.cell i _ HH.out.2.2.1 1 (by decide)) n os
  have e0 : ∀ n os, (grow (W.drewN n) os).cell? ⟨g, j * 3, none⟩ = some (.int .i64 b1) := fun n os => cell_grown gl (HH2.out.2.cell j _ HH.out.2.2.2 0 (by decide)) n os
  have e1 : ∀ n os, (grow (W.drewN n) os).cell? ⟨g, j * 3 + 1, none⟩ = some (.int .i64 b2) := fun n os => cell_grown gl (HH2.out.2.cell j _ HH.out.2.2.2 1 (by decide)) n os
  have ho' : ∀ n os, Calls Try.prog 21 #[.nilFunc] (grow (W.drewN n) os) fun e w' => e = .returned (.func (.func 39) #[] #[]) ∧ ∃ q os', w' = grow ((grow (W.drewN n) os).drewN q) os' := fun n os => (ho _).mono fun e w' ⟨h1, h2⟩ => ⟨h1, 0, #[], by rw [h2, grow_empty]; rfl⟩
  have hb2 : ∀ n os, Calls Try.prog 39 #[.agg #[.int .i64 a1, .int .i64 a2], .agg #[.int .i64 b1, .int .i64 b2]] (grow (W.drewN n) os) fun e w' => e = .returned (.int .i64 (noC (a1, a2) (b1, b2))) ∧ ∃ q os', w' = grow ((grow (W.drewN n) os).drewN q) os' := fun n os => hb' (a1, a2) (b1, b2) _
  clear ho hb'
  obtain ⟨c, hc⟩ : ∃ c, c = noC (a1, a2) (b1, b2) := ⟨_, rfl⟩
  rw [← hc] at hb2
  have HC : Hid (c = noC (a1, a2) (b1, b2)) := hc
  clear hc
  have mixed : Try.prog.follows .mixedOrders = true := by kernel_rfl
  go_wp2_with fail
  go_quiet_grown (first | (go_at_call 21; refine Calls.grown_of (ho' _ _)) | (go_at_call 39; refine Calls.grown_of (hb2 _ _)))
  clear ho' hb2 c0 d0 d1 e0 e1
  have HW2 : Hid (Stay W (grow (W.drewN nq) osq)) := stay_grow W nq osq
  have HC2 : Hid (Came (grow (W.drewN nq) osq) g cap came) := HH2.out.2.stay HW2.out
  generalize grow (W.drewN nq) osq = W2 at HW2 HC2 ⊢
  have d2 : W2.cell? ⟨g, i * 3 + 2, none⟩ = some (.int .i64 (a3 : Int)) := HC2.out.cell i _ HH.out.2.2.1 2 (by decide)
  have e2 : W2.cell? ⟨g, j * 3 + 2, none⟩ = some (.int .i64 (b3 : Int)) := HC2.out.cell j _ HH.out.2.2.2 2 (by decide)
  by_cases hcz : c = 0
  · have hcb : (c != 0) = false := by simp [hcz]
    have HZ : Hid (c = 0) := hcz
    clear hcz
    go_wp2
    go_quiet (fail)
    go_wp2
    go_ret
    refine ⟨?_, (HW.out.trans HW2.out).trans (Stay.drewN _ _)⟩
    rw [HR.out c HC.out, if_pos HZ.out]
    simp
  · have hcb : (c != 0) = true := by simpa using hcz
    have HZ : Hid (¬ c = 0) := hcz
    clear hcz
    go_wp2
    go_ret
    refine ⟨?_, HW.out.trans HW2.out⟩
    rw [HR.out c HC.out, if_neg HZ.out]
    rfl
theorem ahead_any {w : World} {hb g cap turns : Nat} {came : List E} {fv : Value} {cf : (Int × Int) → (Int × Int) → Int} (hf : Fv fv cf) (h : Hp w hb fv (.slice (some ⟨g, 0, none⟩) came.length cap) turns came) (hC : Came w g cap came) (i j : Nat) (a b : E) (hi : came[i]? = some a) (hj : came[j]? = some b) :
    Calls Try.prog 51 #[.pointer (some ⟨hb, 0, none⟩), .int .i64 (i : Int), .int .i64 (j : Int)] w fun e w' => e = .returned (.bool (ahd cf a b)) ∧ Stay w w' := by
  rcases hf with ⟨rfl, rfl⟩ | ⟨rfl, rfl⟩
  · exact ahead_by h hC i j a b hi hj
  · exact ahead_no h hC i j a b hi hj
end Go.Proofs.Ytnmaldgmlkcliaa.HT
