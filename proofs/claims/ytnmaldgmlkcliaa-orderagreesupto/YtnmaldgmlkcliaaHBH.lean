/- Heaps: the function's order, ahead, Len, Peek. -/
import Derived.Test.YtnmaldgmlkcliaaHAH
import Derived.Shelf.SlSortCmp.QuietGrown
import Derived.BigRegion
import Derived.Test.YtnmaldgmlkcliaaOMD
namespace Go.Proofs.Ytnmaldgmlkcliaa.HH
open Go.RowKit Go.Maps Go.Shelf Go.Sort Go.Proofs.Ytnmaldgmlkcliaa

/-- Which of two entries comes first: by the order, then by the turns. -/
def ahd (cf : (Hd) → (Hd) → Int) (a b : E) : Bool := if cf a.1 b.1 = 0 then decide (a.2 < b.2) else decide (cf a.1 b.1 < 0)
theorem ahd_of {lt : E → E → Bool} {r : E → Int} (h : ∀ a b, lt a b = decide (r a < r b ∨ r a = r b ∧ a.2 < b.2)) : Ahd lt where
  asym a b h1 := by rw [h] at *; simp only [decide_eq_true_eq, decide_eq_false_iff_not] at *; omega
  trans a b c h1 h2 := by rw [h] at *; simp only [decide_eq_true_eq] at *; omega
  ntrans a b c h1 h2 := by rw [h] at *; simp only [decide_eq_false_iff_not] at *; omega
theorem stay_grow (w : World) (n : Nat) (os : Array Obj) : Stay w (grow (w.drewN n) os) :=
  ⟨rfl, rfl, rfl, by rw [size_grow]; exact Nat.le_add_right _ _, fun k hk => heap_grow_old _ _ hk⟩
def hdC (a b : Hd) : Int := or2 (if a.x.1 < b.x.1 then -5 else if b.x.1 < a.x.1 then 7 else 0) (cmp1 (a.i : Int) (b.i : Int))
/-- The function of a heap, and the order that it is. -/
def Fv (fv : Value) (cf : Hd → Hd → Int) : Prop := (∃ xb, fv = headV xb) ∧ cf = hdC
theorem ahd_hd (a b : E) : ahd hdC a b = decide (a.1.x.1 < b.1.x.1 ∨ a.1.x.1 = b.1.x.1 ∧ (a.1.i < b.1.i ∨ a.1.i = b.1.i ∧ a.2 < b.2)) := by
  unfold ahd hdC or2 cmp1
  rw [Bool.eq_iff_iff]
  rcases Int.lt_trichotomy a.1.x.1 b.1.x.1 with h | h | h
  · simp [h]
  · rcases Nat.lt_trichotomy a.1.i b.1.i with k | k | k
    · simp [h, k]
    · simp [h, k]
    · have h1 : ¬ a.1.i < b.1.i := by omega
      have h2 : ¬ a.1.i = b.1.i := by omega
      simp [h, k, h1, h2]
  · have h1 : ¬ a.1.x.1 < b.1.x.1 := by omega
    have h2 : ¬ a.1.x.1 = b.1.x.1 := by omega
    simp [h, h1, h2]
theorem ahd_ok {fv : Value} {cf : Hd → Hd → Int} (h : Fv fv cf) : Ahd (ahd cf) := by
  obtain ⟨_, rfl⟩ := h
  exact {
    asym := fun a b h1 => by rw [ahd_hd] at *; simp only [decide_eq_true_eq, decide_eq_false_iff_not] at *; omega
    trans := fun a b c h1 h2 => by rw [ahd_hd] at *; simp only [decide_eq_true_eq] at *; omega
    ntrans := fun a b c h1 h2 => by rw [ahd_hd] at *; simp only [decide_eq_false_iff_not] at *; omega }
theorem eql_fn (g : Nat) (lb : Array Value) (w : World) : (binOp .eql 50 (.func (.func g) #[] lb) .nilFunc).run Try.prog w = .ok (.bool false) w := by kernel_rfl
theorem orderOf_yes (xb : Nat) (w : World) : Calls Try.prog 60 #[.func (.func 23) #[] #[.pointer (some ⟨xb, 0, none⟩)]] w fun e w' => e = .returned (.func (.func 23) #[] #[.pointer (some ⟨xb, 0, none⟩)]) ∧ w' = w := by
  have he := eql_fn 23 #[.pointer (some ⟨xb, 0, none⟩)]
  go_enter Try.func60, Try.ntmps60
  go_wp2
  go_ret
  exact ⟨rfl, rfl⟩
theorem six_stay {wr W : World} {p0 p1 p2 p3 p4 : Addr} {v0 v1 v2 v3 v4 : Value} (h : W.cell? p0 = some v0 ∧ W.cell? p1 = some v1 ∧ W.cell? p2 = some v2 ∧ W.cell? p3 = some v3 ∧ W.cell? p4 = some v4 ∧ Hid (Stay wr W)) : Stay wr W := h.2.2.2.2.2.out
theorem six_keep {wr W W' : World} {p0 p1 p2 p3 p4 : Addr} {v0 v1 v2 v3 v4 : Value} (h : W.cell? p0 = some v0 ∧ W.cell? p1 = some v1 ∧ W.cell? p2 = some v2 ∧ W.cell? p3 = some v3 ∧ W.cell? p4 = some v4 ∧ Hid (Stay wr W)) (hs : Stay W W') : W'.cell? p0 = some v0 ∧ W'.cell? p1 = some v1 ∧ W'.cell? p2 = some v2 ∧ W'.cell? p3 = some v3 ∧ W'.cell? p4 = some v4 ∧ Hid (Stay wr W') :=
  ⟨hs.cell h.1, hs.cell h.2.1, hs.cell h.2.2.1, hs.cell h.2.2.2.1, hs.cell h.2.2.2.2.1, h.2.2.2.2.2.out.trans hs⟩
set_option maxRecDepth 100000 in
set_option maxHeartbeats 4000000 in
theorem ahead_any {w : World} {hb g cap turns : Nat} {came : List E} {fv : Value} {cf : Hd → Hd → Int} (hf : Fv fv cf) (h : Hp w hb fv (.slice (some ⟨g, 0, none⟩) came.length cap) turns came) (hC : Came w g cap came) (i j : Nat) (a b : E) (hi : came[i]? = some a) (hj : came[j]? = some b) :
    Calls Try.prog 54 #[.pointer (some ⟨hb, 0, none⟩), .int .i64 (i : Int), .int .i64 (j : Int)] w fun e w' => e = .returned (.bool (ahd cf a b)) ∧ Stay w w' := by
  obtain ⟨⟨xb, rfl⟩, rfl⟩ := hf
  have c1 := h.c1
  have li := (List.getElem?_eq_some_iff.1 hi).1
  have lj := (List.getElem?_eq_some_iff.1 hj).1
  have lc := hC.len
  unfold maxLen at lc
  have i1 : (i : Int) < (came.length : Int) := by omega
  have j1 : (j : Int) < (came.length : Int) := by omega
  obtain ⟨xb', hx, hbx, hall, _, _⟩ := h.lies
  obtain rfl := headV_inj hx
  obtain ⟨ab, ao, ha, _, han, hax, hay⟩ := hall a (List.mem_of_getElem? hi)
  obtain ⟨bb, bo, hb', _, hbn, hbx1, hby1⟩ := hall b (List.mem_of_getElem? hj)
  obtain ⟨⟨a0, an, ac, ai, ⟨ax, ay⟩⟩, a3⟩ := a
  obtain ⟨⟨b0, bn, bc, bi, ⟨bx, by'⟩⟩, b3⟩ := b
  dsimp only at ha hb' han hbn hax hay hbx1 hby1
  subst ha hb'
  have ho := orderOf_yes xb
  obtain ⟨c, hc⟩ : ∃ c, c = or2 (if ax < bx then -5 else if bx < ax then 7 else 0) (cmp1 (ai : Int) (bi : Int)) := ⟨_, rfl⟩
  have hh : ∀ W, Stay w W → Calls Try.prog 23 #[.agg #[.slice (some ⟨ab, ao, none⟩) an ac, .int .i64 (ai : Int)], .agg #[.slice (some ⟨bb, bo, none⟩) bn bc, .int .i64 (bi : Int)], .pointer (some ⟨xb, 0, none⟩)] W fun e w' => e = .returned (.int .i64 c) ∧ Stay W w' := fun W hW => by
    rw [hc]; exact head_any xb W (hW.cell hbx) ab ao an ac bb bo bn bc ai bi ax ay bx by' han hbn (hW.cell hax) (hW.cell hay) (hW.cell hbx1) (hW.cell hby1)
  have HR : Hid (ahd hdC (⟨some ⟨ab, ao, none⟩, an, ac, ai, (ax, ay)⟩, a3) (⟨some ⟨bb, bo, none⟩, bn, bc, bi, (bx, by')⟩, b3) = if c = 0 then decide (a3 < b3) else decide (c < 0)) := by rw [hc]; rfl
  have HH : Hid (Hp w hb (headV xb) (.slice (some ⟨g, 0, none⟩) came.length cap) turns came ∧ Came w g cap came ∧ came[i]? = some (⟨some ⟨ab, ao, none⟩, an, ac, ai, (ax, ay)⟩, a3) ∧ came[j]? = some (⟨some ⟨bb, bo, none⟩, bn, bc, bi, (bx, by')⟩, b3)) := ⟨h, hC, hi, hj⟩
  clear h hC hi hj hall hx hbx hax hay hbx1 hby1 hc
  go_enter Try.func54, Try.ntmps54
  go_wp2
  go_quiet (fail)
  have HW : Hid (Stay w (w.drewN nq)) := Stay.drewN w nq
  clear c1
  generalize w.drewN nq = W at HW ⊢
  have HC1 : Hid (Came W g cap came) := HH.out.2.1.stay HW.out
  have c0 : W.cell? ⟨hb, 0, none⟩ = some (.func (.func 23) #[] #[.pointer (some ⟨xb, 0, none⟩)]) := (HH.out.1.stay HW.out).c0
  have d0 : W.cell? ⟨g, i * 3, none⟩ = some (.slice (some ⟨ab, ao, none⟩) an ac) := HC1.out.cell i _ HH.out.2.2.1 0 (by decide)
  have d1 : W.cell? ⟨g, i * 3 + 1, none⟩ = some (.int .i64 (ai : Int)) := HC1.out.cell i _ HH.out.2.2.1 1 (by decide)
  have e0 : W.cell? ⟨g, j * 3, none⟩ = some (.slice (some ⟨bb, bo, none⟩) bn bc) := HC1.out.cell j _ HH.out.2.2.2 0 (by decide)
  have e1 : W.cell? ⟨g, j * 3 + 1, none⟩ = some (.int .i64 (bi : Int)) := HC1.out.cell j _ HH.out.2.2.2 1 (by decide)
  have hS0 := six_keep (wr := w) ⟨c0, d0, d1, e0, e1, HW⟩ (Stay.drew W)
  have ho' : ∀ V, Calls Try.prog 60 #[.func (.func 23) #[] #[.pointer (some ⟨xb, 0, none⟩)]] V fun e w' => e = .returned (.func (.func 23) #[] #[.pointer (some ⟨xb, 0, none⟩)]) ∧ Stay V w' := fun V => (ho V).mono fun e w' ⟨h1, h2⟩ => ⟨h1, by rw [h2]; exact Stay.refl _⟩
  clear ho c0 d0 d1 e0 e1 HW HC1
  go_wp2_with fail
  go_region_held3 (fun V => V.cell? ⟨hb, 0, none⟩ = some (.func (.func 23) #[] #[.pointer (some ⟨xb, 0, none⟩)]) ∧ V.cell? ⟨g, i * 3, none⟩ = some (.slice (some ⟨ab, ao, none⟩) an ac) ∧ V.cell? ⟨g, i * 3 + 1, none⟩ = some (.int .i64 (ai : Int)) ∧ V.cell? ⟨g, j * 3, none⟩ = some (.slice (some ⟨bb, bo, none⟩) bn bc) ∧ V.cell? ⟨g, j * 3 + 1, none⟩ = some (.int .i64 (bi : Int)) ∧ Hid (Stay w V)) (first | assumption | (exact six_keep (by assumption) (by assumption)) | (exact six_keep (by assumption) (Stay.drew _))) (first
    | (go_at_call 60; refine (ho' _).mono ?_; rintro e9 w9 ⟨rfl, hs9⟩)
    | (go_at_call 23; refine (hh _ (six_stay (by assumption))).mono ?_; rintro e9 w9 ⟨rfl, hs9⟩))
  all_goals
    have HS9 : Hid (Stay w w9) := six_stay (by assumption)
    have HC2 : Hid (Came w9 g cap came) := HH.out.2.1.stay HS9.out
    have d2 : w9.cell? ⟨g, i * 3 + 2, none⟩ = some (.int .i64 (a3 : Int)) := HC2.out.cell i _ HH.out.2.2.1 2 (by decide)
    have e2 : w9.cell? ⟨g, j * 3 + 2, none⟩ = some (.int .i64 (b3 : Int)) := HC2.out.cell j _ HH.out.2.2.2 2 (by decide)
    clear hS0 hs9 hh ho'
    by_cases hcz : c = 0
    · have hcb : (c != 0) = false := by simp [hcz]
      have HZ : Hid (c = 0) := hcz
      clear hcz
      go_wp2
      go_quiet (fail)
      go_wp2
      go_ret
      refine ⟨?_, HS9.out.trans (Stay.drewN _ _)⟩
      rw [HR.out, if_pos HZ.out]
      simp
    · have hcb : (c != 0) = true := by simpa using hcz
      have HZ : Hid (¬ c = 0) := hcz
      clear hcz
      go_wp2
      go_ret
      refine ⟨?_, HS9.out⟩
      rw [HR.out, if_neg HZ.out]
      rfl
end Go.Proofs.Ytnmaldgmlkcliaa.HH
