/- The document's own Agree. -/
import Derived.Test.YtihkdaaghobckaaDoorW
namespace Go.Proofs.YtihkdaaghobckaaDoor
open Go.RowKit Go.Maps

theorem agr_of {xs ys : List Int} {c : Nat} (hc : c < 65536) : agr xs ys c = true ↔ ∀ x ∈ cols c 16, x < (xs.length : Int) ∧ x < (ys.length : Int) ∧ xs.getD x.toNat 0 = ys.getD x.toNat 0 := by
  unfold agr
  rw [decide_eq_true_iff, has_iff hc, has_iff hc]
  unfold cutL
  rw [List.map_inj_left]
  exact ⟨fun h x hx => ⟨h.1 x hx, h.2.1 x hx, h.2.2 x hx⟩, fun h => ⟨fun x hx => (h x hx).1, fun x hx => (h x hx).2.1, fun x hx => (h x hx).2.2⟩⟩

set_option maxRecDepth 100000 in
set_option maxHeartbeats 8000000 in
theorem ragree_any (w : World) (a1 a2 : Option Addr) (b1 o1 b2 o2 c1 c2 c : Nat) (xs ys : List Int) (hx : IntsS w a1 b1 o1 xs) (hy : IntsS w a2 b2 o2 ys) (hlx : xs.length ≤ maxLen) (hly : ys.length ≤ maxLen) (hc : c < 65536) :
    Calls Tryd.prog 24 #[.slice a1 xs.length c1, .slice a2 ys.length c2, .int .u16 c] w fun e w' => e = .returned (.bool (agr xs ys c)) ∧ Stay w w' := by
  unfold maxLen at hlx hly
  have HL := rlist_any w c hc
  have hlen := cols_len c 16
  have HE : Hid (agr xs ys c = true ↔ ∀ x ∈ cols c 16, x < (xs.length : Int) ∧ x < (ys.length : Int) ∧ xs.getD x.toNat 0 = ys.getD x.toNat 0) := agr_of hc
  have HM : Hid (∀ x ∈ cols c 16, ∃ q : Nat, x = q) := fun x hx => by obtain ⟨q, h, _⟩ := cols_mem hx; exact ⟨q, h⟩
  obtain ⟨L, hL⟩ : ∃ L, L = cols c 16 := ⟨_, rfl⟩
  rw [← hL] at HL hlen HE HM
  have HX : Hid (IntsS w a1 b1 o1 xs ∧ IntsS w a2 b2 o2 ys) := ⟨hx, hy⟩
  clear hx hy hL
  go_enter Tryd.func24, Tryd.ntmps24
  go_wp2_with (go_at_call 20; refine Calls.mono HL ?_; rintro e w1 ⟨v, rfl, hown, hst⟩; obtain ⟨a6, b6, c6, rfl, hI6⟩ := hown.ints; have HB1 : Hid (Stay w w1 ∧ IntsS w1 a6 b6 0 L) := ⟨hst, hI6⟩; clear hown hst hI6 HL)
  go_loopw [8] (fun i wr => ∃ k : Nat, k ≤ L.length ∧ i = .int .i64 k ∧ (∀ j (h : j < L.length), j < k → L[j] < (xs.length : Int) ∧ L[j] < (ys.length : Int) ∧ xs.getD L[j].toNat 0 = ys.getD L[j].toNat 0) ∧ Stay w1 wr) (fun i _ => L.length - (intOf i).toNat)
  case atStart => exact ⟨0, Nat.zero_le _, rfl, fun j _ hj => absurd hj (Nat.not_lt_zero _), Stay.refl _⟩
  case round =>
    obtain ⟨k, hk, rfl, hall, hst⟩ := hrel
    have HS1 : Hid (Stay w1 wr) := hst
    by_cases hlt : k < L.length
    · have hi1 : (k : Int) < (L.length : Int) := by omega
      obtain rfl := HB1.out.2.1 (by omega)
      have hc6 := hst.cell (HB1.out.2.2 k hlt)
      obtain ⟨q, hq⟩ := HM.out _ (List.getElem_mem hlt)
      have HF : Hid (¬ (L[k] < (xs.length : Int) ∧ L[k] < (ys.length : Int) ∧ xs.getD L[k].toNat 0 = ys.getD L[k].toNat 0) → agr xs ys c = false) := fun h => by
        rw [← Bool.not_eq_true]
        exact fun h2 => h (HE.out.1 h2 _ (List.getElem_mem hlt))
      have HN : Hid (L[k] < (xs.length : Int) ∧ L[k] < (ys.length : Int) ∧ xs.getD L[k].toNat 0 = ys.getD L[k].toNat 0 → ∀ j (h : j < L.length), j < k + 1 → L[j] < (xs.length : Int) ∧ L[j] < (ys.length : Int) ∧ xs.getD L[j].toNat 0 = ys.getD L[j].toNat 0) := fun h j hj hjk => by
        by_cases e : j = k
        · subst e; exact h
        · exact hall j hj (by omega)
      have HS : Hid (∀ m, Stay w (wr.drewN m)) := fun m => (HB1.out.1.trans HS1.out).trans (Stay.drewN _ _)
      rw [hq] at hc6 HF HN
      rw [Nat.zero_add] at hc6
      clear hall hq
      by_cases hqx : q < xs.length
      · have hq4 : (q : Int) < (xs.length : Int) := by omega
        by_cases hqy : q < ys.length
        · have hq5 : (q : Int) < (ys.length : Int) := by omega
          obtain rfl := HX.out.1.1 (by omega)
          obtain rfl := HX.out.2.1 (by omega)
          have hcx := hst.cell (HB1.out.1.cell (HX.out.1.2 q hqx))
          have hcy := hst.cell (HB1.out.1.cell (HX.out.2.2 q hqy))
          have HF2 : Hid (xs[q] ≠ ys[q] → agr xs ys c = false) := fun h => HF.out (fun h2 => h (by have := h2.2.2; simpa [hqx, hqy] using this))
          have HN2 : Hid (xs[q] = ys[q] → ∀ j (h : j < L.length), j < k + 1 → L[j] < (xs.length : Int) ∧ L[j] < (ys.length : Int) ∧ xs.getD L[j].toNat 0 = ys.getD L[j].toNat 0) := fun h => HN.out ⟨hq4, hq5, by simpa [hqx, hqy] using h⟩
          clear HF HN
          generalize xs[q] = x at hcx HF2 HN2
          generalize ys[q] = y at hcy HF2 HN2
          have hd1 : decide (xs.length ≤ q) = false := by simp; omega
          have hd2 : decide (ys.length ≤ q) = false := by simp; omega
          clear hst
          by_cases hxy : x = y
          · have HN3 := HN2.out hxy
            have HN4 : Hid (∀ j (h : j < L.length), j < k + 1 → L[j] < (xs.length : Int) ∧ L[j] < (ys.length : Int) ∧ xs.getD L[j].toNat 0 = ys.getD L[j].toNat 0) := HN3
            subst hxy
            clear HF2 HN2 HN3
            go_wp2
            go_quiet (fail)
            go_wp2
            go_roundw
            case rel => exact ⟨k + 1, by omega, by go_num, HN4.out, HS1.out.trans (Stay.drewN _ _)⟩
            case measure => simp [intOf]; omega
          · have HF3 : Hid (agr xs ys c = false) := HF2.out hxy
            have hb : (x != y) = true := by simpa using hxy
            clear HF2 HN2 hxy
            go_wp2
            go_quiet (fail)
            go_wp2
            go_ret
            exact ⟨by rw [HF3.out]; rfl, HS.out _⟩
        · have hq5 : (ys.length : Int) ≤ (q : Int) := by omega
          have HF2 : Hid (agr xs ys c = false) := HF.out (fun h => by have := h.2.1; omega)
          have hd1 : decide (xs.length ≤ q) = false := by simp; omega
          have hd2 : decide (ys.length ≤ q) = true := by simp; omega
          clear HF HN hst
          go_wp2
          go_quiet (fail)
          go_wp2
          go_ret
          exact ⟨by rw [HF2.out]; rfl, HS.out _⟩
      · have hq4 : (xs.length : Int) ≤ (q : Int) := by omega
        have HF2 : Hid (agr xs ys c = false) := HF.out (fun h => by have := h.1; omega)
        have hd1 : decide (xs.length ≤ q) = true := by simp; omega
        clear HF HN hst
        go_wp2
        go_quiet (fail)
        go_wp2
        go_ret
        exact ⟨by rw [HF2.out]; rfl, HS.out _⟩
    · have hi1 : ¬ (k : Int) < (L.length : Int) := by omega
      obtain rfl : k = L.length := by omega
      have HN : Hid (agr xs ys c = true) := HE.out.2 (fun x hx => by obtain ⟨j, hj, rfl⟩ := List.getElem_of_mem hx; exact hall j hj hj)
      clear hall hst
      go_wp2
      go_ret
      exact ⟨by rw [HN.out]; rfl, HB1.out.1.trans HS1.out⟩
end Go.Proofs.YtihkdaaghobckaaDoor
