/- Cut whole, Agree, and the document's own Cut and Agree. -/
import Derived.Test.YtihkdaaghobckaaDoorU
namespace Go.Proofs.YtihkdaaghobckaaDoor
open Go.RowKit Go.Maps

def cutE (xs : List Int) (c : Nat) : Int := if Lib.bitLen c ≤ xs.length then 0 else 2
def cutLst (xs : List Int) (c : Nat) : List Int := if Lib.bitLen c ≤ xs.length then cutL xs c else []
theorem cutLst_len (xs : List Int) (c : Nat) : (cutLst xs c).length ≤ 16 := by
  unfold cutLst
  split
  · unfold cutL; rw [List.length_map]; exact cols_len c 16
  · simp

theorem cut_all (w : World) (a1 : Option Addr) (b1 o1 c1 c : Nat) (xs : List Int) (hx : IntsS w a1 b1 o1 xs) (hlx : xs.length ≤ maxLen) (hc : c < 65536) :
    Calls Tryd.prog 21 #[.slice a1 xs.length c1, .int .u16 c] w fun e w' => ∃ v, e = .returned (.tuple #[v, .int .i64 (cutE xs c)]) ∧ OwnI w.heap.size w' v (cutLst xs c) ∧ Stay w w' := by
  unfold cutE cutLst
  by_cases h : Lib.bitLen c ≤ xs.length
  · rw [if_pos h, if_pos h]
    exact cut_any w a1 b1 o1 c1 c xs hx hlx hc h
  · rw [if_neg h, if_neg h]
    refine (cut_short w a1 c1 xs.length c hc (by omega)).mono ?_
    rintro e w' ⟨rfl, rfl⟩
    exact ⟨_, rfl, World.ownsRow_nil _ _ _ _, Stay.refl _⟩

/-- All columns of c are there. -/
theorem has_iff {c n : Nat} (hc : c < 65536) : Lib.bitLen c ≤ n ↔ ∀ x ∈ cols c 16, x < (n : Int) := by
  obtain ⟨h1, h2, h3⟩ := bitLen_bound c hc
  constructor
  · intro h x hx
    obtain ⟨q, rfl, _, hq⟩ := cols_mem hx
    have := col_lt hc hq
    omega
  · intro h
    by_cases h0 : c = 0
    · subst h0
      exact Nat.le_trans (by decide) (Nat.zero_le n)
    · obtain ⟨h4, h5⟩ := h3 h0
      have ht : c.testBit (Lib.bitLen c - 1) = true := by
        rw [Nat.testBit_eq_decide_div_mod_eq, decide_eq_true_iff]
        have h6 : c / 2 ^ (Lib.bitLen c - 1) < 2 := by
          rw [Nat.div_lt_iff_lt_mul (Nat.two_pow_pos _), ← Nat.pow_succ', show (Lib.bitLen c - 1).succ = Lib.bitLen c by omega]
          exact h1
        have h7 : 1 ≤ c / 2 ^ (Lib.bitLen c - 1) := (Nat.le_div_iff_mul_le (Nat.two_pow_pos _)).2 (by omega)
        omega
      have := h ((Lib.bitLen c - 1 : Nat) : Int) (by
        unfold cols
        rw [List.mem_map]
        exact ⟨Lib.bitLen c - 1, by rw [List.mem_filter, List.mem_range]; exact ⟨by omega, ht⟩, rfl⟩)
      omega

/-- The numbers of xs at the first k of the columns L. -/
def takeF (xs L : List Int) (k : Nat) : List Int := (L.take k).map fun q => xs.getD q.toNat 0

set_option maxRecDepth 100000 in
set_option maxHeartbeats 1000000 in
theorem rcut_any (w : World) (a1 : Option Addr) (b1 o1 c1 c : Nat) (xs : List Int) (hx : IntsS w a1 b1 o1 xs) (hlx : xs.length ≤ maxLen) (hc : c < 65536) :
    Calls Tryd.prog 22 #[.slice a1 xs.length c1, .int .u16 c] w fun e w' => ∃ v, e = .returned (.tuple #[v, .int .i64 (cutE xs c)]) ∧ OwnI w.heap.size w' v (cutLst xs c) ∧ Stay w w' := by
  unfold maxLen at hlx
  obtain ⟨i0, hi, hz0, hz1, hz2⟩ := info_parts infoInt
  have HL := rlist_any w c hc
  have hlen := cols_len c 16
  have HH : Hid (Lib.bitLen c ≤ xs.length ↔ ∀ x ∈ cols c 16, x < (xs.length : Int)) := has_iff hc
  have HM : Hid (∀ x ∈ cols c 16, ∃ q : Nat, x = q) := fun x hx => by obtain ⟨q, h, _⟩ := cols_mem hx; exact ⟨q, h⟩
  have HCL : Hid (cutL xs c = takeF xs (cols c 16) (cols c 16).length) := by show _ = _; unfold cutL takeF; rw [List.take_length]
  obtain ⟨L, hL⟩ : ∃ L, L = cols c 16 := ⟨_, rfl⟩
  rw [← hL] at HL hlen HH HM HCL
  have HX : Hid (IntsS w a1 b1 o1 xs) := hx
  clear hx hL
  go_enter Tryd.func22, Tryd.ntmps22
  go_wp2_with (go_at_call 20; refine Calls.mono HL ?_; rintro e w1 ⟨v, rfl, hown, hst⟩; obtain ⟨a6, b6, c6, rfl, hI6⟩ := hown.ints; have HB1 : Hid (Stay w w1 ∧ IntsS w1 a6 b6 0 L) := ⟨hst, hI6⟩; clear hown hst hI6 HL)
  have HO : Hid (OwnI w1.heap.size w1 (.slice none 0 0) (takeF xs L 0)) := World.ownsRow_nil _ _ _ _
  go_loopw [7, 8] (fun v i wr => ∃ k : Nat, k ≤ L.length ∧ i = .int .i64 k ∧ OwnI w1.heap.size wr v (takeF xs L k) ∧ (∀ j (h : j < L.length), j < k → L[j] < (xs.length : Int)) ∧ Stay w1 wr) (fun v i _ => L.length - (intOf i).toNat)
  case atStart => exact ⟨0, Nat.zero_le _, rfl, HO.out, fun j _ hj => absurd hj (Nat.not_lt_zero _), Stay.refl _⟩
  case round =>
    obtain ⟨k, hk, rfl, hown, hall, hst⟩ := hrel
    by_cases hlt : k < L.length
    · have hi1 : (k : Int) < (L.length : Int) := by omega
      obtain rfl := HB1.out.2.1 (by omega)
      have hc6 := hst.cell (HB1.out.2.2 k hlt)
      obtain ⟨q, hq⟩ := HM.out _ (List.getElem_mem hlt)
      rw [hq, Nat.zero_add] at hc6
      by_cases hqx : q < xs.length
      · obtain rfl := HX.out.1 (by omega)
        have hcx := hst.cell (HB1.out.1.cell (HX.out.2 q hqx))
        have hq4 : (q : Int) < (xs.length : Int) := by omega
        have hql : takeF xs L (k + 1) = takeF xs L k ++ [xs[q]] := by
          unfold takeF
          rw [List.take_succ_eq_append_getElem hlt, List.map_append, hq]
          simp [hqx]
        have HN : Hid (takeF xs L (k + 1) = takeF xs L k ++ [xs[q]]) := hql
        have HO2 : Hid (OwnI w1.heap.size wr u7 (takeF xs L k) ∧ (∀ j (h : j < L.length), j < k + 1 → L[j] < (xs.length : Int)) ∧ Stay w1 wr) := ⟨hown, fun j h hj => by
          by_cases e : j = k
          · subst e; rw [hq]; exact hq4
          · exact hall j h (by omega), hst⟩
        have hl2 : (takeF xs L k).length ≤ 16 := by unfold takeF; rw [List.length_map, List.length_take]; omega
        have hsz : w.heap.size ≤ w1.heap.size := HB1.out.1.size
        clear hown hall hst hq HO hql
        generalize xs[q] = x at hcx HN
        go_wp2_with (at_builtin; refine wpList_append_own _ rfl _ _ 22 rfl w1.heap.size 3 i0 _ 1 8 Tryd.underlying22 hi hz0 hz1 hz2 rfl (by decide) u7 (takeF xs L k).length ((takeF xs L k).map (Value.int .i64)) rfl (HO2.out.1.alloc _) ⟨wr.heap.size, 0, none⟩ 1 1 [.int .i64 x] rfl rfl (new_cells wr [.int .i64 x] 3) (by simp [Value.oneCell']) (by unfold maxLen; omega) (by omega) (by rw [World.size_alloc]; have := HO2.out.2.2.size; omega) ?_; intro v2 w2 hown2 hg2 hn2; have HR : Hid (OwnI w1.heap.size w2 v2 (takeF xs L (k + 1)) ∧ Stay w1 w2) := ⟨(by rw [HN.out]; unfold OwnI; rw [List.length_append, List.map_append]; exact hown2), (HO2.out.2.2.alloc _).grown hg2 (by rw [World.size_alloc]; have := HO2.out.2.2.size; omega) (fun k e => (HO2.out.1.lt k e).1)⟩; clear hown2 hg2 hn2)
        refine ⟨⟨k + 1, by omega, by go_num, HR.out.1, HO2.out.2.1, HR.out.2⟩, ?_⟩
        simp [intOf]; omega
      · have hq4 : (xs.length : Int) ≤ (q : Int) := by omega
        have HN : Hid (¬ Lib.bitLen c ≤ xs.length) := fun h => by
          have := HH.out.1 h _ (List.getElem_mem hlt)
          rw [hq] at this
          omega
        have HS : Hid (Stay w wr) := HB1.out.1.trans hst
        clear hown hall hst hq HO
        go_wp2
        go_ret2
        unfold cutE cutLst
        rw [if_neg HN.out, if_neg HN.out]
        exact ⟨_, rfl, World.ownsRow_nil _ _ _ _, HS.out⟩
    · have hi1 : ¬ (k : Int) < (L.length : Int) := by omega
      obtain rfl : k = L.length := by omega
      have HN : Hid (Lib.bitLen c ≤ xs.length) := HH.out.2 (fun x hx => by obtain ⟨j, hj, rfl⟩ := List.getElem_of_mem hx; exact hall j hj hj)
      have HR : Hid (OwnI w.heap.size wr u7 (cutL xs c) ∧ Stay w wr) := ⟨by rw [HCL.out]; exact hown.mono HB1.out.1.size, HB1.out.1.trans hst⟩
      clear hown hall hst HO
      go_wp2
      go_ret2
      unfold cutE cutLst
      rw [if_pos HN.out, if_pos HN.out]
      exact ⟨_, rfl, HR.out.1, HR.out.2⟩

/-- Both have all columns of c, and in each the same number. -/
def agr (xs ys : List Int) (c : Nat) : Bool := decide (Lib.bitLen c ≤ xs.length ∧ Lib.bitLen c ≤ ys.length ∧ cutL xs c = cutL ys c)

theorem cutL_iff {xs ys : List Int} {c : Nat} : cutL xs c = cutL ys c ↔ ∀ q : Nat, q < 16 → c.testBit q = true → xs.getD q 0 = ys.getD q 0 := by
  unfold cutL
  rw [List.map_inj_left]
  constructor
  · intro h q hq ht
    have := h (q : Int) (by unfold cols; rw [List.mem_map]; exact ⟨q, by rw [List.mem_filter, List.mem_range]; exact ⟨hq, ht⟩, rfl⟩)
    simpa using this
  · intro h x hx
    obtain ⟨q, rfl, hq, ht⟩ := cols_mem hx
    simpa using h q hq ht

theorem agr_short {xs ys : List Int} {c : Nat} (h : ¬ (Lib.bitLen c ≤ xs.length ∧ Lib.bitLen c ≤ ys.length)) : agr xs ys c = false := by
  unfold agr
  rw [decide_eq_false_iff_not]
  exact fun ⟨h1, h2, _⟩ => h ⟨h1, h2⟩

set_option maxRecDepth 100000 in
set_option maxHeartbeats 1000000 in
theorem agree_any (w : World) (a1 a2 : Option Addr) (b1 o1 b2 o2 c1 c2 c : Nat) (xs ys : List Int) (hx : IntsS w a1 b1 o1 xs) (hy : IntsS w a2 b2 o2 ys) (hlx : xs.length ≤ maxLen) (hly : ys.length ≤ maxLen) (hc : c < 65536) :
    Calls Tryd.prog 23 #[.slice a1 xs.length c1, .slice a2 ys.length c2, .int .u16 c] w fun e w' => e = .returned (.bool (agr xs ys c)) ∧ Stay w w' := by
  unfold maxLen at hlx hly
  have HW := width_any c hc w
  have HT := within_any c
  obtain ⟨_, hb2, _⟩ := bitLen_bound c hc
  by_cases hs : Lib.bitLen c ≤ xs.length ∧ Lib.bitLen c ≤ ys.length
  · have HG : Hid (∀ q : Nat, c.testBit q = true → q < Lib.bitLen c) := fun q h => col_lt hc h
    have HE : Hid (agr xs ys c = true ↔ ∀ q : Nat, q < 16 → c.testBit q = true → xs.getD q 0 = ys.getD q 0) := by
      unfold agr
      rw [decide_eq_true_iff, ← cutL_iff]
      exact ⟨fun h => h.2.2, fun h => ⟨hs.1, hs.2, h⟩⟩
    obtain ⟨hs1, hs2⟩ := hs
    generalize Lib.bitLen c = m at HW hb2 hs1 hs2 HG
    have HX : Hid (IntsS w a1 b1 o1 xs ∧ IntsS w a2 b2 o2 ys) := ⟨hx, hy⟩
    have hm1 : (m : Int) ≤ (xs.length : Int) := by omega
    have hm2 : (m : Int) ≤ (ys.length : Int) := by omega
    have hm3 : ¬ (min (xs.length : Int) (ys.length : Int)) < (m : Int) := by omega
    clear hx hy
    go_enter Tryd.func23, Tryd.ntmps23
    go_wp2_with (go_at_call 37; refine Calls.mono HW ?_; rintro e w9 ⟨rfl, hw9⟩; subst w9)
    all_goals
      go_loopw [18] (fun i wr => ∃ k : Nat, k ≤ m ∧ i = .int .i64 k ∧ (∀ q : Nat, q < k → c.testBit q = true → xs.getD q 0 = ys.getD q 0) ∧ Stay w wr) (fun i _ => m - (intOf i).toNat)
      case atStart => exact ⟨0, Nat.zero_le _, rfl, fun q hq => absurd hq (Nat.not_lt_zero _), Stay.refl _⟩
      case round =>
        obtain ⟨k, hk, rfl, hall, hst⟩ := hrel
        have HS : Hid (Stay w wr) := hst
        by_cases hlt : k < m
        · have hi1 : (k : Int) < (m : Int) := by omega
          have HT2 := HT k hc (by omega)
          have hkx : k < xs.length := by omega
          have hky : k < ys.length := by omega
          by_cases ht : c.testBit k = true
          · rw [ht] at HT2
            obtain rfl := HX.out.1.1 (by omega)
            obtain rfl := HX.out.2.1 (by omega)
            have hc1 := hst.cell (HX.out.1.2 k hkx)
            have hc2 := hst.cell (HX.out.2.2 k hky)
            have hi2 : (k : Int) < (xs.length : Int) := by omega
            have hi3 : (k : Int) < (ys.length : Int) := by omega
            have HN : Hid (xs[k] = ys[k] → ∀ q : Nat, q < k + 1 → c.testBit q = true → xs.getD q 0 = ys.getD q 0) := fun e q hq hb => by
              by_cases e2 : q = k
              · subst e2; simpa [hkx, hky] using e
              · exact hall q (by omega) hb
            have HF : Hid (xs[k] ≠ ys[k] → agr xs ys c = false) := fun e => by
              rw [← Bool.not_eq_true]
              intro h
              have := HE.out.1 h k (by omega) ht
              exact e (by simpa [hkx, hky] using this)
            generalize xs[k] = x at hc1 HN HF
            generalize ys[k] = y at hc2 HN HF
            clear hall ht HT hst
            by_cases hxy : x = y
            · have HN2 := HN.out hxy
              have HN3 : Hid (∀ q : Nat, q < k + 1 → c.testBit q = true → xs.getD q 0 = ys.getD q 0) := HN2
              subst hxy
              clear HN HF HN2
              go_wp2
              go_quiet ((go_at_call 38; exact Calls.quiet_of_same (HT2 _)))
              go_wp2
              go_roundw
              case rel => exact ⟨k + 1, by omega, by go_num, HN3.out, HS.out.trans (Stay.drewN _ _)⟩
              case measure => simp [intOf]; omega
            · have HF2 : Hid (agr xs ys c = false) := HF.out hxy
              have hb : (x != y) = true := by simpa using hxy
              clear HN HF hxy
              go_wp2
              go_quiet ((go_at_call 38; exact Calls.quiet_of_same (HT2 _)))
              go_wp2
              go_ret
              exact ⟨by rw [HF2.out]; rfl, HS.out.trans (Stay.drewN _ _)⟩
          · have hf : c.testBit k = false := by simpa using ht
            rw [hf] at HT2
            have HN : Hid (∀ q : Nat, q < k + 1 → c.testBit q = true → xs.getD q 0 = ys.getD q 0) := fun q hq hb => by
              by_cases e2 : q = k
              · subst e2; exact absurd hb ht
              · exact hall q (by omega) hb
            clear hall ht hf HT hst
            go_wp2
            go_quiet ((go_at_call 38; exact Calls.quiet_of_same (HT2 _)))
            go_wp2
            go_roundw
            case rel => exact ⟨k + 1, by omega, by go_num, HN.out, HS.out.trans (Stay.drewN _ _)⟩
            case measure => simp [intOf]; omega
        · have hi1 : ¬ (k : Int) < (m : Int) := by omega
          obtain rfl : k = m := by omega
          have HN : Hid (agr xs ys c = true) := HE.out.2 (fun q _ hb => hall q (HG.out q hb) hb)
          clear hall HT hst
          go_wp2
          go_ret
          exact ⟨by rw [HN.out]; rfl, HS.out⟩
  · rw [agr_short hs]
    generalize Lib.bitLen c = m at HW hs
    clear hx hy HT
    by_cases hxy : xs.length ≤ ys.length
    · have h1 : (xs.length : Int) ≤ (ys.length : Int) := by omega
      have h2 : (xs.length : Int) < (m : Int) := by omega
      go_enter Tryd.func23, Tryd.ntmps23
      go_wp2_with (go_at_call 37; refine Calls.mono HW ?_; rintro e w9 ⟨rfl, hw9⟩; subst w9)
      go_ret
      exact ⟨rfl, Stay.refl _⟩
    · have h1 : ¬ (xs.length : Int) ≤ (ys.length : Int) := by omega
      have h3 : (ys.length : Int) < (xs.length : Int) := by omega
      have h2 : (ys.length : Int) < (m : Int) := by omega
      go_enter Tryd.func23, Tryd.ntmps23
      go_wp2_with (go_at_call 37; refine Calls.mono HW ?_; rintro e w9 ⟨rfl, hw9⟩; subst w9)
      all_goals (go_ret; exact ⟨rfl, Stay.refl _⟩)
end Go.Proofs.YtihkdaaghobckaaDoor
