/- The document's own sets of columns: bit, In, Of, List. -/
import Derived.Test.YtihkdaaghobckaaDoorS
namespace Go.Proofs.YtihkdaaghobckaaDoor
open Go.RowKit Go.Maps

theorem wrap16' (n : Int) (h0 : 0 ≤ n) (h : n < 65536) : IntKind.u16.wrap n = n := by
  obtain ⟨m, rfl⟩ : ∃ m : Nat, n = m := ⟨n.toNat, by omega⟩
  exact wrap16 m (by omega)

/-- The weight of a column. -/
def p2 (k : Nat) : Nat := 2 ^ k
theorem p2_succ (k : Nat) : p2 (k + 1) = 2 * p2 k := by unfold p2; rw [Nat.pow_succ]; omega
theorem p2_lt {k : Nat} (h : k < 16) : p2 k < 65536 := pow16 h
theorem p2_pos (k : Nat) : 0 < p2 k := Nat.two_pow_pos k

set_option maxRecDepth 100000 in
theorem rbit_any (k : Nat) (hk : k < 16) (w : World) : Calls Tryd.prog 35 #[.int .i64 k] w fun e w' => e = .returned (.int .u16 (p2 k : Int)) ∧ w' = w := by
  go_enter Tryd.func35, Tryd.ntmps35
  go_wp2
  go_loopw [3, 4] (fun x i wr => ∃ j : Nat, j ≤ k ∧ i = .int .i64 j ∧ x = .int .u16 (p2 j : Int) ∧ w = wr) (fun x i _ => k - (intOf i).toNat)
  case atStart => exact ⟨0, Nat.zero_le _, rfl, rfl, rfl⟩
  case round =>
    obtain ⟨j, hj, rfl, rfl, rfl⟩ := hrel
    by_cases hlt : j < k
    · have hi1 : (j : Int) < (k : Int) := by omega
      have HP : Hid (IntKind.u16.wrap (2 * (p2 j : Int)) = (p2 (j + 1) : Int)) := by
        have h1 := p2_lt (k := j + 1) (by omega)
        have h2 := p2_succ j
        show _ = _
        rw [wrap16' _ (by omega) (by omega)]
        omega
      go_wp2
      go_roundw
      case rel => exact ⟨j + 1, by omega, by go_num, by rw [HP.out], by first | rfl | trivial⟩
      case measure => simp [intOf]; omega
    · have hi1 : ¬ (j : Int) < (k : Int) := by omega
      obtain rfl : j = k := by omega
      go_wp2
      go_ret
      exact ⟨rfl, rfl⟩

set_option maxRecDepth 100000 in
theorem rin_any (c k : Nat) (hc : c < 65536) (hk : k < 16) (w : World) : Calls Tryd.prog 34 #[.int .u16 c, .int .i64 k] w fun e w' => e = .returned (.bool (c.testBit k)) ∧ w' = w := by
  have HB := rbit_any k hk w
  have hp := p2_lt hk
  have hp0 := p2_pos k
  have HT : Hid ((((c / p2 k : Nat) : Int) % 2 == 1) = c.testBit k) := bit_eq c k
  generalize p2 k = p at HB hp hp0 HT
  have hp1 : ((p : Nat) : Int) ≠ 0 := by omega
  have hp2 : (0 : Int) < (p : Int) := by omega
  go_enter Tryd.func34, Tryd.ntmps34
  go_wp2_with (go_at_call 35; refine Calls.mono HB ?_; rintro e w9 ⟨rfl, hw9⟩; subst w9)
  go_ret
  have h3 : c / p < 65536 := Nat.lt_of_le_of_lt (Nat.div_le_self _ _) hc
  have h4 : ((c : Int) / (p : Int)) = ((c / p : Nat) : Int) := by simp
  refine ⟨?_, rfl⟩
  have h5 : ((IntKind.u16.wrap ((c : Int) / (p : Int))).tmod 2 == 1) = c.testBit k := by
    rw [h4, wrap16 _ h3, Int.tmod_eq_emod_of_nonneg (Int.natCast_nonneg _)]
    exact HT.out
  rw [← h5]
  rfl

theorem or_in {c k : Nat} (h : c.testBit k = true) : c ||| 2 ^ k = c := by
  apply Nat.eq_of_testBit_eq
  intro i
  rw [Nat.testBit_or, Nat.testBit_two_pow]
  by_cases e : k = i
  · subst e; simp [h]
  · simp [e]
theorem or_out {c k : Nat} (hc : c < 65536) (hk : k < 16) (h : c.testBit k = false) : c ||| 2 ^ k = c + 2 ^ k := by
  have hp := pow16 hk
  have e1 : (BitVec.ofNat 20 c &&& BitVec.ofNat 20 (2 ^ k)) = 0#20 := by
    apply BitVec.eq_of_toNat_eq
    rw [BitVec.toNat_and, BitVec.toNat_ofNat, BitVec.toNat_ofNat, Nat.mod_eq_of_lt (by omega), Nat.mod_eq_of_lt (by omega)]
    apply Nat.eq_of_testBit_eq
    intro i
    rw [Nat.testBit_and, Nat.testBit_two_pow]
    by_cases e : k = i
    · subst e; simp [h]
    · simp [e]
  have e2 := BitVec.add_eq_or_of_and_eq_zero (BitVec.ofNat 20 c) (BitVec.ofNat 20 (2 ^ k)) e1
  have e3 := congrArg BitVec.toNat e2
  rw [BitVec.toNat_add, BitVec.toNat_or, BitVec.toNat_ofNat, BitVec.toNat_ofNat, Nat.mod_eq_of_lt (a := c) (by omega), Nat.mod_eq_of_lt (a := 2 ^ k) (by omega), Nat.mod_eq_of_lt (by omega)] at e3
  exact e3.symm

set_option maxRecDepth 100000 in
set_option maxHeartbeats 1000000 in
theorem rof_any (w : World) (a1 : Option Addr) (b1 o1 c1 : Nat) (xs : List Int) (hx : IntsS w a1 b1 o1 xs) (hlx : xs.length ≤ maxLen) :
    Calls Tryd.prog 18 #[.slice a1 xs.length c1] w fun e w' => e = .returned (.tuple (ofV (ofL xs 0))) ∧ w' = w := by
  unfold maxLen at hlx
  have HX : Hid (IntsS w a1 b1 o1 xs) := hx
  have HIN := rin_any
  have HBI := rbit_any
  clear hx
  go_enter Tryd.func18, Tryd.ntmps18
  go_wp2
  go_loopw [4, 5] (fun h i wr => ∃ (k c : Nat), k ≤ xs.length ∧ i = .int .i64 k ∧ h = .int .u16 c ∧ c < 65536 ∧ ofL (xs.drop k) c = ofL xs 0 ∧ w = wr) (fun h i _ => xs.length - (intOf i).toNat)
  case atStart => exact ⟨0, 0, Nat.zero_le _, rfl, rfl, by omega, rfl, rfl⟩
  case round =>
    obtain ⟨k, c, hk, rfl, rfl, hc, hh, rfl⟩ := hrel
    by_cases hlt : k < xs.length
    · obtain rfl := HX.out.1 (by omega)
      have hc1 := HX.out.2 k hlt
      have hi1 : (k : Int) < (xs.length : Int) := by omega
      have HH : Hid ((if 0 ≤ xs[k] ∧ xs[k] < 16 then ofL (xs.drop (k + 1)) (c ||| 2 ^ xs[k].toNat) else none) = ofL xs 0) := (ofL_step hlt c).symm.trans hh
      clear hh
      generalize xs[k] = x at hc1 HH
      by_cases h0 : x < 0
      · have HN : Hid (none = ofL xs 0) := by have h := HH.out; rw [if_neg (by omega)] at h; exact h
        clear HH HIN HBI
        go_wp2
        go_ret2
        exact ⟨by rw [← HN.out]; rfl, rfl⟩
      · by_cases h16 : 16 ≤ x
        · have HN : Hid (none = ofL xs 0) := by have h := HH.out; rw [if_neg (by omega)] at h; exact h
          clear HH HIN HBI
          go_wp2
          go_ret2
          exact ⟨by rw [← HN.out]; rfl, rfl⟩
        · obtain ⟨n, rfl⟩ : ∃ n : Nat, x = n := ⟨x.toNat, by omega⟩
          have hn : n < 16 := by omega
          have HN : Hid (ofL (xs.drop (k + 1)) (c ||| 2 ^ n) = ofL xs 0) := by rw [← HH.out, if_pos (by omega)]; rfl
          have H1 := HIN c n hc hn w
          have H2 := HBI n hn w
          have HPN : Hid (p2 n = 2 ^ n ∧ p2 n < 65536 ∧ (c ||| 2 ^ n) < 65536) := ⟨rfl, p2_lt hn, Nat.or_lt_two_pow (n := 16) hc (pow16 hn)⟩
          clear HH HIN HBI
          by_cases ht : c.testBit n = true
          · rw [ht] at H1
            have HC : Hid (c ||| 2 ^ n = c) := or_in ht
            clear ht
            go_wp2_with (go_at_call 34; refine Calls.mono H1 ?_; rintro e w9 ⟨rfl, hw9⟩; subst w9)
            refine ⟨⟨k + 1, c, by omega, by go_num, rfl, hc, by have h := HN.out; rw [HC.out] at h; exact h, by first | rfl | trivial⟩, ?_⟩
            simp [intOf]; omega
          · have hf : c.testBit n = false := by simpa using ht
            rw [hf] at H1
            have HC : Hid (c ||| 2 ^ n = c + p2 n) := or_out hc hn hf
            clear ht hf
            go_wp2_with (first | (go_at_call 34; refine Calls.mono H1 ?_; rintro e w9 ⟨rfl, hw9⟩; subst w9) | (go_at_call 35; refine Calls.mono H2 ?_; rintro e w9 ⟨rfl, hw9⟩; subst w9))
            refine ⟨⟨k + 1, c ||| 2 ^ n, by omega, by go_num, ?_, HPN.out.2.2, HN.out, by first | rfl | trivial⟩, ?_⟩
            · have h1 := HPN.out.2.2
              have h2 := HC.out
              rw [wrap16' _ (by omega) (by omega), h2]
              simp
            · simp [intOf]; omega
    · rw [List.drop_of_length_le (by omega)] at hh
      have HH : Hid (some c = ofL xs 0) := hh
      clear hh HIN HBI
      go_wp2
      go_ret2
      exact ⟨by rw [← HH.out]; rfl, rfl⟩

set_option maxRecDepth 100000 in
set_option maxHeartbeats 1000000 in
theorem rlist_any (w : World) (c : Nat) (hc : c < 65536) :
    Calls Tryd.prog 20 #[.int .u16 c] w fun e w' => ∃ v, e = .returned v ∧ OwnI w.heap.size w' v (cols c 16) ∧ Stay w w' := by
  obtain ⟨i0, hi, hz0, hz1, hz2⟩ := info_parts infoInt
  have HT := rin_any c
  have HO : Hid (OwnI w.heap.size w (.slice none 0 0) (cols c 0)) := World.ownsRow_nil _ _ _ _
  go_enter Tryd.func20, Tryd.ntmps20
  go_wp2
  go_loopw [3, 4] (fun v i wr => ∃ k : Nat, k ≤ 16 ∧ i = .int .i64 k ∧ OwnI w.heap.size wr v (cols c k) ∧ Stay w wr) (fun v i _ => 16 - (intOf i).toNat)
  case atStart => exact ⟨0, Nat.zero_le _, rfl, HO.out, Stay.refl _⟩
  case round =>
    obtain ⟨k, hk, rfl, hown, hst⟩ := hrel
    by_cases hlt : k < 16
    · have hi1 : (k : Int) < 16 := by omega
      have HT2 := HT k hc (by omega)
      have HO2 : Hid (OwnI w.heap.size wr u3 (cols c k) ∧ Stay w wr) := ⟨hown, hst⟩
      have hl2 := cols_len c k
      have HN := cols_succ c k
      clear hown hst HO HT
      by_cases ht : c.testBit k = true
      · rw [ht] at HT2
        rw [if_pos ht] at HN
        have HN2 : Hid (cols c (k + 1) = cols c k ++ [(k : Int)]) := HN
        clear HN ht
        go_wp2_with (first | (go_at_call 34; refine Calls.mono (HT2 _) ?_; rintro e w9 ⟨rfl, hw9⟩; subst w9) | (at_builtin; refine wpList_append_own _ rfl _ _ 22 rfl w.heap.size 3 i0 _ 1 8 Tryd.underlying22 hi hz0 hz1 hz2 rfl (by decide) u3 (cols c k).length ((cols c k).map (Value.int .i64)) rfl (HO2.out.1.alloc _) ⟨wr.heap.size, 0, none⟩ 1 1 [.int .i64 k] rfl rfl (new_cells wr [.int .i64 k] 3) (by simp [Value.oneCell']) (by unfold maxLen; omega) (by omega) (by rw [World.size_alloc]; have := HO2.out.2.size; omega) ?_; intro v2 w2 hown2 hg2 hn2; have HR : Hid (OwnI w.heap.size w2 v2 (cols c (k + 1)) ∧ Stay w w2) := ⟨by rw [HN2.out]; unfold OwnI; rw [List.length_append, List.map_append]; exact hown2, (HO2.out.2.alloc _).grown hg2 (by rw [World.size_alloc]; have := HO2.out.2.size; omega) (fun k e => (HO2.out.1.lt k e).1)⟩; clear hown2 hg2 hn2))
        go_roundw
        case rel => exact ⟨k + 1, by omega, by go_num, HR.out.1, HR.out.2⟩
        case measure => simp [intOf]; omega
      · have ht2 : c.testBit k = false := by simpa using ht
        rw [ht2] at HT2
        rw [if_neg ht, List.append_nil] at HN
        have HR : Hid (OwnI w.heap.size wr u3 (cols c (k + 1)) ∧ Stay w wr) := by rw [HN]; exact HO2.out
        clear HN ht ht2
        go_wp2_with (go_at_call 34; refine Calls.mono (HT2 _) ?_; rintro e w9 ⟨rfl, hw9⟩; subst w9)
        go_roundw
        case rel => exact ⟨k + 1, by omega, by go_num, HR.out.1, HR.out.2⟩
        case measure => simp [intOf]; omega
    · have hi1 : ¬ (k : Int) < 16 := by omega
      obtain rfl : k = 16 := by omega
      have HR : Hid (OwnI w.heap.size wr u3 (cols c 16) ∧ Stay w wr) := ⟨hown, hst⟩
      clear hown hst HT
      go_wp2
      go_ret
      exact ⟨_, rfl, HR.out.1, HR.out.2⟩
end Go.Proofs.YtihkdaaghobckaaDoor
