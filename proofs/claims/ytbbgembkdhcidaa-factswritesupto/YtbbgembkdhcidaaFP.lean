/- How tuples of texts stand to each other, by slices.Compare and slices.Equal; strings.Clone, copyTuple. -/
import Derived.Test.YtbbgembkdhcidaaFO
namespace Go.Proofs.Ytbbgembkdhcidaa
open Go.RowKit Go.Maps

theorem bl_eq : ∀ a b : List UInt8, Op.bytesLess a b = decide (Lib.compareBytes a b < 0)
  | [], [] => by simp [Op.bytesLess, Lib.compareBytes]
  | _ :: _, [] => by simp [Op.bytesLess, Lib.compareBytes]
  | [], _ :: _ => by simp [Op.bytesLess, Lib.compareBytes]
  | x :: a, y :: b => by
    unfold Op.bytesLess Lib.compareBytes
    by_cases h1 : x < y
    · simp [h1]
    · by_cases h2 : y < x
      · have h3 : (x == y) = false := by
          rw [beq_eq_false_iff_ne]; rintro rfl; exact UInt8.lt_irrefl _ h2
        simp [h1, h2, h3]
      · have h3 : x = y := UInt8.le_antisymm (UInt8.not_lt.1 h2) (UInt8.not_lt.1 h1)
        subst h3
        simp [UInt8.lt_irrefl, bl_eq a b]
theorem less_bytes (a b : ByteArray) : Op.bytesLess a.toList b.toList = decide (cmpT a b < 0) := by
  rw [ByteArray.toList_eq, ByteArray.toList_eq]; exact bl_eq _ _


theorem isNaN_any (s : ByteArray) (w : World) : Calls Try.prog 67 #[.string s] w fun e w' => e = .returned (.bool false) ∧ w' = w := by
  have hq : (s.toList == s.toList) = true := by simp
  go_enter Try.func67, Try.ntmps67
  go_wp2
  go_ret
  exact ⟨by first | rfl | simp, rfl⟩
theorem cmpSt_any (a b : ByteArray) (w : World) : Calls Try.prog 56 #[.string a, .string b] w fun e w' => e = .returned (.int .i64 (cmpT a b)) ∧ w' = w := by
  have hn := isNaN_any
  have hl := less_bytes a b
  rcases cmpT_three a b with h | h | h
  · have hl' : Op.bytesLess a.toList b.toList = true := by rw [hl, h]; rfl
    rw [h]
    clear hl h
    go_enter Try.func56, Try.ntmps56
    go_wp2_with (go_at_call 67; refine (hn _ _).mono ?_; rintro e w' ⟨rfl, hw'⟩; have hw2 := hw'.symm; subst hw2)
    go_ret
    exact ⟨rfl, rfl⟩
  · have hl' : Op.bytesLess a.toList b.toList = false := by rw [hl, h]; rfl
    have he : (a.toList == b.toList) = true := by rw [cmpT_eq h]; simp
    rw [h]
    clear hl h
    go_enter Try.func56, Try.ntmps56
    go_wp2_with (go_at_call 67; refine (hn _ _).mono ?_; rintro e w' ⟨rfl, hw'⟩; have hw2 := hw'.symm; subst hw2)
    go_ret
    exact ⟨rfl, rfl⟩
  · have hl' : Op.bytesLess a.toList b.toList = false := by rw [hl, h]; rfl
    have he : (a.toList == b.toList) = false := tl_ne (fun e => by rw [e, cmpT_self] at h; omega)
    rw [h]
    clear hl h
    go_enter Try.func56, Try.ntmps56
    go_wp2_with (go_at_call 67; refine (hn _ _).mono ?_; rintro e w' ⟨rfl, hw'⟩; have hw2 := hw'.symm; subst hw2)
    go_ret
    exact ⟨rfl, rfl⟩

set_option maxRecDepth 100000 in
set_option maxHeartbeats 1000000 in
theorem compare_any (w : World) (a1 a2 : Option Addr) (b1 o1 b2 o2 c1 c2 : Nat) (xs ys : List ByteArray) (hx : StrsS w a1 b1 o1 xs) (hy : StrsS w a2 b2 o2 ys) (hlx : xs.length ≤ maxLen) (hly : ys.length ≤ maxLen) :
    Calls Try.prog 38 #[.slice a1 xs.length c1, .slice a2 ys.length c2] w fun e w' => e = .returned (.int .i64 (cmpS xs ys)) ∧ w' = w := by
  unfold maxLen at hlx hly
  have HC := cmpSt_any
  have HX : Hid (StrsS w a1 b1 o1 xs ∧ StrsS w a2 b2 o2 ys) := ⟨hx, hy⟩
  clear hx hy
  go_enter Try.func38, Try.ntmps38
  go_wp2
  go_loopw [11] (fun i wr => ∃ k : Nat, k ≤ xs.length ∧ k ≤ ys.length ∧ i = .int .i64 k ∧ cmpS xs ys = cmpS (xs.drop k) (ys.drop k) ∧ wr = w) (fun i _ => xs.length - (intOf i).toNat)
  case atStart => exact ⟨0, Nat.zero_le _, Nat.zero_le _, rfl, by simp, rfl⟩
  case round =>
    obtain ⟨k, hk, hk2, rfl, htk, rfl⟩ := hrel
    by_cases hlt : k < xs.length
    · obtain rfl := HX.out.1.1 (by omega)
      have hc1 := HX.out.1.2 k hlt
      have hi1 : (k : Int) < (xs.length : Int) := by omega
      by_cases hlt2 : k < ys.length
      · obtain rfl := HX.out.2.1 (by omega)
        have hc2 := HX.out.2.2 k hlt2
        have hi2 : (k : Int) < (ys.length : Int) := by omega
        have HS : Hid (cmpS xs ys = if cmpT xs[k] ys[k] = 0 then cmpS (xs.drop (k + 1)) (ys.drop (k + 1)) else cmpT xs[k] ys[k]) := htk.trans (cmpS_step hlt hlt2)
        generalize xs[k] = x at hc1 HS
        generalize ys[k] = y at hc2 HS
        clear htk
        go_wp2_with (go_at_call 56; refine Calls.mono (HC _ _ _) ?_; rintro e w' ⟨rfl, rfl⟩)
        · go_ret
          have h : (cmpT x y != 0) = true := by assumption
          exact ⟨by rw [HS.out, if_neg (by simpa using h)]; rfl, rfl⟩
        · have h : (cmpT x y != 0) = false := by assumption
          go_roundw
          case rel => exact ⟨k + 1, by omega, by omega, by go_num, by rw [HS.out, if_pos (by simpa using h)], by first | rfl | trivial⟩
          case measure => simp [intOf]; omega
      · have hi2 : ¬ ((k : Int) < (ys.length : Int)) := by omega
        have HS : Hid (cmpS xs ys = 1) := htk.trans (cmpS_left hlt (by omega))
        have hge : (ys.length : Int) ≤ (k : Int) := by omega
        clear htk
        go_wp2
        go_ret
        exact ⟨by rw [HS.out]; rfl, rfl⟩
    · have HS : Hid (cmpS xs ys = if k < ys.length then -1 else 0) := htk.trans (cmpS_end (by omega) hk2)
      clear htk
      by_cases hlt2 : xs.length < ys.length
      · go_wp2
        go_ret
        exact ⟨by rw [HS.out, if_pos (by omega)]; rfl, rfl⟩
      · go_wp2
        go_ret
        exact ⟨by rw [HS.out, if_neg (by omega)]; rfl, rfl⟩

theorem equal_any (w : World) (a1 a2 : Option Addr) (b1 o1 b2 o2 c1 c2 : Nat) (xs ys : List ByteArray) (hx : StrsS w a1 b1 o1 xs) (hy : StrsS w a2 b2 o2 ys) (hlx : xs.length ≤ maxLen) (hly : ys.length ≤ maxLen) :
    Calls Try.prog 40 #[.slice a1 xs.length c1, .slice a2 ys.length c2] w fun e w' => e = .returned (.bool (decide (xs = ys))) ∧ ∃ q, w' = w.drewN q := by
  unfold maxLen at hlx hly
  by_cases h1 : 0 < xs.length
  · by_cases h2 : 0 < ys.length
    · rw [hx.1 h1, hy.1 h2]
      have := Try.slices_Equal_string b1 o1 xs.length c1 b2 o2 ys.length c2 xs ys w (Nat.le_refl _) (Nat.le_refl _) hlx hly (fun j hj => by rw [show xs.getD j ByteArray.empty = xs[j] by simp [List.getD_eq_getElem?_getD, hj]]; exact hx.2 j hj) (fun j hj => by rw [show ys.getD j ByteArray.empty = ys[j] by simp [List.getD_eq_getElem?_getD, hj]]; exact hy.2 j hj)
      rwa [List.take_length, List.take_length] at this
    · have e : ys = [] := List.eq_nil_of_length_eq_zero (by omega)
      subst e
      have hd : decide (xs = []) = false := decide_eq_false (fun e => by rw [e] at h1; simp at h1)
      have hne : ((xs.length : Int) == 0) = false := by simp; intro e; rw [e] at h1; simp at h1
      rw [hd]
      simp only [List.length_nil]
      clear hx hy hd
      generalize xs.length = n at *
      go_enter Try.func40, Try.ntmps40
      go_wp2
      go_ret
      exact ⟨rfl, 0, rfl⟩
  · have e : xs = [] := List.eq_nil_of_length_eq_zero (by omega)
    subst e
    refine (Try.slices_Equal_string_empty a1 a2 c1 ys.length c2 w hly).mono fun e w' h => ⟨?_, 0, by rw [h.2]; rfl⟩
    rw [h.1]
    congr 2
    cases ys <;> simp
theorem clone_any (s : ByteArray) (w : World) (hs : s.size ≤ 281474976710656) : Calls Try.prog 20 #[.string s] w fun e w' => e = .returned (.string s) ∧ Stay w w' := by
  have hc := Try.stringslite_Clone s w hs
  go_enter Try.func20, Try.ntmps20
  go_wp2_with (go_at_call 35; refine hc.mono ?_; rintro e w' ⟨rfl, hb⟩)
  go_ret
  exact ⟨rfl, hb⟩

set_option maxRecDepth 100000 in
set_option maxHeartbeats 2000000 in
theorem copyTuple_any (w : World) {a : Option Addr} {b off c : Nat} {ss : List ByteArray} (h : StrsS w a b off ss) (hl : ss.length * 16 ≤ 140737488355328) (hz : ∀ s ∈ ss, s.size ≤ 281474976710656) :
    Calls Try.prog 22 #[.slice a ss.length c] w fun e w' => ∃ v, e = .returned v ∧ OwnS w.heap.size w' v ss ∧ Stay w w' := by
  obtain ⟨n, hn⟩ : ∃ n, n = ss.length := ⟨_, rfl⟩
  have hmk := run_makeStrs n (by omega) w
  have HO : Hid (OwnS w.heap.size (w.alloc (.cells (madeCells #[.string ⟨#[]⟩] n) 9)) (.slice (some ⟨w.heap.size, 0, none⟩) 0 n) []) := World.ownsRow_made w _ n (Nat.le_refl _) (by unfold maxLen; omega) (by simp [size_madeCells])
  have HS : Hid (StrsS w a b off ss ∧ n = ss.length ∧ (∀ s ∈ ss, s.size ≤ 281474976710656)) := ⟨h, hn, hz⟩
  rw [← hn] at hl ⊢
  clear h hn hz
  go_enter Try.func22, Try.ntmps22
  go_wp2
  go_loopw [3, 11, 5] (fun v i _ wr => ∃ k : Nat, k ≤ n ∧ i = .int .i64 (k : Int) ∧ OwnS w.heap.size wr v (ss.take k) ∧ Stay w wr) (fun _ i _ _ => n - (intOf i).toNat)
  case atStart => exact ⟨0, Nat.zero_le _, rfl, HO.out, Stay.new _ _⟩
  case round =>
    obtain ⟨k, hk, rfl, hown, hst⟩ := hrel
    by_cases hlt : k < n
    · have hki : (k : Int) < (n : Int) := by omega
      have hks : k < ss.length := by rw [← HS.out.2.1]; exact hlt
      obtain rfl := HS.out.1.1 (by omega)
      have hc0 := (HS.out.1.stay hst).2 k hks
      have hcl := fun W => clone_any ss[k] W (HS.out.2.2 _ (List.getElem_mem hks))
      have hE : ss.take (k + 1) = ss.take k ++ [ss[k]] := List.take_succ_eq_append_getElem hks
      generalize ss[k] = s at *
      have HX : Hid (OwnS w.heap.size wr u3 (ss.take k) ∧ Stay w wr ∧ ss.take (k + 1) = ss.take k ++ [s] ∧ (ss.take k).length = k) := ⟨hown, hst, hE, by rw [List.length_take]; omega⟩
      clear hown hst hE HO hmk
      go_wp2_with fail
      refine (hcl _).mono ?_
      rintro e W1 ⟨rfl, hs1⟩
      have hz1 := (HX.out.2.1.trans hs1).size
      obtain ⟨v', W2, hap, ho', hg, hv1, hv2⟩ := ((HX.out.1.stay hs1).stay (Stay.new W1 (.cells #[.string s] 9))).add 39 (strs_new W1 [s] 9) (c := 1) (fun e => by simp at e) (by rw [HX.out.2.2.2, List.length_singleton]; omega) (by simp; omega)
      rw [List.length_singleton] at hap
      have HN : Hid (OwnS w.heap.size W2 v' (ss.take (k + 1)) ∧ Stay w W2) := by
        refine ⟨by rw [HX.out.2.2.1]; exact ho', ?_⟩
        exact (Turn.of_grown hg).stay ((HX.out.2.1.trans hs1).alloc _) (fun j hj e => by have := (HX.out.1.lt j e).1; omega)
      clear ho' hg hv1 hv2 hcl
      go_wp2_with (at_builtin; refine wpList_append_run rfl _ _ 39 39 rfl _ _ rfl rfl hap ?_)
      go_roundw
      case rel => exact ⟨k + 1, by omega, by simp, HN.out.1, HN.out.2⟩
      case measure => simp [intOf]; omega
    · have hki : ¬ (k : Int) < (n : Int) := by omega
      have hE : ss.take k = ss := List.take_of_length_le (by rw [← HS.out.2.1]; omega)
      rw [hE] at hown
      have HX : Hid (OwnS w.heap.size wr u3 ss ∧ Stay w wr) := ⟨hown, hst⟩
      clear hown hst hE
      go_wp2
      go_ret
      exact ⟨u3, rfl, HX.out⟩
end Go.Proofs.Ytbbgembkdhcidaa
