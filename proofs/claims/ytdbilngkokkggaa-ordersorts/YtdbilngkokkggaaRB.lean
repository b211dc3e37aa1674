/- Texts and Tuples, by the program and by the document. -/
import Derived.Test.YtdbilngkokkggaaRA
namespace Go.Proofs.Ytdbilngkokkggaa
open Go.RowKit Go.Maps

set_option maxRecDepth 100000 in
theorem cmpString_any (a b : ByteArray) (w : World) :
    Calls Try.prog 72 #[.string a, .string b] w fun e w' => e = .returned (.int .i64 (cmpT a b)) ∧ w' = w := by
  go_enter Try.func72, Try.ntmps72
  go_wp2
  rw [run_callFunc_extern Try.func85 (by kernel_rfl) (by kernel_rfl) (by kernel_rfl) (e := Extern.BytealgCompare.compare) (by kernel_rfl), Lib.run_compareString]
  simp only [Result.andThen]
  rw [Oper.upon_value]
  go_wp2
  go_ret
  exact ⟨rfl, rfl⟩
theorem strCompare_any (a b : ByteArray) (w : World) :
    Calls Try.prog 47 #[.string a, .string b] w fun e w' => e = .returned (.int .i64 (cmpT a b)) ∧ w' = w := by
  have h := cmpString_any a b w
  go_enter Try.func47, Try.ntmps47
  go_wp2_with fail
  refine h.mono ?_
  rintro e w9 ⟨rfl, hw⟩
  have hw' := hw.symm; subst hw'
  go_wp2
  go_ret
  exact ⟨rfl, rfl⟩
theorem oTexts_any (a b : ByteArray) (w : World) :
    Calls Try.prog 13 #[.string a, .string b] w fun e w' => e = .returned (.int .i64 (cmpT a b)) ∧ w' = w := by
  have h := strCompare_any a b w
  go_enter Try.func13, Try.ntmps13
  go_wp2_with fail
  refine h.mono ?_
  rintro e w9 ⟨rfl, hw⟩
  have hw' := hw.symm; subst hw'
  go_wp2
  go_ret
  exact ⟨rfl, rfl⟩

theorem bl_eq : ∀ a b : List UInt8, Op.bytesLess a b = decide (Lib.compareBytes a b < 0)
  | [], [] => by simp [Op.bytesLess, Lib.compareBytes]
  | _ :: _, [] => by simp [Op.bytesLess, Lib.compareBytes]
  | [], _ :: _ => by simp [Op.bytesLess, Lib.compareBytes]
  | x :: a, y :: b => by
    unfold Op.bytesLess Lib.compareBytes
    by_cases h1 : x < y
    · simp [h1]
    · by_cases h2 : y < x
      · have h3 : (x == y) = false := by
          rw [beq_eq_false_iff_ne]; rintro rfl; exact UInt8.lt_irrefl _ h2
        simp [h1, h2, h3]
      · have h3 : x = y := UInt8.le_antisymm (UInt8.not_lt.1 h2) (UInt8.not_lt.1 h1)
        subst h3
        simp [UInt8.lt_irrefl, bl_eq a b]
theorem less_bytes (a b : ByteArray) : Op.bytesLess a.toList b.toList = decide (cmpT a b < 0) := by
  rw [ByteArray.toList_eq, ByteArray.toList_eq]; exact bl_eq _ _

theorem rTexts_any (a b : ByteArray) (w : World) :
    Calls Try.prog 14 #[.string a, .string b] w fun e w' => e = .returned (.int .i64 (cmpT a b)) ∧ w' = w := by
  have hl := less_bytes a b
  rcases cmpT_three a b with h | h | h
  · have hl' : Op.bytesLess a.toList b.toList = true := by rw [hl, h]; rfl
    rw [h]
    clear hl h
    go_enter Try.func14, Try.ntmps14
    go_wp2
    go_ret
    exact ⟨rfl, rfl⟩
  · have hl' : Op.bytesLess a.toList b.toList = false := by rw [hl, h]; rfl
    have he : (a.toList == b.toList) = true := by rw [cmpT_eq h]; simp
    rw [h]
    clear hl h
    go_enter Try.func14, Try.ntmps14
    go_wp2
    go_ret
    exact ⟨rfl, rfl⟩
  · have hl' : Op.bytesLess a.toList b.toList = false := by rw [hl, h]; rfl
    have he : (a.toList == b.toList) = false := tl_ne (fun e => by rw [e, cmpT_self] at h; omega)
    rw [h]
    clear hl h
    go_enter Try.func14, Try.ntmps14
    go_wp2
    go_ret
    exact ⟨rfl, rfl⟩

set_option maxRecDepth 100000 in
set_option maxHeartbeats 1000000 in
theorem compareFunc_any (w : World) (a1 a2 : Option Addr) (b1 o1 b2 o2 c1 c2 : Nat) (xs ys : List ByteArray) (hx : StrsS w a1 b1 o1 xs) (hy : StrsS w a2 b2 o2 ys) (hlx : xs.length ≤ maxLen) (hly : ys.length ≤ maxLen) :
    Calls Try.prog 45 #[.slice a1 xs.length c1, .slice a2 ys.length c2, .func (.func 13) #[] #[]] w fun e w' => e = .returned (.int .i64 (cmpS xs ys)) ∧ w' = w := by
  unfold maxLen at hlx hly
  have HC := oTexts_any
  have HX : Hid (StrsS w a1 b1 o1 xs ∧ StrsS w a2 b2 o2 ys) := ⟨hx, hy⟩
  clear hx hy
  go_enter Try.func45, Try.ntmps45
  go_wp2
  go_loopw [13] (fun i wr => ∃ k : Nat, k ≤ xs.length ∧ k ≤ ys.length ∧ i = .int .i64 k ∧ cmpS xs ys = cmpS (xs.drop k) (ys.drop k) ∧ wr = w) (fun i _ => xs.length - (intOf i).toNat)
  case atStart => exact ⟨0, Nat.zero_le _, Nat.zero_le _, rfl, by simp, rfl⟩
  case round =>
    obtain ⟨k, hk, hk2, rfl, htk, rfl⟩ := hrel
    by_cases hlt : k < xs.length
    · obtain rfl := HX.out.1.1 (by omega)
      have hc1 := HX.out.1.2 k hlt
      have hi1 : (k : Int) < (xs.length : Int) := by omega
      by_cases hlt2 : k < ys.length
      · obtain rfl := HX.out.2.1 (by omega)
        have hc2 := HX.out.2.2 k hlt2
        have hi2 : (k : Int) < (ys.length : Int) := by omega
        have HS : Hid (cmpS xs ys = if cmpT xs[k] ys[k] = 0 then cmpS (xs.drop (k + 1)) (ys.drop (k + 1)) else cmpT xs[k] ys[k]) := htk.trans (cmpS_step hlt hlt2)
        generalize xs[k] = x at hc1 HS
        generalize ys[k] = y at hc2 HS
        clear htk
        go_wp2_with (go_at_call 13; refine Calls.mono (HC _ _ _) ?_; rintro e w' ⟨rfl, rfl⟩)
        · go_ret
          have h : (cmpT x y != 0) = true := by assumption
          exact ⟨by rw [HS.out, if_neg (by simpa using h)]; rfl, rfl⟩
        · have h : (cmpT x y != 0) = false := by assumption
          go_roundw
          case rel => exact ⟨k + 1, by omega, by omega, by go_num, by rw [HS.out, if_pos (by simpa using h)], by first | rfl | trivial⟩
          case measure => simp [intOf]; omega
      · have hi2 : ¬ ((k : Int) < (ys.length : Int)) := by omega
        have HS : Hid (cmpS xs ys = 1) := htk.trans (cmpS_left hlt (by omega))
        have hge : (ys.length : Int) ≤ (k : Int) := by omega
        clear htk
        go_wp2
        go_ret
        exact ⟨by rw [HS.out]; rfl, rfl⟩
    · have HS : Hid (cmpS xs ys = if k < ys.length then -1 else 0) := htk.trans (cmpS_end (by omega) hk2)
      clear htk
      by_cases hlt2 : xs.length < ys.length
      · go_wp2
        go_ret
        exact ⟨by rw [HS.out, if_pos (by omega)]; rfl, rfl⟩
      · go_wp2
        go_ret
        exact ⟨by rw [HS.out, if_neg (by omega)]; rfl, rfl⟩

theorem oTuples_any (w : World) (a1 a2 : Option Addr) (b1 o1 b2 o2 c1 c2 : Nat) (xs ys : List ByteArray) (hx : StrsS w a1 b1 o1 xs) (hy : StrsS w a2 b2 o2 ys) (hlx : xs.length ≤ maxLen) (hly : ys.length ≤ maxLen) :
    Calls Try.prog 10 #[.slice a1 xs.length c1, .slice a2 ys.length c2] w fun e w' => e = .returned (.int .i64 (cmpS xs ys)) ∧ w' = w := by
  have h := compareFunc_any w a1 a2 b1 o1 b2 o2 c1 c2 xs ys hx hy hlx hly
  clear hx hy
  go_enter Try.func10, Try.ntmps10
  go_wp2_with fail
  refine h.mono ?_
  rintro e w9 ⟨rfl, hw⟩
  have hw' := hw.symm; subst hw'
  go_wp2
  go_ret
  exact ⟨rfl, rfl⟩

set_option maxRecDepth 100000 in
set_option maxHeartbeats 1000000 in
theorem rTuples_any (w : World) (a1 a2 : Option Addr) (b1 o1 b2 o2 c1 c2 : Nat) (xs ys : List ByteArray) (hx : StrsS w a1 b1 o1 xs) (hy : StrsS w a2 b2 o2 ys) (hlx : xs.length ≤ maxLen) (hly : ys.length ≤ maxLen) :
    Calls Try.prog 11 #[.slice a1 xs.length c1, .slice a2 ys.length c2] w fun e w' => e = .returned (.int .i64 (cmpS xs ys)) ∧ Stay w w' := by
  unfold maxLen at hlx hly
  have HX : Hid (StrsS w a1 b1 o1 xs ∧ StrsS w a2 b2 o2 ys) := ⟨hx, hy⟩
  clear hx hy
  go_enter Try.func11, Try.ntmps11
  go_wp2
  go_loopw [5] (fun i wr => ∃ k : Nat, k ≤ xs.length ∧ k ≤ ys.length ∧ i = .int .i64 k ∧ cmpS xs ys = cmpS (xs.drop k) (ys.drop k) ∧ Stay w wr) (fun i _ => xs.length - (intOf i).toNat)
  case atStart => exact ⟨0, Nat.zero_le _, Nat.zero_le _, rfl, by simp, Stay.refl _⟩
  case round =>
    obtain ⟨k, hk, hk2, rfl, htk, hst⟩ := hrel
    have HW : Hid (Stay w wr) := hst
    by_cases hlt : k < xs.length
    · obtain rfl := HX.out.1.1 (by omega)
      have hc1 := hst.cell (HX.out.1.2 k hlt)
      have hi1 : (k : Int) < (xs.length : Int) := by omega
      have hb1 : decide ((k : Int) < (xs.length : Int)) = true := by simpa using hi1
      by_cases hlt2 : k < ys.length
      · obtain rfl := HX.out.2.1 (by omega)
        have hc2 := hst.cell (HX.out.2.2 k hlt2)
        have hi2 : (k : Int) < (ys.length : Int) := by omega
        have hb2 : decide ((k : Int) < (ys.length : Int)) = true := by simpa using hi2
        have HS : Hid (cmpS xs ys = if cmpT xs[k] ys[k] = 0 then cmpS (xs.drop (k + 1)) (ys.drop (k + 1)) else cmpT xs[k] ys[k]) := htk.trans (cmpS_step hlt hlt2)
        generalize xs[k] = x at hc1 HS
        generalize ys[k] = y at hc2 HS
        have HC : ∀ W, Calls Try.prog 14 #[.string x, .string y] W fun e w' => e = .returned (.int .i64 (cmpT x y)) ∧ w' = W := fun W => rTexts_any x y W
        clear htk hst
        go_wp2
        go_quiet ((go_at_call 14; exact Calls.quiet_of_same (HC _)))
        go_wp2
        · go_ret
          have h : (cmpT x y != 0) = true := by assumption
          exact ⟨by rw [HS.out, if_neg (by simpa using h)]; rfl, HW.out.trans (Stay.drewN _ _)⟩
        · have h : (cmpT x y != 0) = false := by assumption
          go_roundw
          case rel => exact ⟨k + 1, by omega, by omega, by go_num, by rw [HS.out, if_pos (by simpa using h)], HW.out.trans (Stay.drewN _ _)⟩
          case measure => simp [intOf]; omega
      · have hi2 : ¬ ((k : Int) < (ys.length : Int)) := by omega
        have HS : Hid (cmpS xs ys = 1) := htk.trans (cmpS_left hlt (by omega))
        have hge : (ys.length : Int) < (xs.length : Int) := by omega
        have hn1 : ¬ (xs.length : Int) < (ys.length : Int) := by omega
        clear htk hst
        go_wp2
        go_ret
        exact ⟨by rw [HS.out]; rfl, HW.out⟩
    · have HS : Hid (cmpS xs ys = if k < ys.length then -1 else 0) := htk.trans (cmpS_end (by omega) hk2)
      have hi1 : ¬ (k : Int) < (xs.length : Int) := by omega
      clear htk hst
      by_cases hlt2 : xs.length < ys.length
      · have hlt3 : (xs.length : Int) < (ys.length : Int) := by omega
        go_wp2
        go_ret
        exact ⟨by rw [HS.out, if_pos (by omega)]; rfl, HW.out⟩
      · have hlt3 : ¬ (xs.length : Int) < (ys.length : Int) := by omega
        have hlt4 : ¬ (ys.length : Int) < (xs.length : Int) := by omega
        go_wp2
        go_ret
        exact ⟨by rw [HS.out, if_neg (by omega)]; rfl, HW.out⟩

set_option maxRecDepth 100000 in
set_option maxHeartbeats 1000000 in
theorem kTexts_any (w : World) (a1 a2 : Option Addr) (b1 o1 b2 o2 c1 c2 : Nat) (xs : List ByteArray) (hx : StrsS w a1 b1 o1 xs) (hy : StrsS w a2 b2 o2 xs) (hlx : xs.length ≤ maxLen) :
    Calls Try.prog 46 #[.slice a1 xs.length c1, .slice a2 xs.length c2] w fun e w' => e = .returned (.bool true) ∧ ∃ n, w' = w.drewN n := by
  unfold maxLen at hlx
  have hne : ((xs.length : Int) != (xs.length : Int)) = false := by simp
  have HX : Hid (StrsS w a1 b1 o1 xs ∧ StrsS w a2 b2 o2 xs) := ⟨hx, hy⟩
  clear hx hy
  go_enter Try.func46, Try.ntmps46
  go_wp2
  go_loopw [5] (fun i wr => ∃ k : Nat, k ≤ xs.length ∧ i = .int .i64 k ∧ ∃ n, wr = w.drewN n) (fun i _ => xs.length - (intOf i).toNat)
  case atStart => exact ⟨0, Nat.zero_le _, rfl, 0, rfl⟩
  case round =>
    obtain ⟨k, hk, rfl, n, rfl⟩ := hrel
    by_cases hlt : k < xs.length
    · obtain rfl := HX.out.1.1 (by omega)
      obtain rfl := HX.out.2.1 (by omega)
      have hc1 := HX.out.1.2 k hlt
      have hc2 := HX.out.2.2 k hlt
      have hi1 : (k : Int) < (xs.length : Int) := by omega
      generalize xs[k] = y at hc1 hc2
      go_wp2
      go_quiet (fail)
      go_wp2
      go_roundw
      case rel => exact ⟨k + 1, by omega, by go_num, _, rfl⟩
      case measure => simp [intOf]; omega
    · go_wp2
      go_ret
      exact ⟨rfl, n, rfl⟩
end Go.Proofs.Ytdbilngkokkggaa
