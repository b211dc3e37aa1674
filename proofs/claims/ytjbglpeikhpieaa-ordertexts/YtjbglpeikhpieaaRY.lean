/- OrderTexts: its walk. -/
import Derived.Test.YtjbglpeikhpieaaRX
import Derived.Test.YtjbglpeikhpieaaRW
namespace Go.Proofs.Ytjbglpeikhpieaa
open Go.RowKit Go.Maps

/-- Two lists of texts are lent; nothing that was there before has turned. -/
def BothT (w W : World) (g1 k1 g2 k2 : Nat) (xs ys : List ByteArray) : Prop := Stay w W ∧ LentT w.heap.size W g1 k1 xs ∧ LentT w.heap.size W g2 k2 ys
theorem BothT.stay {w W W' : World} {g1 k1 g2 k2 : Nat} {xs ys : List ByteArray} (h : BothT w W g1 k1 g2 k2 xs ys) (hs : Stay W W') : BothT w W' g1 k1 g2 k2 xs ys :=
  ⟨h.1.trans hs, h.2.1.stay hs, h.2.2.stay hs⟩

set_option maxRecDepth 100000 in
set_option maxHeartbeats 4000000 in
theorem texts_walk (w : World) (a1 a2 a3 : Option Addr) (b1 o1 b2 o2 b3 o3 c1 c2 c3 : Nat) (xs ys zs : List ByteArray) (h1 : StrsS w a1 b1 o1 xs) (h2 : StrsS w a2 b2 o2 ys) (h3 : StrsS w a3 b3 o3 zs)
    (n1 : a1 = none → c1 = 0 ∧ xs = []) (n2 : a2 = none → c2 = 0 ∧ ys = []) (l1 : (xs.length + 3) * 16 ≤ 140737488355328) (l2 : (ys.length + 3) * 16 ≤ 140737488355328) (l3 : (zs.length + 3) * 16 ≤ 140737488355328) :
    Calls Try.prog 3 #[.slice a1 xs.length c1, .slice a2 ys.length c2, .slice a3 zs.length c3] w fun e w' => e = .returned (.bool true) ∧ Stay w w' := by
  have HA : Hid (StrsS w a1 b1 o1 xs ∧ StrsS w a2 b2 o2 ys ∧ StrsS w a3 b3 o3 zs) := ⟨h1, h2, h3⟩
  have HB : Hid (xs.length ≤ maxLen ∧ ys.length ≤ maxLen ∧ zs.length ≤ maxLen) := by unfold maxLen; exact ⟨by omega, by omega, by omega⟩
  have hx1 := lendTexts_any w a1 b1 o1 c1 xs h1 n1 l1
  have HY1 : Hid (∀ W, Stay w W → Calls Try.prog 9 #[.slice a2 ys.length c2] W fun e w' => ∃ g c, e = .returned (.slice (some ⟨g, 0, none⟩) ys.length c) ∧ LentT W.heap.size w' g c ys ∧ Stay W w') := fun W hW => lendTexts_any W a2 b2 o2 c2 ys (h2.stay hW) n2 l2
  have hlx : (xs.length : Int) < 4611686018427387904 := by omega
  clear h1 h2 h3 n1 n2 l1 l2 l3
  go_enter Try.func3, Try.ntmps3
  go_wp2_with fail
  refine hx1.mono ?_
  rintro e w1 ⟨g1, k1, rfl, hL1, s1⟩
  have S1 : Hid (Stay w w1 ∧ LentT w.heap.size w1 g1 k1 xs) := ⟨s1, hL1⟩
  clear hx1 s1 hL1
  have hy1 := HY1.out w1 S1.out.1
  go_wp2_with fail
  refine hy1.mono ?_
  rintro e w2 ⟨g2, k2, rfl, hL2, s2⟩
  have S2 : Hid (BothT w w2 g1 k1 g2 k2 xs ys) := ⟨S1.out.1.trans s2, S1.out.2.stay s2, by
    refine ⟨hL2.1, ?_⟩
    rcases hL2.2 with hx | ⟨b, c, cur, hv, hb, rest⟩
    · exact .inl hx
    · exact .inr ⟨b, c, cur, hv, Nat.le_trans S1.out.1.size hb, rest⟩⟩
  clear hy1 HY1 S1 s2 hL2
  go_wp2_with fail
  refine (oTuples_any w2 _ _ _ _ _ _ k1 k2 xs ys S2.out.2.1.strs S2.out.2.2.strs HB.out.1 HB.out.2.1).mono ?_
  rintro e w9 ⟨rfl, hw⟩
  have hw' := hw.symm; subst hw'
  clear hw
  go_wp2_with fail
  refine (rTuples_any w2 a1 a2 b1 o1 b2 o2 c1 c2 xs ys (HA.out.1.stay S2.out.1) (HA.out.2.1.stay S2.out.1) HB.out.1 HB.out.2.1).mono ?_
  rintro e w3 ⟨rfl, hs⟩
  have S3 : Hid (BothT w w3 g1 k1 g2 k2 xs ys) := S2.out.stay hs
  clear hs S2
  obtain ⟨cxy, hcxy⟩ : ∃ z, z = cmpS xs ys := ⟨_, rfl⟩
  obtain ⟨cyz, hcyz⟩ : ∃ z, z = cmpS ys zs := ⟨_, rfl⟩
  obtain ⟨cxz, hcxz⟩ : ∃ z, z = cmpS xs zs := ⟨_, rfl⟩
  have HCX : Hid (cxy = cmpS xs ys ∧ cmpS ys xs = - cxy ∧ (cxy = -1 ∨ cxy = 0 ∨ cxy = 1) ∧ cyz = cmpS ys zs ∧ cxz = cmpS xs zs ∧ True) := ⟨hcxy, by rw [hcxy, cmpS_swap], by rw [hcxy]; exact cmpS_three _ _, hcyz, hcxz, trivial⟩
  clear hcyz hcxz
  rw [← hcxy]
  clear hcxy
  have hcr : -1 ≤ cxy ∧ cxy ≤ 1 := by have := HCX.out.2.2.1; omega
  go_wp2_with fail
  refine (oTuples_any w3 _ _ _ _ _ _ k2 k1 ys xs S3.out.2.2.strs S3.out.2.1.strs HB.out.2.1 HB.out.1).mono ?_
  rintro e w9 ⟨rfl, hw⟩
  have hw' := hw.symm; subst hw'
  clear hw
  rw [HCX.out.2.1]
  go_wp2_with fail
  refine (oTuples_any w3 _ _ _ _ _ _ k1 k2 xs ys S3.out.2.1.strs S3.out.2.2.strs HB.out.1 HB.out.2.1).mono ?_
  rintro e w9 ⟨rfl, hw⟩
  have hw' := hw.symm; subst hw'
  clear hw
  rw [← HCX.out.1]
  go_wp2_with fail
  refine (keptTexts_any w3 g1 k1 a1 b1 o1 c1 _ xs S3.out.2.1 (HA.out.1.stay S3.out.1)).mono ?_
  rintro e w4 ⟨rfl, hs⟩
  have S4 : Hid (BothT w w4 g1 k1 g2 k2 xs ys) := S3.out.stay hs
  clear hs S3
  go_wp2_with fail
  refine (keptTexts_any w4 g2 k2 a2 b2 o2 c2 _ ys S4.out.2.2 (HA.out.2.1.stay S4.out.1)).mono ?_
  rintro e w5 ⟨rfl, hs⟩
  have S5 : Hid (BothT w w5 g1 k1 g2 k2 xs ys) := S4.out.stay hs
  clear hs S4
  have hcase : (¬ cxy ≤ 0) ∨ (cxy ≤ 0 ∧ ¬ cyz ≤ 0) ∨ (cxy ≤ 0 ∧ cyz ≤ 0 ∧ ¬ 0 < cxz) := by
    by_cases q1 : cxy ≤ 0
    · by_cases q2 : cyz ≤ 0
      · refine .inr (.inr ⟨q1, q2, ?_⟩)
        have h := cmpS_trans xs ys zs (by rw [← HCX.out.1]; exact q1) (by rw [← HCX.out.2.2.2.1]; exact q2)
        rw [← HCX.out.2.2.2.2.1] at h
        omega
      · exact .inr (.inl ⟨q1, q2⟩)
    · exact .inl q1
  rcases hcase with q1 | ⟨q1, q2⟩ | ⟨q1, q2, q3⟩
  · skip
    have p1 : decide (cxy ≤ 0) = false := decide_eq_false q1
    clear q1 hcr
    go_wp2_with fail
    refine (oTuples_any w5 a1 a2 b1 o1 b2 o2 c1 c2 xs ys (HA.out.1.stay S5.out.1) (HA.out.2.1.stay S5.out.1) HB.out.1 HB.out.2.1).mono ?_
    rintro e w9 ⟨rfl, hw⟩
    have hw' := hw.symm; subst hw'
    clear hw
    rw [← HCX.out.1]
    go_wp2_with fail
    go_loopw [9] (fun i wr => ∃ k : Nat, k ≤ xs.length ∧ i = .int .i64 k ∧ Stay w wr) (fun i _ => xs.length - (intOf i).toNat)
    case atStart => exact ⟨0, Nat.zero_le _, rfl, S5.out.1⟩
    case round =>
      obtain ⟨k, hk, rfl, hst⟩ := hrel
      have HW : Hid (Stay w wr) := hst
      have wk := works_any wr
      by_cases hlt : k < xs.length
      · have hi1 : (k : Int) < (xs.length : Int) := by omega
        have hb1 : decide ((k : Int) < (xs.length : Int)) = true := by simpa using hi1
        obtain rfl := HA.out.1.1 (by omega)
        have hcx := hst.cell (HA.out.1.2 k hlt)
        by_cases hlt2 : k < ys.length
        · have hi2 : (k : Int) < (ys.length : Int) := by omega
          have hb2 : decide ((k : Int) < (ys.length : Int)) = true := by simpa using hi2
          obtain rfl := HA.out.2.1.1 (by omega)
          have hcy := hst.cell (HA.out.2.1.2 k hlt2)
          generalize xs[k] = x at hcx
          generalize ys[k] = y at hcy
          have H1 : ∀ W, Calls Try.prog 13 #[.string x, .string y] W fun e w' => e = .returned (.int .i64 (cmpT x y)) ∧ w' = W := fun W => oTexts_any x y W
          have H2 : ∀ W, Calls Try.prog 14 #[.string x, .string y] W fun e w' => e = .returned (.int .i64 (cmpT x y)) ∧ w' = W := fun W => rTexts_any x y W
          clear hst wk
          go_wp2
          go_quiet ((first | (go_at_call 13; exact Calls.quiet_of_same (H1 _)) | (go_at_call 14; exact Calls.quiet_of_same (H2 _))))
          clear H1 H2
          go_wp2
          go_roundw
          case rel => exact ⟨k + 1, by omega, by go_num, HW.out.trans (Stay.drewN _ _)⟩
          case measure => simp [intOf]; omega
        · have hi2 : ¬ (k : Int) < (ys.length : Int) := by omega
          clear hst hcx
          go_wp2_with fail
          refine wk.mono ?_
          rintro e w6 ⟨rfl, hs⟩
          have S6 : Hid (Stay w w6) := HW.out.trans hs
          clear hs wk
          go_wp2
          go_ret
          exact ⟨rfl, S6.out⟩
      · have hi1 : ¬ (k : Int) < (xs.length : Int) := by omega
        clear hst
        go_wp2_with fail
        refine wk.mono ?_
        rintro e w6 ⟨rfl, hs⟩
        have S6 : Hid (Stay w w6) := HW.out.trans hs
        clear hs wk
        go_wp2
        go_ret
        exact ⟨rfl, S6.out⟩
  · skip
    have p1 : decide (cxy ≤ 0) = true := decide_eq_true q1
    have p2 : decide (cyz ≤ 0) = false := decide_eq_false q2
    clear q1 q2 hcr
    go_wp2_with fail
    refine (oTuples_any w5 a1 a2 b1 o1 b2 o2 c1 c2 xs ys (HA.out.1.stay S5.out.1) (HA.out.2.1.stay S5.out.1) HB.out.1 HB.out.2.1).mono ?_
    rintro e w9 ⟨rfl, hw⟩
    have hw' := hw.symm; subst hw'
    clear hw
    rw [← HCX.out.1]
    go_wp2_with fail
    refine (oTuples_any w5 a2 a3 b2 o2 b3 o3 c2 c3 ys zs (HA.out.2.1.stay S5.out.1) (HA.out.2.2.stay S5.out.1) HB.out.2.1 HB.out.2.2).mono ?_
    rintro e w9 ⟨rfl, hw⟩
    have hw' := hw.symm; subst hw'
    clear hw
    rw [← HCX.out.2.2.2.1]
    go_wp2_with fail
    go_loopw [9] (fun i wr => ∃ k : Nat, k ≤ xs.length ∧ i = .int .i64 k ∧ Stay w wr) (fun i _ => xs.length - (intOf i).toNat)
    case atStart => exact ⟨0, Nat.zero_le _, rfl, S5.out.1⟩
    case round =>
      obtain ⟨k, hk, rfl, hst⟩ := hrel
      have HW : Hid (Stay w wr) := hst
      have wk := works_any wr
      by_cases hlt : k < xs.length
      · have hi1 : (k : Int) < (xs.length : Int) := by omega
        have hb1 : decide ((k : Int) < (xs.length : Int)) = true := by simpa using hi1
        obtain rfl := HA.out.1.1 (by omega)
        have hcx := hst.cell (HA.out.1.2 k hlt)
        by_cases hlt2 : k < ys.length
        · have hi2 : (k : Int) < (ys.length : Int) := by omega
          have hb2 : decide ((k : Int) < (ys.length : Int)) = true := by simpa using hi2
          obtain rfl := HA.out.2.1.1 (by omega)
          have hcy := hst.cell (HA.out.2.1.2 k hlt2)
          generalize xs[k] = x at hcx
          generalize ys[k] = y at hcy
          have H1 : ∀ W, Calls Try.prog 13 #[.string x, .string y] W fun e w' => e = .returned (.int .i64 (cmpT x y)) ∧ w' = W := fun W => oTexts_any x y W
          have H2 : ∀ W, Calls Try.prog 14 #[.string x, .string y] W fun e w' => e = .returned (.int .i64 (cmpT x y)) ∧ w' = W := fun W => rTexts_any x y W
          clear hst wk
          go_wp2
          go_quiet ((first | (go_at_call 13; exact Calls.quiet_of_same (H1 _)) | (go_at_call 14; exact Calls.quiet_of_same (H2 _))))
          clear H1 H2
          go_wp2
          go_roundw
          case rel => exact ⟨k + 1, by omega, by go_num, HW.out.trans (Stay.drewN _ _)⟩
          case measure => simp [intOf]; omega
        · have hi2 : ¬ (k : Int) < (ys.length : Int) := by omega
          clear hst hcx
          go_wp2_with fail
          refine wk.mono ?_
          rintro e w6 ⟨rfl, hs⟩
          have S6 : Hid (Stay w w6) := HW.out.trans hs
          clear hs wk
          go_wp2
          go_ret
          exact ⟨rfl, S6.out⟩
      · have hi1 : ¬ (k : Int) < (xs.length : Int) := by omega
        clear hst
        go_wp2_with fail
        refine wk.mono ?_
        rintro e w6 ⟨rfl, hs⟩
        have S6 : Hid (Stay w w6) := HW.out.trans hs
        clear hs wk
        go_wp2
        go_ret
        exact ⟨rfl, S6.out⟩
  · skip
    have p1 : decide (cxy ≤ 0) = true := decide_eq_true q1
    have p2 : decide (cyz ≤ 0) = true := decide_eq_true q2
    have p3 : decide (0 < cxz) = false := decide_eq_false q3
    clear q1 q2 q3 hcr
    go_wp2_with fail
    refine (oTuples_any w5 a1 a2 b1 o1 b2 o2 c1 c2 xs ys (HA.out.1.stay S5.out.1) (HA.out.2.1.stay S5.out.1) HB.out.1 HB.out.2.1).mono ?_
    rintro e w9 ⟨rfl, hw⟩
    have hw' := hw.symm; subst hw'
    clear hw
    rw [← HCX.out.1]
    go_wp2_with fail
    refine (oTuples_any w5 a2 a3 b2 o2 b3 o3 c2 c3 ys zs (HA.out.2.1.stay S5.out.1) (HA.out.2.2.stay S5.out.1) HB.out.2.1 HB.out.2.2).mono ?_
    rintro e w9 ⟨rfl, hw⟩
    have hw' := hw.symm; subst hw'
    clear hw
    rw [← HCX.out.2.2.2.1]
    go_wp2_with fail
    refine (oTuples_any w5 a1 a3 b1 o1 b3 o3 c1 c3 xs zs (HA.out.1.stay S5.out.1) (HA.out.2.2.stay S5.out.1) HB.out.1 HB.out.2.2).mono ?_
    rintro e w9 ⟨rfl, hw⟩
    have hw' := hw.symm; subst hw'
    clear hw
    rw [← HCX.out.2.2.2.2.1]
    go_wp2_with fail
    go_loopw [9] (fun i wr => ∃ k : Nat, k ≤ xs.length ∧ i = .int .i64 k ∧ Stay w wr) (fun i _ => xs.length - (intOf i).toNat)
    case atStart => exact ⟨0, Nat.zero_le _, rfl, S5.out.1⟩
    case round =>
      obtain ⟨k, hk, rfl, hst⟩ := hrel
      have HW : Hid (Stay w wr) := hst
      have wk := works_any wr
      by_cases hlt : k < xs.length
      · have hi1 : (k : Int) < (xs.length : Int) := by omega
        have hb1 : decide ((k : Int) < (xs.length : Int)) = true := by simpa using hi1
        obtain rfl := HA.out.1.1 (by omega)
        have hcx := hst.cell (HA.out.1.2 k hlt)
        by_cases hlt2 : k < ys.length
        · have hi2 : (k : Int) < (ys.length : Int) := by omega
          have hb2 : decide ((k : Int) < (ys.length : Int)) = true := by simpa using hi2
          obtain rfl := HA.out.2.1.1 (by omega)
          have hcy := hst.cell (HA.out.2.1.2 k hlt2)
          generalize xs[k] = x at hcx
          generalize ys[k] = y at hcy
          have H1 : ∀ W, Calls Try.prog 13 #[.string x, .string y] W fun e w' => e = .returned (.int .i64 (cmpT x y)) ∧ w' = W := fun W => oTexts_any x y W
          have H2 : ∀ W, Calls Try.prog 14 #[.string x, .string y] W fun e w' => e = .returned (.int .i64 (cmpT x y)) ∧ w' = W := fun W => rTexts_any x y W
          clear hst wk
          go_wp2
          go_quiet ((first | (go_at_call 13; exact Calls.quiet_of_same (H1 _)) | (go_at_call 14; exact Calls.quiet_of_same (H2 _))))
          clear H1 H2
          go_wp2
          go_roundw
          case rel => exact ⟨k + 1, by omega, by go_num, HW.out.trans (Stay.drewN _ _)⟩
          case measure => simp [intOf]; omega
        · have hi2 : ¬ (k : Int) < (ys.length : Int) := by omega
          clear hst hcx
          go_wp2_with fail
          refine wk.mono ?_
          rintro e w6 ⟨rfl, hs⟩
          have S6 : Hid (Stay w w6) := HW.out.trans hs
          clear hs wk
          go_wp2
          go_ret
          exact ⟨rfl, S6.out⟩
      · have hi1 : ¬ (k : Int) < (xs.length : Int) := by omega
        clear hst
        go_wp2_with fail
        refine wk.mono ?_
        rintro e w6 ⟨rfl, hs⟩
        have S6 : Hid (Stay w w6) := HW.out.trans hs
        clear hs wk
        go_wp2
        go_ret
        exact ⟨rfl, S6.out⟩
end Go.Proofs.Ytjbglpeikhpieaa
