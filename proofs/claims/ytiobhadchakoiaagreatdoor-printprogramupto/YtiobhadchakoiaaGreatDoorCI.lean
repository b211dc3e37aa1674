/- What is in form, by the document: Atom, Literal, FormedRule (layer 11). -/
import Derived.Test.YtiobhadchakoiaaGreatDoorPP
namespace Go.Proofs.YtiobhadchakoiaaGreatDoor
open Go.RowKit Go.Maps

set_option maxRecDepth 100000 in
set_option maxHeartbeats 2000000 in
theorem y11Atom_any (x : At) (w : World) (hM : x.In w) : Calls Tryz.prog 56 #[x.v] w fun e w' => e = .returned (.bool x.ok) ∧ Stay w w' := by
  have hs0 : Stay w (w.alloc (.cells #[.string x.pred, x.sl] 45)) := Stay.new w _
  have hnm := y_Name x.pred (w.alloc (.cells #[.string x.pred, x.sl] 45))
  have HM : Hid (x.In w) := hM
  have HC : Hid (∀ W, Stay (w.alloc (.cells #[.string x.pred, x.sl] 45)) W → W.cell? ⟨w.heap.size, 1, none⟩ = some x.sl) := fun W hW => hW.cell (by simp)
  have HS : Hid (Stay w (w.alloc (.cells #[.string x.pred, x.sl] 45))) := hs0
  obtain ⟨p, a, bk, off, cap, ts⟩ := x
  have HM : Hid (TmsS w a bk off ts) := hM
  have HA : Hid (0 < ts.length → a = some ⟨bk, off, none⟩) := hM.1
  unfold At.v At.ok At.sl at *
  dsimp only at *
  clear hM hs0
  cases hnb : nameB p.data.toList
  · rw [hnb] at hnm
    simp only [Bool.false_and]
    clear hnb
    go_enter Tryz.func56, Tryz.ntmps56
    go_wp2_with (first | (go_at_call 55; refine hnm.mono ?_; rintro e w' ⟨rfl, hw'⟩; subst hw'))
    go_ret
    exact ⟨rfl, HS.out⟩
  · rw [hnb] at hnm
    simp only [Bool.true_and]
    clear hnb
    by_cases h16 : ts.length ≤ 16
    · rw [decide_eq_true h16]
      simp only [Bool.true_and]
      have h16i : ¬ (16 : Int) < (ts.length : Int) := by omega
      generalize hm : ts.length = n at *
      have HN : Hid (ts.length = n) := hm
      clear hm
      go_enter Tryz.func56, Tryz.ntmps56
      go_wp2_with (first | (go_at_call 55; refine hnm.mono ?_; rintro e w' ⟨rfl, hw'⟩; have hw2 := hw'.symm; subst hw2))
      go_loopw [3] (fun i wr => Stay (w.alloc (.cells #[.string p, .slice a n cap] 45)) wr ∧ ∃ k : Nat, k ≤ n ∧ i = .int .i64 (k : Int) ∧ (ts.take k).all Tm.ok = true) (fun i _ => n - (intOf i).toNat)
      case atStart => exact ⟨Stay.refl _, 0, Nat.zero_le _, rfl, by simp⟩
      case round =>
        obtain ⟨hst, k, hk, rfl, hall⟩ := hrel
        have d1 := HC.out wr hst
        by_cases hlt : k < n
        · have hkt : k < ts.length := by rw [HN.out]; exact hlt
          have hki : (k : Int) < (n : Int) := by omega
          obtain rfl := HA.out (by omega)
          obtain ⟨e0, e1⟩ := ((HM.out.stay HS.out).stay hst).2 k hkt
          have htm := y11Term_any ts[k] wr
          have HX : Hid ((ts[k].ok = true → (ts.take (k + 1)).all Tm.ok = true) ∧ (ts[k].ok = false → ts.all Tm.ok = false)) := ⟨fun h => all_next hkt hall h, fun h => all_fails hkt h⟩
          have HS1 : Hid (Stay (w.alloc (.cells #[.string p, .slice (some ⟨bk, off, none⟩) n cap] 45)) wr) := hst
          clear hall hst
          generalize ts[k] = t at *
          unfold Tm.v at htm
          generalize t.ok = ok at *
          obtain ⟨va, s⟩ := t
          dsimp only at e0 e1 htm
          cases ok
          · go_wp2_with (first | (go_at_call 69; refine htm.mono ?_; rintro e W1 ⟨rfl, hs1⟩))
            go_ret
            exact ⟨by rw [HX.out.2 (by trivial)]; rfl, HS.out.trans (HS1.out.trans hs1)⟩
          · go_wp2_with (first | (go_at_call 69; refine htm.mono ?_; rintro e W1 ⟨rfl, hs1⟩))
            go_roundw
            case rel => exact ⟨HS1.out.trans hs1, k + 1, by omega, by simp, HX.out.1 (by trivial)⟩
            case measure => simp [intOf]; omega
        · obtain rfl : k = n := by omega
          have hge : ¬ (k : Int) < (k : Int) := by omega
          have HX : Hid (ts.all Tm.ok = true) := by rw [← HN.out, List.take_length] at hall; exact hall
          have HS1 : Hid (Stay (w.alloc (.cells #[.string p, .slice a k cap] 45)) wr) := hst
          clear hall hst
          go_wp2
          go_ret
          exact ⟨by rw [HX.out]; rfl, HS.out.trans HS1.out⟩
    · rw [decide_eq_false h16]
      simp only [Bool.false_and]
      have h16i : (16 : Int) < (ts.length : Int) := by omega
      generalize ts.length = n at *
      go_enter Tryz.func56, Tryz.ntmps56
      go_wp2_with (first | (go_at_call 55; refine hnm.mono ?_; rintro e w' ⟨rfl, hw'⟩; subst hw'))
      go_ret
      exact ⟨rfl, HS.out⟩

theorem and3 (a b c : Bool) : (a && b && c) = (c && a && b) := by cases a <;> cases b <;> cases c <;> rfl
theorem and4 (a b c d : Bool) : (a && b && c && d) = (c && d && a && b) := by cases a <;> cases b <;> cases c <;> cases d <;> rfl
set_option maxRecDepth 100000 in
set_option maxHeartbeats 4000000 in
theorem y11Literal_any (x : Li) (w : World) (hM : x.atom.In w) : Calls Tryz.prog 57 #[x.v] w fun e w' => e = .returned (.bool x.ok) ∧ Stay w w' := by
  obtain ⟨k, ⟨p, a, bk, off, cap, ts⟩, ⟨va1, s1⟩, ⟨va2, s2⟩⟩ := x
  obtain ⟨W0, hW0⟩ : ∃ W0, W0 = (w.alloc (.cells #[.int .i64 k, .string p, .slice a ts.length cap, .bool va1, .string s1, .bool va2, .string s2] 57)).alloc (.cells #[.bool false, .string ⟨#[]⟩] 54) := ⟨_, rfl⟩
  have hs0 : Stay w W0 := by rw [hW0]; exact (Stay.new w _).trans (Stay.new _ _)
  have HC : Hid (∀ W, Stay W0 W → W.cell? ⟨w.heap.size, 0, none⟩ = some (.int .i64 k) ∧ W.cell? ⟨w.heap.size, 1, none⟩ = some (.string p) ∧ W.cell? ⟨w.heap.size, 2, none⟩ = some (.slice a ts.length cap) ∧ W.cell? ⟨w.heap.size, 3, none⟩ = some (.bool va1) ∧ W.cell? ⟨w.heap.size, 4, none⟩ = some (.string s1) ∧ W.cell? ⟨w.heap.size, 5, none⟩ = some (.bool va2) ∧ W.cell? ⟨w.heap.size, 6, none⟩ = some (.string s2) ∧ W.cell? ⟨w.heap.size + 1, 0, none⟩ = some (.bool false) ∧ W.cell? ⟨w.heap.size + 1, 1, none⟩ = some (.string ⟨#[]⟩)) := fun W hW => by
    subst hW0
    exact ⟨hW.cell (by simp), hW.cell (by simp), hW.cell (by simp), hW.cell (by simp), hW.cell (by simp), hW.cell (by simp), hW.cell (by simp), hW.cell (by simp), hW.cell (by simp)⟩
  have hat := y11Atom_any ⟨p, a, bk, off, cap, ts⟩ W0 (TmsS.stay hM hs0)
  have ht1 := y11Term_any ⟨va1, s1⟩ W0
  have ht2 := fun W => y11Term_any ⟨va2, s2⟩ W
  have e1 := fun W => eqlTm va1 false s1 ⟨#[]⟩ W
  have e2 := fun W => eqlTm va2 false s2 ⟨#[]⟩ W
  have HS : Hid (Stay w W0) := hs0
  unfold Li.ok Li.v Tm.zero
  unfold At.v At.sl Tm.v at *
  dsimp only at *
  generalize ((va1 == false) && (s1.toList == (⟨#[]⟩ : ByteArray).toList)) = z1 at *
  generalize ((va2 == false) && (s2.toList == (⟨#[]⟩ : ByteArray).toList)) = z2 at *
  generalize At.ok ⟨p, a, bk, off, cap, ts⟩ = oa at *
  generalize Tm.ok ⟨va1, s1⟩ = o1 at *
  generalize Tm.ok ⟨va2, s2⟩ = o2 at *
  clear hM hs0
  rw [and3 z1 z2 oa, and4]
  have hA : ∀ kk : Int, k = kk → (kk = 1 ∨ kk = 2) → Calls Tryz.prog 57 #[.agg #[.int .i64 k, .string p, .slice a ts.length cap, .bool va1, .string s1, .bool va2, .string s2]] w fun e w' => e = .returned (.bool (oa && z1 && z2)) ∧ Stay w w' := by
    rintro kk rfl hk
    rcases hk with rfl | rfl
    all_goals
      subst hW0
      generalize ts.length = n at *
      clear ht1 ht2
      cases oa
      · go_enter Tryz.func57, Tryz.ntmps57
        go_wp2_with (first | (go_at_call 56; refine hat.mono ?_; rintro e W1 ⟨rfl, hs1⟩))
        go_ret
        exact ⟨rfl, HS.out.trans hs1⟩
      · cases z1
        · go_enter Tryz.func57, Tryz.ntmps57
          go_wp2_with (first | (go_at_call 56; refine hat.mono ?_; rintro e W1 ⟨rfl, hs1⟩; obtain ⟨d0, d1, d2, d3, d4, d5, d6, d7, d8⟩ := HC.out W1 hs1))
          go_ret
          exact ⟨rfl, HS.out.trans hs1⟩
        · go_enter Tryz.func57, Tryz.ntmps57
          go_wp2_with (first | (go_at_call 56; refine hat.mono ?_; rintro e W1 ⟨rfl, hs1⟩; obtain ⟨d0, d1, d2, d3, d4, d5, d6, d7, d8⟩ := HC.out W1 hs1))
          go_ret
          exact ⟨by first | rfl | (simp; done), HS.out.trans hs1⟩
  by_cases h1 : k = 1
  · rw [if_pos (.inl h1)]; exact hA 1 h1 (.inl rfl)
  by_cases h2 : k = 2
  · rw [if_pos (.inr h2)]; exact hA 2 h2 (.inr rfl)
  rw [if_neg (fun h => h.elim h1 h2)]
  have k2 : (k == 2) = false := by simp [h2]
  have k1 : (k == 1) = false := by simp [h1]
  clear hA hat h1 h2 e1 e2
  by_cases h3 : k = 3
  · subst h3
    rw [if_pos rfl]
    have h0b : ∀ b : Bool, decide (ts.length = 0) = b → ((ts.length : Int) == 0) = b := fun b hb => by rw [← hb]; by_cases h : ts.length = 0 <;> simp [h]
    cases o1
    · simp only [Bool.false_and]
      subst hW0
      clear h0b
      generalize ts.length = n at *
      go_enter Tryz.func57, Tryz.ntmps57
      go_wp2_with (first | (go_at_call 69; refine ht1.mono ?_; rintro e W1 ⟨rfl, hs1⟩))
      go_ret
      exact ⟨rfl, HS.out.trans hs1⟩
    · cases o2
      · simp only [Bool.true_and, Bool.false_and]
        subst hW0
        clear h0b
        generalize ts.length = n at *
        go_enter Tryz.func57, Tryz.ntmps57
        go_wp2_with (first
          | (go_at_call 69; refine ht1.mono ?_; rintro e W1 ⟨rfl, hs1⟩; obtain ⟨d0, d1, d2, d3, d4, d5, d6, d7, d8⟩ := HC.out W1 hs1; have H1 : Hid (Stay w W1) := HS.out.trans hs1; clear ht1 hs1)
          | (go_at_call 69; refine (ht2 _).mono ?_; rintro e W2 ⟨rfl, hs2⟩))
        go_ret
        exact ⟨rfl, H1.out.trans hs2⟩
      · simp only [Bool.true_and]
        cases hpe : p.toList.isEmpty
        · simp only [Bool.false_and]
          subst hW0
          clear h0b
          generalize ts.length = n at *
          go_enter Tryz.func57, Tryz.ntmps57
          go_wp2_with (first
            | (go_at_call 69; refine ht1.mono ?_; rintro e W1 ⟨rfl, hs1⟩; obtain ⟨d0, d1, d2, d3, d4, d5, d6, d7, d8⟩ := HC.out W1 hs1; have H1 : Hid (Stay w W1 ∧ Stay _ W1) := ⟨HS.out.trans hs1, hs1⟩; clear ht1 hs1)
            | (go_at_call 69; refine (ht2 _).mono ?_; rintro e W2 ⟨rfl, hs2⟩; obtain ⟨f0, f1, f2, f3, f4, f5, f6, f7, f8⟩ := HC.out W2 (H1.out.2.trans hs2)))
          go_ret
          exact ⟨rfl, H1.out.1.trans hs2⟩
        · simp only [Bool.true_and]
          generalize hb : decide (ts.length = 0) = b
          have h0c := h0b b hb
          subst hW0
          clear h0b hb
          generalize ts.length = n at *
          go_enter Tryz.func57, Tryz.ntmps57
          go_wp2_with (first
            | (go_at_call 69; refine ht1.mono ?_; rintro e W1 ⟨rfl, hs1⟩; obtain ⟨d0, d1, d2, d3, d4, d5, d6, d7, d8⟩ := HC.out W1 hs1; have H1 : Hid (Stay w W1 ∧ Stay _ W1) := ⟨HS.out.trans hs1, hs1⟩; clear ht1 hs1)
            | (go_at_call 69; refine (ht2 _).mono ?_; rintro e W2 ⟨rfl, hs2⟩; obtain ⟨f0, f1, f2, f3, f4, f5, f6, f7, f8⟩ := HC.out W2 (H1.out.2.trans hs2)))
          go_ret
          exact ⟨by first | rfl | (simp [h0c]; done), H1.out.1.trans hs2⟩
  · rw [if_neg h3]
    have k3 : (k == 3) = false := by simp [h3]
    subst hW0
    clear h3
    generalize ts.length = n at *
    go_enter Tryz.func57, Tryz.ntmps57
    go_wp2_with fail
    go_ret
    exact ⟨rfl, HS.out⟩

set_option maxRecDepth 100000 in
set_option maxHeartbeats 2000000 in
theorem y11FormedRule_any (x : Ru) (w : World) (hM : x.In w) : Calls Tryz.prog 40 #[x.v] w fun e w' => e = .returned (.bool x.ok) ∧ Stay w w' := by
  have hs0 : Stay w (w.alloc (.cells #[.string x.head.pred, x.head.sl, .slice x.a x.body.length x.cap] 48)) := Stay.new w _
  have hat := y11Atom_any x.head (w.alloc (.cells #[.string x.head.pred, x.head.sl, .slice x.a x.body.length x.cap] 48)) (TmsS.stay hM.1 hs0)
  have HC : Hid (∀ W, Stay (w.alloc (.cells #[.string x.head.pred, x.head.sl, .slice x.a x.body.length x.cap] 48)) W → W.cell? ⟨w.heap.size, 2, none⟩ = some (.slice x.a x.body.length x.cap)) := fun W hW => hW.cell (by simp)
  have HS : Hid (Stay w (w.alloc (.cells #[.string x.head.pred, x.head.sl, .slice x.a x.body.length x.cap] 48))) := hs0
  obtain ⟨⟨p, ha, hbk, hof, hcap, hts⟩, a, bk, off, cap, ls⟩ := x
  have HM : Hid (LisS w a bk off ls) := hM.2
  have HA : Hid (0 < ls.length → a = some ⟨bk, off, none⟩) := hM.2.1
  unfold Ru.v Ru.ok
  unfold At.v At.sl at *
  dsimp only at *
  generalize At.ok ⟨p, ha, hbk, hof, hcap, hts⟩ = oa at *
  generalize hts.length = hn at *
  clear hM hs0
  cases oa
  · simp only [Bool.and_false, Bool.false_and]
    generalize ls.length = n at *
    go_enter Tryz.func40, Tryz.ntmps40
    go_wp2_with (first | (go_at_call 56; refine hat.mono ?_; rintro e W1 ⟨rfl, hs1⟩))
    go_ret
    exact ⟨rfl, HS.out.trans hs1⟩
  · simp only [Bool.and_true]
    by_cases h256 : ls.length ≤ 256
    · rw [decide_eq_true h256]
      simp only [Bool.true_and]
      have h256i : ¬ (256 : Int) < (ls.length : Int) := by omega
      generalize hm : ls.length = n at *
      have HN : Hid (ls.length = n) := hm
      clear hm
      go_enter Tryz.func40, Tryz.ntmps40
      go_wp2_with (first | (go_at_call 56; refine hat.mono ?_; rintro e W1 ⟨rfl, hs1⟩; have d0 := HC.out W1 hs1; have HW1 : Hid (Stay (w.alloc (.cells #[.string p, .slice ha hn hcap, .slice a n cap] 48)) W1) := hs1; clear hs1))
      go_loopw [3] (fun i wr => Stay (w.alloc (.cells #[.string p, .slice ha hn hcap, .slice a n cap] 48)) wr ∧ ∃ k : Nat, k ≤ n ∧ i = .int .i64 (k : Int) ∧ (ls.take k).all Li.ok = true) (fun i _ => n - (intOf i).toNat)
      case atStart => exact ⟨HW1.out, 0, Nat.zero_le _, rfl, by simp⟩
      case round =>
        obtain ⟨hst, k, hk, rfl, hall⟩ := hrel
        have d1 := HC.out wr hst
        by_cases hlt : k < n
        · have hkt : k < ls.length := by rw [HN.out]; exact hlt
          have hki : (k : Int) < (n : Int) := by omega
          obtain rfl := HA.out (by omega)
          obtain ⟨e0, e1, e2, e3, e4, e5, e6, e7⟩ := ((HM.out.stay HS.out).stay hst).2 k hkt
          have htm := y11Literal_any ls[k] wr e7
          have HX : Hid ((ls[k].ok = true → (ls.take (k + 1)).all Li.ok = true) ∧ (ls[k].ok = false → ls.all Li.ok = false)) := ⟨fun h => all_nextL hkt hall h, fun h => all_failsL hkt h⟩
          have HS1 : Hid (Stay (w.alloc (.cells #[.string p, .slice ha hn hcap, .slice (some ⟨bk, off, none⟩) n cap] 48)) wr) := hst
          clear hall hst e7
          generalize ls[k] = t at *
          unfold Li.v at htm
          generalize t.ok = ok at *
          obtain ⟨kd, ⟨tp, ta, tb, to, tc, tts⟩, ⟨va1, s1⟩, ⟨va2, s2⟩⟩ := t
          unfold At.sl at e2 htm
          dsimp only at e0 e1 e2 e3 e4 e5 e6 htm
          generalize tts.length = tn at *
          cases ok
          · go_wp2_with (first | (go_at_call 57; refine htm.mono ?_; rintro e W2 ⟨rfl, hs2⟩))
            go_ret
            exact ⟨by rw [HX.out.2 (by trivial)]; rfl, HS.out.trans (HS1.out.trans hs2)⟩
          · go_wp2_with (first | (go_at_call 57; refine htm.mono ?_; rintro e W2 ⟨rfl, hs2⟩))
            go_roundw
            case rel => exact ⟨HS1.out.trans hs2, k + 1, by omega, by simp, HX.out.1 (by trivial)⟩
            case measure => simp [intOf]; omega
        · obtain rfl : k = n := by omega
          have hge : ¬ (k : Int) < (k : Int) := by omega
          have HX : Hid (ls.all Li.ok = true) := by rw [← HN.out, List.take_length] at hall; exact hall
          have HS1 : Hid (Stay (w.alloc (.cells #[.string p, .slice ha hn hcap, .slice a k cap] 48)) wr) := hst
          clear hall hst
          go_wp2
          go_ret
          exact ⟨by rw [HX.out]; rfl, HS.out.trans HS1.out⟩
    · rw [decide_eq_false h256]
      simp only [Bool.false_and]
      have h256i : (256 : Int) < (ls.length : Int) := by omega
      generalize ls.length = n at *
      go_enter Tryz.func40, Tryz.ntmps40
      go_wp2_with (first | (go_at_call 56; refine hat.mono ?_; rintro e W1 ⟨rfl, hs1⟩; have d0 := HC.out W1 hs1))
      go_ret
      exact ⟨rfl, HS.out.trans hs1⟩
end Go.Proofs.YtiobhadchakoiaaGreatDoor
