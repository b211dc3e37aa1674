/- The document's texts: rule; Atom, Literal, Rule. -/
import Derived.Test.YtiobhadchakoiaaGreatDoorCK
namespace Go.Proofs.YtiobhadchakoiaaGreatDoor
open Go.RowKit Go.Maps

/-- The text so far: k literals are told. -/
def ruT (h : List UInt8) (ls : List Li) (k : Nat) : List UInt8 := h ++ ((if k = 0 then [] else [32, 58, 45, 32]) ++ catL [44, 32] ((ls.take k).map Li.txt))
theorem ruT_next (p : List UInt8) (ls : List Li) (k : Nat) (h : k < ls.length) : ruT p ls (k + 1) = ruT p ls k ++ (if k = 0 then [32, 58, 45, 32] else [44, 32]) ++ ls[k].txt := by
  unfold ruT
  rw [if_neg (by omega), catL_take Li.txt [44, 32] ls k h]
  by_cases hk : k = 0
  · subst hk; simp [catL]
  · rw [if_neg hk, if_neg hk, if_neg hk]; simp
theorem ruT_len {ls : List Li} (hok : ls.all Li.ok = true) (p : List UInt8) : ∀ k, k ≤ ls.length → (ruT p ls k).length ≤ p.length + k * 66014
  | 0, _ => by simp [ruT, catL]
  | k + 1, h => by
    have ih := ruT_len hok p k (by omega)
    have ht := Li.txt_len (all_at hok (k := k) (by omega))
    rw [ruT_next p ls k (by omega), List.length_append, List.length_append]
    split <;> simp only [List.length_cons, List.length_nil] <;> omega

set_option maxRecDepth 100000 in
set_option maxHeartbeats 4000000 in
theorem y9rule_any (x : Ru) (w : World) (hM : x.In w) (hok : x.ok = true) : Calls Tryz.prog 12 #[x.v] w fun e w' => e = .returned (.string ⟨x.txt.toArray⟩) ∧ Stay w w' := by
  obtain ⟨q, hq⟩ : ∃ q : ByteArray, q = ⟨x.txt.toArray⟩ := ⟨_, rfl⟩
  rw [← hq]
  have HQ : Hid (q.data.toList = x.txt) := by rw [hq]; exact mk_list _
  clear hq
  have hs0 : Stay w (w.alloc (.cells #[.string x.head.pred, x.head.sl, .slice x.a x.body.length x.cap] 48)) := Stay.new w _
  have HC : Hid (∀ W, Stay (w.alloc (.cells #[.string x.head.pred, x.head.sl, .slice x.a x.body.length x.cap] 48)) W → W.cell? ⟨w.heap.size, 2, none⟩ = some (.slice x.a x.body.length x.cap)) := fun W hW => hW.cell (by simp)
  have HS : Hid (Stay w (w.alloc (.cells #[.string x.head.pred, x.head.sl, .slice x.a x.body.length x.cap] 48))) := hs0
  unfold Ru.ok at hok
  rw [Bool.and_eq_true, Bool.and_eq_true, decide_eq_true_eq] at hok
  obtain ⟨⟨h256, hho⟩, hall⟩ := hok
  have hat := y9atom_any x.head _ (TmsS.stay hM.1 hs0) hho
  have hal := At.txt_len hho
  obtain ⟨T0, hT0⟩ : ∃ T : ByteArray, T = ⟨x.head.txt.toArray⟩ := ⟨_, rfl⟩
  have HT0 : Hid (T0.data.toList = x.head.txt) := by rw [hT0]; exact mk_list _
  rw [← hT0] at hat
  clear hT0
  obtain ⟨⟨p, ha, hbk, hof, hcap, hts⟩, a, bk, off, cap, ls⟩ := x
  have HM : Hid (LisS w a bk off ls) := hM.2
  have HA : Hid (0 < ls.length → a = some ⟨bk, off, none⟩) := hM.2.1
  unfold Ru.txt at HQ
  unfold Ru.v
  unfold At.v At.sl at *
  dsimp only at *
  generalize At.txt ⟨p, ha, hbk, hof, hcap, hts⟩ = htx at *
  generalize hts.length = hn at *
  have HL : Hid (ls.all Li.ok = true ∧ htx.length ≤ 66000 ∧ ls.length ≤ 256) := ⟨hall, hal, h256⟩
  have H0 : Hid (T0.data.toList = ruT htx ls 0) := by show T0.data.toList = _; unfold ruT; rw [HT0.out]; simp [catL]
  clear hM hall hal hho hs0
  generalize hm : ls.length = n at *
  have HN : Hid (ls.length = n) := hm
  clear hm
  go_enter Tryz.func12, Tryz.ntmps12
  go_wp2_with (first | (go_at_call 20; refine hat.mono ?_; rintro e W0 ⟨rfl, hs0⟩; have HW0 : Hid (Stay (w.alloc (.cells #[.string p, .slice ha hn hcap, .slice a n cap] 48)) W0) := hs0; clear hs0))
  go_loopw [3, 4] (fun v i wr => Stay (w.alloc (.cells #[.string p, .slice ha hn hcap, .slice a n cap] 48)) wr ∧ ∃ (k : Nat) (S : ByteArray), k ≤ n ∧ i = .int .i64 (k : Int) ∧ v = .string S ∧ S.data.toList = ruT htx ls k) (fun _ i _ => n - (intOf i).toNat)
  case atStart => exact ⟨HW0.out, 0, T0, Nat.zero_le _, rfl, rfl, H0.out⟩
  case round =>
    obtain ⟨hst, k, S, hk, rfl, rfl, hS⟩ := hrel
    have d1 := HC.out wr hst
    have hSl := ruT_len HL.out.1 htx k (by rw [HN.out]; exact hk)
    have hSs : S.size ≤ 17000000 := by
      have : S.data.toList.length = S.size := by simp
      rw [← this, hS]
      have := HL.out.2.1
      have := HL.out.2.2
      omega
    by_cases hlt : k < n
    · have hkt : k < ls.length := by rw [HN.out]; exact hlt
      have hki : (k : Int) < (n : Int) := by omega
      obtain rfl := HA.out (by omega)
      obtain ⟨e0, e1, e2, e3, e4, e5, e6, e7⟩ := ((HM.out.stay HS.out).stay hst).2 k hkt
      have hko := all_at HL.out.1 hkt
      have htm := y9literal_any ls[k] wr e7 hko
      have htl := Li.txt_len hko
      have hnx := ruT_next htx ls k hkt
      have HS1 : Hid (Stay (w.alloc (.cells #[.string p, .slice ha hn hcap, .slice (some ⟨bk, off, none⟩) n cap] 48)) wr) := hst
      have HL2 : Hid (S.data.toList = ruT htx ls k ∧ ruT htx ls (k + 1) = ruT htx ls k ++ (if k = 0 then [32, 58, 45, 32] else [44, 32]) ++ ls[k].txt) := ⟨hS, hnx⟩
      clear hst hko hnx hS hSl e7
      generalize ls[k] = t at *
      obtain ⟨T, hT⟩ : ∃ T : ByteArray, T = ⟨t.txt.toArray⟩ := ⟨_, rfl⟩
      have HT : Hid (T.data.toList = t.txt) := by rw [hT]; exact mk_list _
      have hTs : T.size ≤ 66010 := by rw [hT, mk_size]; exact htl
      rw [← hT] at htm
      unfold Li.v At.sl at htm
      obtain ⟨kd, ⟨tp, ta, tb, to, tc, tts⟩, ⟨va1, s1⟩, ⟨va2, s2⟩⟩ := t
      unfold At.sl at e2
      dsimp only at e0 e1 e2 e3 e4 e5 e6 htm
      generalize tts.length = tn at *
      clear hT htl
      by_cases hk0 : k = 0
      · have hk0b : ((k : Int) == 0) = true := by simp [hk0]
        have HK : Hid (k = 0) := hk0
        have g1 : ¬ 9223372036854775807 < S.size + 4 := by omega
        have g2 : ¬ 9223372036854775807 < S.size + 4 + T.size := by omega
        clear hk0
        go_wp2_with (first | (go_at_call 21; refine htm.mono ?_; rintro e W1 ⟨rfl, hs1⟩))
        go_roundw
        case rel => exact ⟨HS1.out.trans hs1, k + 1, _, by omega, by simp, rfl, by rw [app_list, app_list, HL2.out.2, HL2.out.1, HT.out, if_pos HK.out]⟩
        case measure => simp [intOf]; omega
      · have hk0b : ((k : Int) == 0) = false := by simp [hk0]
        have HK : Hid (¬ k = 0) := hk0
        have g1 : ¬ 9223372036854775807 < S.size + 2 := by omega
        have g2 : ¬ 9223372036854775807 < S.size + 2 + T.size := by omega
        clear hk0
        go_wp2_with (first | (go_at_call 21; refine htm.mono ?_; rintro e W1 ⟨rfl, hs1⟩))
        go_roundw
        case rel => exact ⟨HS1.out.trans hs1, k + 1, _, by omega, by simp, rfl, by rw [app_list, app_list, HL2.out.2, HL2.out.1, HT.out, if_neg HK.out]⟩
        case measure => simp [intOf]; omega
    · obtain rfl : k = n := by omega
      have hge : ¬ (k : Int) < (k : Int) := by omega
      have HS1 : Hid (Stay (w.alloc (.cells #[.string p, .slice ha hn hcap, .slice a k cap] 48)) wr) := hst
      have HX : Hid (S.data.toList ++ [46] = htx ++ ((if k = 0 then [] else [32, 58, 45, 32]) ++ (catL [44, 32] (ls.map Li.txt) ++ [46]))) := by
        show S.data.toList ++ [46] = _
        rw [hS]; unfold ruT
        rw [← HN.out, List.take_length]
        simp
      have g1 : ¬ 9223372036854775807 < S.size + 1 := by omega
      clear hst hS hSl
      go_wp2
      go_ret
      exact ⟨congrArg (fun z => Ending.returned (Value.string z)) (eq_list (by rw [app_list, HQ.out]; exact HX.out)), HS.out.trans HS1.out⟩
end Go.Proofs.YtiobhadchakoiaaGreatDoor
