/- The document's texts of atoms, literals, rules: atom, literal, rule; Atom, Literal, Rule. -/
import Derived.Test.YtiobhadchakoiaaGreatDoorCI
namespace Go.Proofs.YtiobhadchakoiaaGreatDoor
open Go.RowKit Go.Maps

theorem Tm.size_ok {t : Tm} (h : t.ok = true) : t.text.size ≤ 35184372088000 := by
  have := Tm.small h
  rw [show t.text.data.toList.length = t.text.size by simp] at this
  omega
theorem all_at {α : Type} {p : α → Bool} {l : List α} (h : l.all p = true) {k : Nat} (hk : k < l.length) : p l[k] = true := List.all_eq_true.1 h _ (List.getElem_mem hk)
/-- The text so far: k terms are told. -/
def atT (p : List UInt8) (ts : List Tm) (k : Nat) : List UInt8 := p ++ (if k = 0 then [] else 40 :: catL [44, 32] ((ts.take k).map Tm.txt))
theorem atT_next (p : List UInt8) (ts : List Tm) (k : Nat) (h : k < ts.length) : atT p ts (k + 1) = atT p ts k ++ (if k = 0 then [40] else [44, 32]) ++ ts[k].txt := by
  unfold atT
  rw [if_neg (by omega), catL_take Tm.txt [44, 32] ts k h]
  by_cases hk : k = 0
  · subst hk; simp [catL]
  · rw [if_neg hk, if_neg hk, if_neg hk]; simp
theorem atT_len {ts : List Tm} (hok : ts.all Tm.ok = true) (p : List UInt8) : ∀ k, k ≤ ts.length → (atT p ts k).length ≤ p.length + k * 4100
  | 0, _ => by simp [atT]
  | k + 1, h => by
    have ih := atT_len hok p k (by omega)
    have ht := Tm.txt_len (all_at hok (k := k) (by omega))
    rw [atT_next p ts k (by omega), List.length_append, List.length_append]
    split <;> simp only [List.length_cons, List.length_nil] <;> omega
theorem app_list (S T : ByteArray) : (S ++ T).data.toList = S.data.toList ++ T.data.toList := by rw [ByteArray.data_append]; simp
theorem mk_list (l : List UInt8) : (⟨l.toArray⟩ : ByteArray).data.toList = l := by simp
theorem mk_size (l : List UInt8) : (⟨l.toArray⟩ : ByteArray).size = l.length := by show l.toArray.size = _; simp
theorem eq_list {S T : ByteArray} (h : S.data.toList = T.data.toList) : S = T := by
  apply ByteArray.ext
  exact Array.ext' h
theorem of_list {S : ByteArray} {l : List UInt8} (h : S.data.toList = l) : S = ⟨l.toArray⟩ := by rw [← h]

set_option maxRecDepth 100000 in
set_option maxHeartbeats 4000000 in
theorem y9atom_any (x : At) (w : World) (hM : x.In w) (hok : x.ok = true) : Calls Tryz.prog 20 #[x.v] w fun e w' => e = .returned (.string ⟨x.txt.toArray⟩) ∧ Stay w w' := by
  have HC : Hid (∀ W, Stay (w.alloc (.cells #[.string x.pred, x.sl] 45)) W → W.cell? ⟨w.heap.size, 1, none⟩ = some x.sl) := fun W hW => hW.cell (by simp)
  have HS : Hid (Stay w (w.alloc (.cells #[.string x.pred, x.sl] 45))) := Stay.new w _
  obtain ⟨p, a, bk, off, cap, ts⟩ := x
  have HM : Hid (TmsS w a bk off ts) := hM
  have HA : Hid (0 < ts.length → a = some ⟨bk, off, none⟩) := hM.1
  unfold At.ok at hok
  dsimp only at hok
  rw [Bool.and_eq_true, Bool.and_eq_true, decide_eq_true_eq] at hok
  obtain ⟨⟨hnm, h16⟩, hall⟩ := hok
  have hp64 := (nameB_len hnm).2
  have HL : Hid (ts.all Tm.ok = true ∧ p.data.toList.length ≤ 64 ∧ ts.length ≤ 16) := ⟨hall, hp64, h16⟩
  unfold At.v At.txt At.sl at *
  dsimp only at *
  obtain ⟨q, hq⟩ : ∃ q : ByteArray, q = ⟨(p.data.toList ++ (if ts.length = 0 then [] else 40 :: (catL [44, 32] (ts.map Tm.txt) ++ [41]))).toArray⟩ := ⟨_, rfl⟩
  rw [← hq]
  have HQ : Hid (q.data.toList = p.data.toList ++ (if ts.length = 0 then [] else 40 :: (catL [44, 32] (ts.map Tm.txt) ++ [41]))) := by rw [hq]; exact mk_list _
  clear hq
  have H0 : Hid (p.data.toList = atT p.data.toList ts 0) := by show p.data.toList = _; unfold atT; rw [if_pos rfl, List.append_nil]
  clear hM hnm hall hp64
  generalize hm : ts.length = n at *
  have HN : Hid (ts.length = n) := hm
  clear hm
  go_enter Tryz.func20, Tryz.ntmps20
  go_wp2_with fail
  go_loopw [3, 4] (fun v i wr => Stay (w.alloc (.cells #[.string p, .slice a n cap] 45)) wr ∧ ∃ (k : Nat) (S : ByteArray), k ≤ n ∧ i = .int .i64 (k : Int) ∧ v = .string S ∧ S.data.toList = atT p.data.toList ts k) (fun _ i _ => n - (intOf i).toNat)
  case atStart => exact ⟨Stay.refl _, 0, p, Nat.zero_le _, rfl, rfl, H0.out⟩
  case round =>
    obtain ⟨hst, k, S, hk, rfl, rfl, hS⟩ := hrel
    have d1 := HC.out wr hst
    have hSl := atT_len HL.out.1 p.data.toList k (by rw [HN.out]; exact hk)
    have hSs : S.size ≤ 65664 := by
      have : S.data.toList.length = S.size := by simp
      rw [← this, hS]
      have := HL.out.2.1
      omega
    by_cases hlt : k < n
    · have hkt : k < ts.length := by rw [HN.out]; exact hlt
      have hki : (k : Int) < (n : Int) := by omega
      obtain rfl := HA.out (by omega)
      obtain ⟨e0, e1⟩ := ((HM.out.stay HS.out).stay hst).2 k hkt
      have hko := all_at HL.out.1 hkt
      have htm := y9term_any ts[k] wr (Tm.size_ok hko)
      have htl := Tm.txt_len hko
      have hnx := atT_next p.data.toList ts k hkt
      have HS1 : Hid (Stay (w.alloc (.cells #[.string p, .slice (some ⟨bk, off, none⟩) n cap] 45)) wr) := hst
      have HL2 : Hid (S.data.toList = atT p.data.toList ts k ∧ atT p.data.toList ts (k + 1) = atT p.data.toList ts k ++ (if k = 0 then [40] else [44, 32]) ++ ts[k].txt) := ⟨hS, hnx⟩
      clear hst hko hnx hS hSl
      generalize ts[k] = t at *
      obtain ⟨T, hT⟩ : ∃ T : ByteArray, T = ⟨t.txt.toArray⟩ := ⟨_, rfl⟩
      have HT : Hid (T.data.toList = t.txt) := by rw [hT]; exact mk_list _
      have hTs : T.size ≤ 4098 := by rw [hT, mk_size]; exact htl
      rw [← hT] at htm
      unfold Tm.v at htm
      obtain ⟨va, s⟩ := t
      dsimp only at e0 e1 htm
      clear hT htl
      by_cases hk0 : k = 0
      · have hk0b : ((k : Int) == 0) = true := by simp [hk0]
        have HK : Hid (k = 0) := hk0
        have g1 : ¬ 9223372036854775807 < S.size + 1 := by omega
        have g2 : ¬ 9223372036854775807 < S.size + 1 + T.size := by omega
        clear hk0
        go_wp2_with (first | (go_at_call 41; refine htm.mono ?_; rintro e W1 ⟨rfl, hs1⟩))
        go_roundw
        case rel => exact ⟨HS1.out.trans hs1, k + 1, _, by omega, by simp, rfl, by rw [app_list, app_list, HL2.out.2, HL2.out.1, HT.out, if_pos HK.out]⟩
        case measure => simp [intOf]; omega
      · have hk0b : ((k : Int) == 0) = false := by simp [hk0]
        have HK : Hid (¬ k = 0) := hk0
        have g1 : ¬ 9223372036854775807 < S.size + 2 := by omega
        have g2 : ¬ 9223372036854775807 < S.size + 2 + T.size := by omega
        clear hk0
        go_wp2_with (first | (go_at_call 41; refine htm.mono ?_; rintro e W1 ⟨rfl, hs1⟩))
        go_roundw
        case rel => exact ⟨HS1.out.trans hs1, k + 1, _, by omega, by simp, rfl, by rw [app_list, app_list, HL2.out.2, HL2.out.1, HT.out, if_neg HK.out]⟩
        case measure => simp [intOf]; omega
    · obtain rfl : k = n := by omega
      have hge : ¬ (k : Int) < (k : Int) := by omega
      have HS1 : Hid (Stay (w.alloc (.cells #[.string p, .slice a k cap] 45)) wr) := hst
      have HX : Hid (S.data.toList = p.data.toList ++ (if k = 0 then [] else 40 :: catL [44, 32] (ts.map Tm.txt))) := by
        show S.data.toList = _
        rw [hS]; unfold atT
        rw [← HN.out, List.take_length]
      clear hst hS hSl
      by_cases hk0 : k = 0
      · have hk0i : (k : Int) ≤ 0 := by omega
        have HK : Hid (k = 0) := hk0
        clear hk0
        go_wp2
        go_ret
        exact ⟨congrArg (fun z => Ending.returned (Value.string z)) (eq_list (by rw [HX.out, HQ.out, HK.out]; rfl)), HS.out.trans HS1.out⟩
      · have hk0i : (0 : Int) < (k : Int) := by omega
        have HK : Hid (¬ k = 0) := hk0
        have g1 : ¬ 9223372036854775807 < S.size + 1 := by omega
        clear hk0
        go_wp2
        go_ret
        exact ⟨congrArg (fun z => Ending.returned (Value.string z)) (eq_list (by rw [app_list, HX.out, HQ.out, if_neg HK.out, if_neg HK.out]; simp)), HS.out.trans HS1.out⟩
end Go.Proofs.YtiobhadchakoiaaGreatDoor
